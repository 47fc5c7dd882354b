
/- Pure (layer 25): the ways of a map, and its calls, by gets and puts. No statement of the seat is proved here. -/
import Derived.Test.YtiacennkjjfifabTkA
namespace Go.Proofs.Ytiacennkjjfifab
open Go.RowKit

/-- One call, and then another one, if it went well. -/
def bnd {α β : Type} (F : Wd → (α × Int) × Wd) (G : α → Wd → (β × Int) × Wd) (d : β) : Wd → (β × Int) × Wd := fun s => if (F s).1.2 ≠ 0 then ((d, (F s).1.2), (F s).2) else G (F s).1.1 (F s).2
def rtn {α : Type} (x : α) : Wd → (α × Int) × Wd := fun s => ((x, 0), s)
def err {α : Type} (d : α) (e : Int) : Wd → (α × Int) × Wd := fun s => ((d, e), s)
def putU (a x : Int) : Wd → (Unit × Int) × Wd := fun s => (((), (s.put a x).1), (s.put a x).2)
def giveU (r a n : Int) : Wd → (Unit × Int) × Wd := fun s => (((), (s.give r a n).1), (s.give r a n).2)
theorem bnd_ok {α β : Type} {F : Wd → (α × Int) × Wd} {G : α → Wd → (β × Int) × Wd} {d : β} {s s1 : Wd} {x : α} (h : F s = ((x, 0), s1)) : bnd F G d s = G x s1 := by unfold bnd; rw [h]; exact if_neg (fun q => q rfl)
theorem bnd_no {α β : Type} {F : Wd → (α × Int) × Wd} {G : α → Wd → (β × Int) × Wd} {d : β} {s s1 : Wd} {x : α} {e : Int} (h : F s = ((x, e), s1)) (he : e ≠ 0) : bnd F G d s = ((d, e), s1) := by unfold bnd; rw [h]; exact if_pos he
theorem bnd_step {α β : Type} {G0 : Wd → (α × Int) × Wd} {G : α → Wd → (β × Int) × Wd} {d y : β} {s s2 : Wd} {e : Int} (h : bnd G0 G d s = ((y, e), s2)) :
    ∃ x f s1, G0 s = ((x, f), s1) ∧ (f = 0 → G x s1 = ((y, e), s2)) ∧ (f ≠ 0 → e = f ∧ s2 = s1 ∧ y = d) := by
  obtain ⟨⟨⟨x, f⟩, s1⟩, hF⟩ : ∃ r, G0 s = r := ⟨_, rfl⟩
  refine ⟨x, f, s1, hF, fun hf => ?_, fun hf => ?_⟩
  · subst hf
    rw [bnd_ok hF] at h
    exact h
  · rw [bnd_no hF hf] at h
    simp only [Prod.mk.injEq] at h
    exact ⟨h.1.2.symm, h.2.symm, h.1.1.symm⟩
theorem rtn_eq {α : Type} {x y : α} {s s1 : Wd} {e : Int} (h : rtn x s = ((y, e), s1)) : y = x ∧ e = 0 ∧ s1 = s := by
  unfold rtn at h
  simp only [Prod.mk.injEq] at h
  exact ⟨h.1.1.symm, h.1.2.symm, h.2.symm⟩
theorem err_eq {α : Type} {x y : α} {s s1 : Wd} {e f : Int} (h : err x f s = ((y, e), s1)) : y = x ∧ e = f ∧ s1 = s := by
  unfold err at h
  simp only [Prod.mk.injEq] at h
  exact ⟨h.1.1.symm, h.1.2.symm, h.2.symm⟩

def hashK (k : Int) : Int := uw (k * 11400714819323198485)
/-- The digit of a key, from the highest one on. -/
def dgK (k : Int) (d : Nat) : Int := hashK k / (2 : Int) ^ (60 - 4 * d) % 16
/-- What a slot has: nothing, a leaf, a node; and where. -/
def knd (x : Int) : Int := if x = 0 then 0 else if x % 2 = 0 then 2 else 1
def whr (x : Int) : Int := if x = 0 then 0 else if x % 2 = 0 then (x - 1) / 2 else x / 2
/-- Where a way ends. -/
structure En where
  cell : Int
  word : Int
  d : Nat
  what : Int
  leaf : Int
  key : Int
def En.zero : En := ⟨0, 0, 0, 0, 0, 0⟩
def En.has (e : En) (k : Int) : Bool := decide (e.what = 1) && decide (e.key = k)
/-- The way of a key, from the digit d on. -/
def wayK (k : Int) : Nat → Int → Nat → Wd → (En × Int) × Wd
  | 0, _, _ => err En.zero 350
  | n + 1, at_, d => bnd (fun s => s.get (uw (at_ + dgK k d))) (fun x =>
      if knd x ≠ 2 then rtn ⟨uw (at_ + dgK k d), x, d, knd x, whr x, 0⟩ else wayK k n (whr x) (d + 1)) En.zero
def wayF (at_ k : Int) : Wd → (En × Int) × Wd := wayK k 16 at_ 0
def reachF (at_ k : Int) : Wd → (En × Int) × Wd := bnd (wayF at_ k) (fun e => if e.what = 1 then bnd (fun s => s.get (uw e.leaf)) (fun x => rtn { e with key := x }) En.zero else rtn e) En.zero
/-- Lay of a map: so many rounds. -/
def slay (at_ : Int) : Nat → Wd → Int × Wd
  | 0, s => (0, s)
  | k + 1, s => if (slay at_ k s).1 = 0 then (slay at_ k s).2.put (uw (at_ + k)) 0 else slay at_ k s
def Wd.slay (s : Wd) (at_ : Int) : Int × Wd := Go.Proofs.Ytiacennkjjfifab.slay at_ 16 s
def Wd.snew (s : Wd) (room : Int) : (Int × Int) × Wd :=
  match s.take room 16 with
  | ((at_, e), s1) => if e ≠ 0 then ((0, e), s1) else match s1.slay at_ with
    | (f, s2) => if f ≠ 0 then ((0, f), s2) else ((at_, 0), s2)
def tnewF (room : Int) : Wd → (Int × Int) × Wd := fun s => s.snew room
def leafW (a : Int) : Int := uw (uw (2 * a) + 1)
def nodeW (a : Int) : Int := uw (uw (2 * a) + 2)
def hangF (room cell k v : Int) : Wd → (Unit × Int) × Wd := bnd (fun s => s.take room 2) (fun a => bnd (putU (uw a) k) (fun _ => bnd (putU (uw (a + 1)) v) (fun _ => putU cell (leafW a)) ()) ()) ()
/-- The leaf in e is pushed down, the digit d being the next one. -/
def partK (room : Int) (e : En) (k v : Int) : Nat → Int → Nat → Wd → (Unit × Int) × Wd
  | 0, _, _ => err () 350
  | n + 1, cell, d => bnd (tnewF room) (fun a => bnd (putU cell (nodeW a)) (fun _ =>
      if uw (a + dgK e.key d) = uw (a + dgK k d) then partK room e k v n (uw (a + dgK k d)) (d + 1)
      else bnd (putU (uw (a + dgK e.key d)) e.word) (fun _ => hangF room (uw (a + dgK k d)) k v) ()) ()) ()
def partF (room : Int) (e : En) (k v : Int) : Wd → (Unit × Int) × Wd := partK room e k v (15 - e.d) e.cell (e.d + 1)
/-- A key gets what becomes of its value. -/
def chgF (bf : Int → Int) (room at_ k : Int) : Wd → ((Int × Bool) × Int) × Wd := bnd (reachF at_ k) (fun e =>
    if e.what = 0 then bnd (hangF room e.cell k (bf 0)) (fun _ => rtn (0, false)) (0, false)
    else if e.key ≠ k then bnd (partF room e k (bf 0)) (fun _ => rtn (0, false)) (0, false)
    else bnd (fun s => s.get (uw (e.leaf + 1))) (fun old => bnd (putU (uw (e.leaf + 1)) (bf old)) (fun _ => rtn (old, true)) (0, false)) (0, false)) (0, false)
def tputF (room at_ k v : Int) : Wd → ((Int × Bool) × Int) × Wd := chgF (fun _ => v) room at_ k
def taddF (room at_ k v : Int) : Wd → (Int × Int) × Wd := bnd (chgF (fun o => uw (o + v)) room at_ k) (fun r => rtn (uw (r.1 + v))) 0
def tgetF (at_ k : Int) : Wd → ((Int × Bool) × Int) × Wd := bnd (reachF at_ k) (fun e => if e.has k = true then bnd (fun s => s.get (uw (e.leaf + 1))) (fun v => rtn (v, true)) (0, false) else rtn (0, false)) (0, false)
def tdelF (room at_ k : Int) : Wd → ((Int × Bool) × Int) × Wd := bnd (reachF at_ k) (fun e => if e.has k = true then
    bnd (fun s => s.get (uw (e.leaf + 1))) (fun v => bnd (putU e.cell 0) (fun _ => bnd (giveU room e.leaf 2) (fun _ => rtn (v, true)) (0, false)) (0, false)) (0, false) else rtn (0, false)) (0, false)
def tdepF (at_ k : Int) : Wd → (Int × Int) × Wd := bnd (wayF at_ k) (fun e => rtn (e.d : Int)) 0
end Go.Proofs.Ytiacennkjjfifab
