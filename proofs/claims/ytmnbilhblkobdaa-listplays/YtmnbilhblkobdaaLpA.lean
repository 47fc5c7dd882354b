
/- Pure (layer 21): spots of a list, the way along it, and the calls of list over words. No statement of the seat is proved here. -/
import Derived.Test.YtmnbilhblkobdaaLiA
namespace Go.Proofs.Ytmnbilhblkobdaa
open Go.RowKit

/-- A spot: the cell that leads there, what it has, the node's key. -/
structure Sp where
  l : Int
  n : Int
  k : Int
def Sp.zero : Sp := ⟨0, 0, 0⟩
def Sp.v (s : Sp) : Value := .agg #[.int .u64 s.l, .int .u64 s.n, .int .u64 s.k]
def ld (a : Int) : Int := uw (a + 1)
def Sp.nd (s : Sp) : Int := uw (s.n - 1)
def Sp.Ok (s : Sp) : Prop := isW s.l ∧ isW s.n ∧ isW s.k
theorem zero_isW : isW 0 := ⟨Int.le_refl _, by simp⟩
theorem Sp.zero_ok : Sp.zero.Ok := ⟨zero_isW, zero_isW, zero_isW⟩
def Wd.follow (s : Wd) (a : Int) : (Sp × Int) × Wd :=
  if (s.get a).1.2 ≠ 0 then ((Sp.zero, (s.get a).1.2), (s.get a).2)
  else if (s.get a).1.1 = 0 then ((⟨a, 0, 0⟩, 0), (s.get a).2)
  else if ((s.get a).2.get (uw ((s.get a).1.1 - 1))).1.2 ≠ 0 then ((Sp.zero, ((s.get a).2.get (uw ((s.get a).1.1 - 1))).1.2), ((s.get a).2.get (uw ((s.get a).1.1 - 1))).2)
  else ((⟨a, (s.get a).1.1, ((s.get a).2.get (uw ((s.get a).1.1 - 1))).1.1⟩, 0), ((s.get a).2.get (uw ((s.get a).1.1 - 1))).2)
theorem Wd.Ok.follow {s : Wd} (h : s.Ok) {a : Int} (ha : isW a) : (s.follow a).2.Ok ∧ (s.follow a).1.1.Ok ∧ (s.follow a).2.W = s.W := by
  have h1 := h.get a
  have h2 := h1.1.get (uw ((s.get a).1.1 - 1))
  unfold Wd.follow
  split
  · exact ⟨h1.1, Sp.zero_ok, h1.2.2⟩
  · split
    · exact ⟨h1.1, ⟨ha, zero_isW, zero_isW⟩, h1.2.2⟩
    · split
      · exact ⟨h2.1, Sp.zero_ok, h2.2.2.trans h1.2.2⟩
      · exact ⟨h2.1, ⟨ha, h1.2.1, h2.2.1⟩, h2.2.2.trans h1.2.2⟩

/-- The way along a list: so many rounds at most; what is passed over is told by the spots so far and the next one. -/
def way (pass : List Sp → Sp → Bool) : Nat → Sp → Int → List Sp → Wd → (Sp × Int) × List Sp × Wd
  | 0, _, _, P, s => ((Sp.zero, 0), P, s)
  | m + 1, b, a, P, s =>
    if (s.follow a).1.2 ≠ 0 ∨ (s.follow a).1.1.n = 0 then ((s.follow a).1, P, (s.follow a).2)
    else if b.n ≠ 0 ∧ (s.follow a).1.1.k ≤ b.k then ((Sp.zero, 310), P, (s.follow a).2)
    else if pass P (s.follow a).1.1 = false then (((s.follow a).1.1, 0), P, (s.follow a).2)
    else way pass m (s.follow a).1.1 (ld (s.follow a).1.1.nd) (P ++ [(s.follow a).1.1]) (s.follow a).2
theorem way_end {pass : List Sp → Sp → Bool} {m : Nat} {b t : Sp} {a e : Int} {P : List Sp} {s s1 : Wd} (h : s.follow a = ((t, e), s1)) (he : e ≠ 0 ∨ t.n = 0) : way pass (m + 1) b a P s = ((t, e), P, s1) := by
  unfold way; rw [h]; exact if_pos he
theorem way_list {pass : List Sp → Sp → Bool} {m : Nat} {b t : Sp} {a : Int} {P : List Sp} {s s1 : Wd} (h : s.follow a = ((t, 0), s1)) (ht : t.n ≠ 0) (hb : b.n ≠ 0) (hk : t.k ≤ b.k) : way pass (m + 1) b a P s = ((Sp.zero, 310), P, s1) := by
  unfold way; rw [h]; simp [ht, hb, hk]
theorem way_stop {pass : List Sp → Sp → Bool} {m : Nat} {b t : Sp} {a : Int} {P : List Sp} {s s1 : Wd} (h : s.follow a = ((t, 0), s1)) (ht : t.n ≠ 0) (hb : ¬ (b.n ≠ 0 ∧ t.k ≤ b.k)) (hp : pass P t = false) : way pass (m + 1) b a P s = ((t, 0), P, s1) := by
  unfold way; rw [h]; simp only [ne_eq, not_true_eq_false, ht, or_self, if_false, if_neg hb, hp, if_true]
theorem way_next {pass : List Sp → Sp → Bool} {m : Nat} {b t : Sp} {a : Int} {P : List Sp} {s s1 : Wd} (h : s.follow a = ((t, 0), s1)) (ht : t.n ≠ 0) (hb : ¬ (b.n ≠ 0 ∧ t.k ≤ b.k)) (hp : pass P t = true) : way pass (m + 1) b a P s = way pass m t (ld t.nd) (P ++ [t]) s1 := by
  conv => lhs; unfold way
  rw [h]; simp only [ne_eq, not_true_eq_false, ht, or_self, if_false, if_neg hb, hp, Bool.true_eq_false]
/-- More rounds than there are words. -/
def FU : Nat := 18446744073709551617
def Wd.way (s : Wd) (pass : List Sp → Sp → Bool) (l : Int) : (Sp × Int) × List Sp × Wd := Go.Proofs.Ytmnbilhblkobdaa.way pass FU Sp.zero (ld l) [] s
def pLt (key : Int) : List Sp → Sp → Bool := fun _ t => decide (t.k < key)
def pLe (key : Int) : List Sp → Sp → Bool := fun _ t => decide (t.k ≤ key)
def pNo : List Sp → Sp → Bool := fun _ _ => false
def pAll (count : Int) : List Sp → Sp → Bool := fun P _ => decide ((P.length : Int) ≠ count)
def Wd.seek (s : Wd) (l key : Int) : (Sp × Int) × Wd := ((s.way (pLt key) l).1, (s.way (pLt key) l).2.2)
def Sp.has (t : Sp) (key : Int) : Bool := (t.n != 0) && (t.k == key)
def Sp.there (t : Sp) : Bool := t.n != 0
/-- The spots of all nodes. -/
def Wd.all (s : Wd) (l : Int) : (List Sp × Int) × Wd :=
  if (s.get l).1.2 ≠ 0 then (([], (s.get l).1.2), (s.get l).2)
  else if ((s.get l).2.way (pAll (s.get l).1.1) l).1.2 ≠ 0 then (([], ((s.get l).2.way (pAll (s.get l).1.1) l).1.2), ((s.get l).2.way (pAll (s.get l).1.1) l).2.2)
  else if ((s.get l).2.way (pAll (s.get l).1.1) l).1.1.n ≠ 0 ∨ (((s.get l).2.way (pAll (s.get l).1.1) l).2.1.length : Int) ≠ (s.get l).1.1 then (([], 310), ((s.get l).2.way (pAll (s.get l).1.1) l).2.2)
  else ((((s.get l).2.way (pAll (s.get l).1.1) l).2.1, 0), ((s.get l).2.way (pAll (s.get l).1.1) l).2.2)
def Wd.empty (s : Wd) (l : Int) : Int × Wd := if (s.put l 0).1 ≠ 0 then s.put l 0 else (s.put l 0).2.put (ld l) 0
def Wd.new (s : Wd) (r : Int) : (Int × Int) × Wd :=
  if (s.take r 2).1.2 ≠ 0 then ((0, (s.take r 2).1.2), (s.take r 2).2)
  else if ((s.take r 2).2.empty (s.take r 2).1.1).1 ≠ 0 then ((0, ((s.take r 2).2.empty (s.take r 2).1.1).1), ((s.take r 2).2.empty (s.take r 2).1.1).2)
  else (((s.take r 2).1.1, 0), ((s.take r 2).2.empty (s.take r 2).1.1).2)
def Wd.hang (s : Wd) (at_ : Sp) (node key : Int) : Int × Wd :=
  if (s.put node key).1 ≠ 0 then s.put node key
  else if ((s.put node key).2.put (ld node) at_.n).1 ≠ 0 then (s.put node key).2.put (ld node) at_.n
  else ((s.put node key).2.put (ld node) at_.n).2.put at_.l (uw (node + 1))
def Wd.unhang (s : Wd) (at_ : Sp) : Int × Wd :=
  if (s.get (ld at_.nd)).1.2 ≠ 0 then ((s.get (ld at_.nd)).1.2, (s.get (ld at_.nd)).2)
  else (s.get (ld at_.nd)).2.put at_.l (s.get (ld at_.nd)).1.1
def Wd.recount (s : Wd) (l more : Int) : Int × Wd :=
  if (s.get l).1.2 ≠ 0 then ((s.get l).1.2, (s.get l).2)
  else (s.get l).2.put l (uw ((s.get l).1.1 + more))
/-- A truth and an error: what Insert and Remove answer. -/
def Wd.insert (s : Wd) (r l key : Int) : (Bool × Int) × Wd :=
  if (s.seek l key).1.2 ≠ 0 ∨ (s.seek l key).1.1.has key = true then ((false, (s.seek l key).1.2), (s.seek l key).2)
  else if ((s.seek l key).2.take r 2).1.2 ≠ 0 then ((false, ((s.seek l key).2.take r 2).1.2), ((s.seek l key).2.take r 2).2)
  else if (((s.seek l key).2.take r 2).2.hang (s.seek l key).1.1 ((s.seek l key).2.take r 2).1.1 key).1 ≠ 0 then ((false, (((s.seek l key).2.take r 2).2.hang (s.seek l key).1.1 ((s.seek l key).2.take r 2).1.1 key).1), (((s.seek l key).2.take r 2).2.hang (s.seek l key).1.1 ((s.seek l key).2.take r 2).1.1 key).2)
  else ((decide (((((s.seek l key).2.take r 2).2.hang (s.seek l key).1.1 ((s.seek l key).2.take r 2).1.1 key).2.recount l 1).1 = 0), ((((s.seek l key).2.take r 2).2.hang (s.seek l key).1.1 ((s.seek l key).2.take r 2).1.1 key).2.recount l 1).1), ((((s.seek l key).2.take r 2).2.hang (s.seek l key).1.1 ((s.seek l key).2.take r 2).1.1 key).2.recount l 1).2)
def Wd.remove (s : Wd) (r l key : Int) : (Bool × Int) × Wd :=
  if (s.seek l key).1.2 ≠ 0 ∨ (s.seek l key).1.1.has key = false then ((false, (s.seek l key).1.2), (s.seek l key).2)
  else if ((s.seek l key).2.unhang (s.seek l key).1.1).1 ≠ 0 then ((false, ((s.seek l key).2.unhang (s.seek l key).1.1).1), ((s.seek l key).2.unhang (s.seek l key).1.1).2)
  else if (((s.seek l key).2.unhang (s.seek l key).1.1).2.recount l 18446744073709551615).1 ≠ 0 then ((false, (((s.seek l key).2.unhang (s.seek l key).1.1).2.recount l 18446744073709551615).1), (((s.seek l key).2.unhang (s.seek l key).1.1).2.recount l 18446744073709551615).2)
  else ((decide (((((s.seek l key).2.unhang (s.seek l key).1.1).2.recount l 18446744073709551615).2.give r (s.seek l key).1.1.nd 2).1 = 0), ((((s.seek l key).2.unhang (s.seek l key).1.1).2.recount l 18446744073709551615).2.give r (s.seek l key).1.1.nd 2).1), ((((s.seek l key).2.unhang (s.seek l key).1.1).2.recount l 18446744073709551615).2.give r (s.seek l key).1.1.nd 2).2)
def Wd.has (s : Wd) (l key : Int) : (Bool × Int) × Wd := (((s.seek l key).1.1.has key, (s.seek l key).1.2), (s.seek l key).2)
def Wd.len (s : Wd) (l : Int) : (Int × Int) × Wd := if (s.get l).1.2 ≠ 0 then ((0, (s.get l).1.2), (s.get l).2) else (((s.get l).1.1, 0), (s.get l).2)
def Wd.above (s : Wd) (l key : Int) : (Int × Bool × Int) × Wd := (((s.way (pLe key) l).1.1.k, (s.way (pLe key) l).1.1.there, (s.way (pLe key) l).1.2), (s.way (pLe key) l).2.2)
def Wd.first (s : Wd) (l : Int) : (Int × Bool × Int) × Wd := (((s.way pNo l).1.1.k, (s.way pNo l).1.1.there, (s.way pNo l).1.2), (s.way pNo l).2.2)
def Wd.keys (s : Wd) (l : Int) : (List Int × Int) × Wd := if (s.all l).1.2 ≠ 0 then (([], (s.all l).1.2), (s.all l).2) else (((s.all l).1.1.map Sp.k, 0), (s.all l).2)
/-- Gives back nodes, one behind the other. -/
def Wd.gives (s : Wd) (r : Int) : List Sp → Int × Wd
  | [] => (0, s)
  | t :: L => if (s.give r t.nd 2).1 ≠ 0 then s.give r t.nd 2 else (s.give r t.nd 2).2.gives r L
def Wd.giveNodes (s : Wd) (r l : Int) : (Int × Int) × Wd :=
  if (s.all l).1.2 ≠ 0 then ((0, (s.all l).1.2), (s.all l).2)
  else if ((s.all l).2.gives r (s.all l).1.1).1 ≠ 0 then ((0, ((s.all l).2.gives r (s.all l).1.1).1), ((s.all l).2.gives r (s.all l).1.1).2)
  else ((((s.all l).1.1.length : Int), 0), ((s.all l).2.gives r (s.all l).1.1).2)
def Wd.clear (s : Wd) (r l : Int) : (Int × Int) × Wd :=
  if (s.giveNodes r l).1.2 ≠ 0 then ((0, (s.giveNodes r l).1.2), (s.giveNodes r l).2)
  else if (s.giveNodes r l).1.1 = 0 then ((0, 0), (s.giveNodes r l).2)
  else if ((s.giveNodes r l).2.empty l).1 ≠ 0 then ((0, ((s.giveNodes r l).2.empty l).1), ((s.giveNodes r l).2.empty l).2)
  else (((s.giveNodes r l).1.1, 0), ((s.giveNodes r l).2.empty l).2)
def Wd.drop (s : Wd) (r l : Int) : Int × Wd :=
  if (s.giveNodes r l).1.2 ≠ 0 then ((s.giveNodes r l).1.2, (s.giveNodes r l).2)
  else (s.giveNodes r l).2.give r l 2
end Go.Proofs.Ytmnbilhblkobdaa
