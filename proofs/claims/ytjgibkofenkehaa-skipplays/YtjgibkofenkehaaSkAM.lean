/-
  No statement of the seat is proved here. (Several texts in one: SkA, SkP.)
-/
import Derived.Test.YtjgibkofenkehaaCMem
import Derived.WalkKit

/- Pure (layer 22): words that are got and put, and a room's calls over them. No statement of the seat is proved here. -/
namespace Go.Proofs.Ytjgibkofenkehaa
open Go.RowKit

def uw (x : Int) : Int := IntKind.u64.wrap x
def iw (x : Int) : Int := wrap64 x
def isW (x : Int) : Prop := 0 ≤ x ∧ x < 18446744073709551616
theorem uw_isW (x : Int) : isW (uw x) := by unfold uw isW; rw [IntKind.wrap_u64]; omega
theorem uw_id {x : Int} (h : isW x) : uw x = x := by unfold uw isW at *; rw [IntKind.wrap_u64]; omega

/-- What was asked for: a put or a get, of which cell, with which word. -/
structure Acc where
  p : Bool
  a : Int
  x : Int
/-- Words; what was asked for so far; how many calls are answered as cells do; the error then. -/
structure Wd where
  W : List Int
  L : List Acc
  g : Int
  c : Int

def oat (xs : List Int) (i : Nat) : Int := xs[i]?.getD 0
def Wd.lg (s : Wd) (q : Acc) : Wd := { s with L := s.L ++ [q] }
/-- What is answered to what was asked for last, of the cell a. -/
def Wd.ask (s : Wd) (a : Int) : Int := if s.g < (s.L.length : Int) ∧ s.c ≠ 0 then s.c else if (s.W.length : Int) ≤ a then 4 else 0
def Wd.get (s : Wd) (a : Int) : (Int × Int) × Wd :=
  if (s.lg ⟨false, a, 0⟩).ask a ≠ 0 then ((0, (s.lg ⟨false, a, 0⟩).ask a), s.lg ⟨false, a, 0⟩) else ((oat s.W a.toNat, 0), s.lg ⟨false, a, 0⟩)
def Wd.put (s : Wd) (a x : Int) : Int × Wd :=
  if (s.lg ⟨true, a, x⟩).ask a ≠ 0 then ((s.lg ⟨true, a, x⟩).ask a, s.lg ⟨true, a, x⟩) else (0, { s.lg ⟨true, a, x⟩ with W := s.W.set a.toNat x })

/-- What words keep to: they are words. -/
def Wd.Ok (s : Wd) : Prop := (∀ x ∈ s.W, isW x) ∧ s.W.length ≤ 17592186044416
theorem oat_isW {l : List Int} (h : ∀ x ∈ l, isW x) (i : Nat) : isW (oat l i) := by
  unfold oat
  cases e : l[i]? with
  | none => exact ⟨Int.le_refl _, by simp⟩
  | some x => exact h x (List.mem_of_getElem? e)
theorem Wd.Ok.get {s : Wd} (h : s.Ok) (a : Int) : (s.get a).2.Ok ∧ isW (s.get a).1.1 ∧ (s.get a).2.W = s.W := by
  unfold Wd.get
  split
  · exact ⟨h, ⟨Int.le_refl _, by simp⟩, rfl⟩
  · exact ⟨h, oat_isW h.1 _, rfl⟩
theorem Wd.Ok.put {s : Wd} (h : s.Ok) (a : Int) {x : Int} (hx : isW x) : (s.put a x).2.Ok := by
  unfold Wd.put
  split
  · exact h
  · refine ⟨fun y hy => ?_, by simpa [Wd.lg] using h.2⟩
    rcases List.mem_or_eq_of_mem_set hy with h1 | h1
    · exact h.1 y h1
    · rw [h1]; exact hx
/-- There is room for so many more to be told. -/
def Rm (s : Wd) (k : Nat) : Prop := s.L.length + k ≤ 1000000
theorem Rm.le {s : Wd} {k j : Nat} (h : Rm s k) (hj : j ≤ k) : Rm s j := by unfold Rm at *; omega
theorem get_len (s : Wd) (a : Int) : (s.get a).2.L.length = s.L.length + 1 := by unfold Wd.get; split <;> simp [Wd.lg]
theorem put_len (s : Wd) (a x : Int) : (s.put a x).2.L.length = s.L.length + 1 := by unfold Wd.put; split <;> simp [Wd.lg]
theorem Rm.get {s s1 : Wd} {a x e : Int} {k : Nat} (h : Rm s (k + 1)) (heq : s.get a = ((x, e), s1)) : Rm s1 k := by
  have q := get_len s a
  rw [heq] at q
  have q2 : s1.L.length = s.L.length + 1 := q
  unfold Rm at *; omega
theorem Rm.put {s s1 : Wd} {a x e : Int} {k : Nat} (h : Rm s (k + 1)) (heq : s.put a x = (e, s1)) : Rm s1 k := by
  have q := put_len s a x
  rw [heq] at q
  have q2 : s1.L.length = s.L.length + 1 := q
  unfold Rm at *; omega
/-- What an access leaves alone. -/
structure Lik (s s' : Wd) : Prop where
  g : s'.g = s.g
  c : s'.c = s.c
  n : s'.W.length = s.W.length

/-- The cells of a header. -/
def endA (at_ : Int) : Int := uw (at_ + 1)
def hdA (at_ n : Int) : Int := uw (uw (at_ + 1) + n)

/-- Lay's loop: so many rounds. -/
def layK (at_ : Int) (es : Int × Wd) : Nat → Int × Wd
  | 0 => es
  | k + 1 => if (layK at_ es k).1 = 0 then (layK at_ es k).2.put (hdA at_ ((k : Int) + 1)) 0 else layK at_ es k
theorem layK_stop (at_ : Int) (es : Int × Wd) (k : Nat) (h : (layK at_ es k).1 ≠ 0) : ∀ j, layK at_ es (k + j) = layK at_ es k
  | 0 => rfl
  | j + 1 => by
    have ih := layK_stop at_ es k h j
    show (if (layK at_ es (k + j)).1 = 0 then (layK at_ es (k + j)).2.put (hdA at_ (((k + j : Nat) : Int) + 1)) 0 else layK at_ es (k + j)) = _
    rw [ih, if_neg h]
def Wd.lay1 (s : Wd) (at_ fr to : Int) : Int × Wd := if (s.put at_ fr).1 = 0 then (s.put at_ fr).2.put (endA at_) to else s.put at_ fr
def Wd.lay (s : Wd) (at_ fr to : Int) : Int × Wd := if to < fr then (2, s) else layK at_ (s.lay1 at_ fr to) 16
def mayN (n : Int) : Prop := 1 ≤ n ∧ n ≤ 16
def decMay (n : Int) : Decidable (mayN n) := by unfold mayN; infer_instance

def Wd.free (s : Wd) (at_ : Int) : (Int × Int × Int) × Wd :=
  if (s.get at_).1.2 ≠ 0 then ((0, 0, (s.get at_).1.2), (s.get at_).2)
  else if ((s.get at_).2.get (endA at_)).1.2 ≠ 0 then ((0, 0, ((s.get at_).2.get (endA at_)).1.2), ((s.get at_).2.get (endA at_)).2)
  else (((s.get at_).1.1, if (s.get at_).1.1 < ((s.get at_).2.get (endA at_)).1.1 then uw (((s.get at_).2.get (endA at_)).1.1 - (s.get at_).1.1) else 0, 0), ((s.get at_).2.get (endA at_)).2)
def Wd.takeN (s : Wd) (at_ n : Int) : (Int × Int) × Wd :=
  if (s.free at_).1.2.2 ≠ 0 then ((0, (s.free at_).1.2.2), (s.free at_).2)
  else if (s.free at_).1.2.1 < n then ((0, 9), (s.free at_).2)
  else if ((s.free at_).2.put at_ (uw ((s.free at_).1.1 + n))).1 ≠ 0 then ((0, ((s.free at_).2.put at_ (uw ((s.free at_).1.1 + n))).1), ((s.free at_).2.put at_ (uw ((s.free at_).1.1 + n))).2)
  else (((s.free at_).1.1, 0), ((s.free at_).2.put at_ (uw ((s.free at_).1.1 + n))).2)
def Wd.takeG (s : Wd) (h p : Int) : (Int × Int) × Wd :=
  if (s.get p).1.2 ≠ 0 then ((0, (s.get p).1.2), (s.get p).2)
  else if ((s.get p).2.put h (s.get p).1.1).1 ≠ 0 then ((0, ((s.get p).2.put h (s.get p).1.1).1), ((s.get p).2.put h (s.get p).1.1).2)
  else ((p, 0), ((s.get p).2.put h (s.get p).1.1).2)
def Wd.take (s : Wd) (at_ n : Int) : (Int × Int) × Wd :=
  haveI := decMay n
  if ¬ mayN n then ((0, 2), s)
  else if (s.get (hdA at_ n)).1.2 ≠ 0 then ((0, (s.get (hdA at_ n)).1.2), (s.get (hdA at_ n)).2)
  else if (s.get (hdA at_ n)).1.1 = 0 then (s.get (hdA at_ n)).2.takeN at_ n
  else (s.get (hdA at_ n)).2.takeG (hdA at_ n) (uw ((s.get (hdA at_ n)).1.1 - 1))
def Wd.give (s : Wd) (at_ a n : Int) : Int × Wd :=
  haveI := decMay n
  if ¬ mayN n then (2, s)
  else if (s.get (hdA at_ n)).1.2 ≠ 0 then ((s.get (hdA at_ n)).1.2, (s.get (hdA at_ n)).2)
  else if ((s.get (hdA at_ n)).2.put a (s.get (hdA at_ n)).1.1).1 ≠ 0 then (s.get (hdA at_ n)).2.put a (s.get (hdA at_ n)).1.1
  else ((s.get (hdA at_ n)).2.put a (s.get (hdA at_ n)).1.1).2.put (hdA at_ n) (uw (a + 1))
end Go.Proofs.Ytjgibkofenkehaa


/- Pure (layer 22): links that are followed, the search, and the calls of a set, over words that are got and put. No statement of the seat is proved here. -/
namespace Go.Proofs.Ytjgibkofenkehaa
open Go.RowKit

/-- A link as it was got: its cell, what that has, the word of its node. -/
structure Lk where
  c : Int
  t : Int
  k : Int
def Lk.zero : Lk := ⟨0, 0, 0⟩
def Lk.v (l : Lk) : Value := .agg #[.int .u64 l.c, .int .u64 l.t, .int .u64 l.k]
def Lk.nd (l : Lk) : Int := uw (l.t - 1)
def Lk.leads (l : Lk) : Bool := l.t != 0
def Lk.Ok (l : Lk) : Prop := isW l.c ∧ isW l.t ∧ isW l.k
theorem zero_w : isW 0 := ⟨Int.le_refl _, by simp⟩
theorem Lk.zero_ok : Lk.zero.Ok := ⟨zero_w, zero_w, zero_w⟩
/-- A link is followed; n words were got so far. -/
def Wd.fol (s : Wd) (n : Nat) (a : Int) : (Lk × Int) × Nat × Wd :=
  match s.get a with
  | ((x, e), s1) =>
    if e ≠ 0 then ((Lk.zero, e), n, s1)
    else if x = 0 then ((⟨a, 0, 0⟩, 0), n, s1)
    else if n = 65536 then ((Lk.zero, 320), n, s1)
    else match s1.get (uw (x - 1)) with
      | ((k, f), s2) => if f ≠ 0 then ((Lk.zero, f), n + 1, s2) else ((⟨a, x, k⟩, 0), n + 1, s2)
/-- The search's last links, none yet. -/
def zeros : List Lk := List.replicate 8 Lk.zero
/-- The search: from a node's links on, at a level. -/
def sr (p : Int → Bool) : Nat → List Lk → Int → Nat → Nat → Wd → (List Lk × Int) × Wd
  | 0, _, _, _, _, s => ((zeros, 0), s)
  | f + 1, la, base, lv, n, s =>
    match s.fol n (uw (base + lv)) with
    | ((l, e), n', s') =>
      if e ≠ 0 then ((zeros, e), s')
      else if l.t ≠ 0 ∧ p l.k = true then sr p f (la.set lv l) (uw (l.nd + 2)) lv n' s'
      else match lv with
        | 0 => ((la.set 0 l, 0), s')
        | lv' + 1 => sr p f (la.set (lv' + 1) l) base lv' n' s'
def FU : Nat := 65545
def Wd.search (s : Wd) (p : Int → Bool) (at_ : Int) : (List Lk × Int) × Wd := sr p FU zeros at_ 7 0 s
def pLt (x : Int) (k : Int) : Bool := decide (k < x)
def pLe (x : Int) (k : Int) : Bool := decide (k ≤ x)
def lk (la : List Lk) (i : Nat) : Lk := la[i]?.getD Lk.zero
def haveB (la : List Lk) (x : Int) : Bool := (lk la 0).leads && decide ((lk la 0).k = x)
/-- Lay of a set: so many rounds. -/
def slay (at_ : Int) : Nat → Wd → Int × Wd
  | 0, s => (0, s)
  | k + 1, s => if (slay at_ k s).1 = 0 then (slay at_ k s).2.put (uw (at_ + k)) 0 else slay at_ k s
def Wd.slay (s : Wd) (at_ : Int) : Int × Wd := Go.Proofs.Ytjgibkofenkehaa.slay at_ 8 s
def Wd.snew (s : Wd) (room : Int) : (Int × Int) × Wd :=
  match s.take room 8 with
  | ((at_, e), s1) => if e ≠ 0 then ((0, e), s1) else match s1.slay at_ with
    | (f, s2) => if f ≠ 0 then ((0, f), s2) else ((at_, 0), s2)
def Wd.write (s : Wd) (node x lv : Int) : Int × Wd :=
  match s.put node x with
  | (e, s1) => if e ≠ 0 then (e, s1) else s1.put (uw (node + 1)) lv
/-- A node hung in: its links, from own on, of the levels that are left. -/
def hangL (node : Int) : List Lk → Int → Wd → Int × Wd
  | [], _, s => (0, s)
  | l :: la, o, s => match s.put o l.t with
    | (e, s1) => if e ≠ 0 then (e, s1) else match s1.put l.c (uw (node + 1)) with
      | (f, s2) => if f ≠ 0 then (f, s2) else hangL node la (uw (o + 1)) s2
def unhangL : List Lk → Int → Wd → Int × Wd
  | [], _, s => (0, s)
  | l :: la, o, s => match s.get o with
    | ((x, e), s1) => if e ≠ 0 then (e, s1) else match s1.put l.c x with
      | (f, s2) => if f ≠ 0 then (f, s2) else unhangL la (uw (o + 1)) s2
def Wd.levelOf (s : Wd) (node : Int) : (Int × Int) × Wd :=
  match s.get (uw (node + 1)) with
  | ((x, e), s1) => if e ≠ 0 then ((0, e), s1) else if x < 1 ∨ 8 < x then ((0, 320), s1) else ((x, 0), s1)
def hgt (level : Int) : Int := min (max level 1) 8
def Wd.ins (s : Wd) (room at_ x level : Int) : (Bool × Int) × Wd :=
  match s.search (pLt x) at_ with
  | ((la, e), s1) =>
    if e ≠ 0 ∨ haveB la x = true then ((false, e), s1)
    else match s1.take room (uw (2 + hgt level)) with
      | ((node, f), s2) => if f ≠ 0 then ((false, f), s2) else match s2.write node x (hgt level) with
        | (f2, s3) => if f2 ≠ 0 then ((false, f2), s3) else match hangL node (la.take (hgt level).toNat) (uw (node + 2)) s3 with
          | (f3, s4) => ((decide (f3 = 0), f3), s4)
def Wd.rem (s : Wd) (room at_ x : Int) : (Bool × Int) × Wd :=
  match s.search (pLt x) at_ with
  | ((la, e), s1) =>
    if e ≠ 0 ∨ haveB la x = false then ((false, e), s1)
    else match s1.levelOf (lk la 0).nd with
      | ((n, f), s2) => if f ≠ 0 then ((false, f), s2) else match unhangL (la.take n.toNat) (uw ((lk la 0).nd + 2)) s2 with
        | (f2, s3) => if f2 ≠ 0 then ((false, f2), s3) else match s3.give room (lk la 0).nd (uw (2 + n)) with
          | (f3, s4) => ((decide (f3 = 0), f3), s4)
def Wd.has (s : Wd) (at_ x : Int) : (Bool × Int) × Wd :=
  match s.search (pLt x) at_ with
  | ((la, e), s1) => ((haveB la x, e), s1)
def Wd.first (s : Wd) (at_ : Int) : (Int × Bool × Int) × Wd :=
  match s.fol 0 at_ with
  | ((l, e), _, s1) => ((l.k, l.leads, e), s1)
def Wd.aft (s : Wd) (at_ x : Int) : (Int × Bool × Int) × Wd :=
  match s.search (pLe x) at_ with
  | ((la, e), s1) => (((lk la 0).k, (lk la 0).leads, e), s1)
/-- All words, along the links of the level 0: what is told so far, the link at hand. -/
def eachL : Nat → List Int → Lk → Int → Nat → Wd → (List Int × Int) × Wd
  | 0, out, _, e, _, s => ((out, e), s)
  | f + 1, out, l, e, n, s =>
    if e = 0 ∧ l.t ≠ 0 then match s.fol n (uw (l.nd + 2)) with
      | ((l', e'), n', s') => eachL f (out ++ [l.k]) l' e' n' s'
    else ((out, e), s)
def Wd.each (s : Wd) (at_ : Int) : (List Int × Int) × Wd :=
  match s.fol 0 at_ with
  | ((l, e), n, s1) => eachL FU [] l e n s1
def Wd.keys (s : Wd) (at_ : Int) : (List Int × Int) × Wd :=
  match s.each at_ with
  | ((out, e), s1) => if e ≠ 0 then (([], e), s1) else ((out, 0), s1)
def Wd.len (s : Wd) (at_ : Int) : (Int × Int) × Wd :=
  match s.each at_ with
  | ((out, e), s1) => if e ≠ 0 then ((0, e), s1) else (((out.length : Int), 0), s1)

/-- What following keeps to. -/
structure FolOk (s : Wd) (n : Nat) (r : (Lk × Int) × Nat × Wd) : Prop where
  ok : r.2.2.Ok
  lk : r.1.1.Ok
  w : r.2.2.W = s.W
  ge : n ≤ r.2.1
  le : n ≤ 65536 → r.2.1 ≤ 65536
  len : r.2.2.L.length ≤ s.L.length + 2
  up : r.1.2 = 0 → r.1.1.t ≠ 0 → r.2.1 = n + 1
  full : n = 65536 → r.1.2 = 0 → r.1.1.t = 0
  er : r.1.2 ≠ 0 → r.1.1 = Lk.zero
theorem fol_ok {s : Wd} (h : s.Ok) (n : Nat) {a : Int} (ha : isW a) : FolOk s n (s.fol n a) := by
  obtain ⟨⟨⟨x, e⟩, s1⟩, eq1⟩ : ∃ r, s.get a = r := ⟨_, rfl⟩
  have h1 := h.get a
  have l1 := get_len s a
  rw [eq1] at h1 l1
  have l1' : s1.L.length = s.L.length + 1 := l1
  unfold Wd.fol
  rw [eq1]
  dsimp only
  split
  · exact ⟨h1.1, Lk.zero_ok, h1.2.2, Nat.le_refl _, fun q => q, by dsimp only; omega, fun e0 => absurd e0 ‹_›, fun _ _ => rfl, fun _ => rfl⟩
  · split
    · exact ⟨h1.1, ⟨ha, zero_w, zero_w⟩, h1.2.2, Nat.le_refl _, fun q => q, by dsimp only; omega, fun _ q => absurd rfl q, fun _ _ => rfl, fun q => absurd rfl q⟩
    · split
      · exact ⟨h1.1, Lk.zero_ok, h1.2.2, Nat.le_refl _, fun q => q, by dsimp only; omega, fun e0 => by simp at e0, fun _ _ => rfl, fun _ => rfl⟩
      · rename_i hn
        obtain ⟨⟨⟨k, f⟩, s2⟩, eq2⟩ : ∃ r, s1.get (uw (x - 1)) = r := ⟨_, rfl⟩
        have h2 := h1.1.get (uw (x - 1))
        have l2 := get_len s1 (uw (x - 1))
        rw [eq2] at h2 l2
        have l2' : s2.L.length = s1.L.length + 1 := l2
        rw [eq2]
        dsimp only
        split
        · exact ⟨h2.1, Lk.zero_ok, h2.2.2.trans h1.2.2, Nat.le_succ _, fun q => by dsimp only; omega, by dsimp only; omega, fun e0 => absurd e0 ‹_›, fun q => absurd q hn, fun _ => rfl⟩
        · exact ⟨h2.1, ⟨ha, h1.2.1, h2.2.1⟩, h2.2.2.trans h1.2.2, Nat.le_succ _, fun q => by dsimp only; omega, by dsimp only; omega, fun _ _ => rfl, fun q => absurd q hn, fun q => absurd rfl q⟩
end Go.Proofs.Ytjgibkofenkehaa
