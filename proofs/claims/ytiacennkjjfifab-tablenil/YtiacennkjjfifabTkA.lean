
/- Pure (layer 25): words that are got and put, and a room's calls over them. No statement of the seat is proved here. -/
import Derived.Test.YtiacennkjjfifabCMem
import Derived.WalkKit
namespace Go.Proofs.Ytiacennkjjfifab
open Go.RowKit

def uw (x : Int) : Int := IntKind.u64.wrap x
def iw (x : Int) : Int := wrap64 x
def isW (x : Int) : Prop := 0 ≤ x ∧ x < 18446744073709551616
theorem uw_isW (x : Int) : isW (uw x) := by unfold uw isW; rw [IntKind.wrap_u64]; omega
theorem uw_id {x : Int} (h : isW x) : uw x = x := by unfold uw isW at *; rw [IntKind.wrap_u64]; omega

/-- What was asked for: a put or a get, of which cell, with which word. -/
structure Acc where
  p : Bool
  a : Int
  x : Int
/-- Words; what was asked for so far; how many calls are answered as cells do; the error then. -/
structure Wd where
  W : List Int
  L : List Acc
  g : Int
  c : Int

def oat (xs : List Int) (i : Nat) : Int := xs[i]?.getD 0
def Wd.lg (s : Wd) (q : Acc) : Wd := { s with L := s.L ++ [q] }
/-- What is answered to what was asked for last, of the cell a. -/
def Wd.ask (s : Wd) (a : Int) : Int := if s.g < (s.L.length : Int) ∧ s.c ≠ 0 then s.c else if (s.W.length : Int) ≤ a then 4 else 0
def Wd.get (s : Wd) (a : Int) : (Int × Int) × Wd :=
  if (s.lg ⟨false, a, 0⟩).ask a ≠ 0 then ((0, (s.lg ⟨false, a, 0⟩).ask a), s.lg ⟨false, a, 0⟩) else ((oat s.W a.toNat, 0), s.lg ⟨false, a, 0⟩)
def Wd.put (s : Wd) (a x : Int) : Int × Wd :=
  if (s.lg ⟨true, a, x⟩).ask a ≠ 0 then ((s.lg ⟨true, a, x⟩).ask a, s.lg ⟨true, a, x⟩) else (0, { s.lg ⟨true, a, x⟩ with W := s.W.set a.toNat x })

/-- What words keep to: they are words. -/
def Wd.Ok (s : Wd) : Prop := (∀ x ∈ s.W, isW x) ∧ s.W.length ≤ 17592186044416
theorem oat_isW {l : List Int} (h : ∀ x ∈ l, isW x) (i : Nat) : isW (oat l i) := by
  unfold oat
  cases e : l[i]? with
  | none => exact ⟨Int.le_refl _, by simp⟩
  | some x => exact h x (List.mem_of_getElem? e)
theorem Wd.Ok.get {s : Wd} (h : s.Ok) (a : Int) : (s.get a).2.Ok ∧ isW (s.get a).1.1 ∧ (s.get a).2.W = s.W := by
  unfold Wd.get
  split
  · exact ⟨h, ⟨Int.le_refl _, by simp⟩, rfl⟩
  · exact ⟨h, oat_isW h.1 _, rfl⟩
theorem Wd.Ok.put {s : Wd} (h : s.Ok) (a : Int) {x : Int} (hx : isW x) : (s.put a x).2.Ok := by
  unfold Wd.put
  split
  · exact h
  · refine ⟨fun y hy => ?_, by simpa [Wd.lg] using h.2⟩
    rcases List.mem_or_eq_of_mem_set hy with h1 | h1
    · exact h.1 y h1
    · rw [h1]; exact hx
/-- There is room for so many more to be told. -/
def Rm (s : Wd) (k : Nat) : Prop := s.L.length + k ≤ 10000000
theorem Rm.le {s : Wd} {k j : Nat} (h : Rm s k) (hj : j ≤ k) : Rm s j := by unfold Rm at *; omega
theorem get_len (s : Wd) (a : Int) : (s.get a).2.L.length = s.L.length + 1 := by unfold Wd.get; split <;> simp [Wd.lg]
theorem put_len (s : Wd) (a x : Int) : (s.put a x).2.L.length = s.L.length + 1 := by unfold Wd.put; split <;> simp [Wd.lg]
theorem Rm.get {s s1 : Wd} {a x e : Int} {k : Nat} (h : Rm s (k + 1)) (heq : s.get a = ((x, e), s1)) : Rm s1 k := by
  have q := get_len s a
  rw [heq] at q
  have q2 : s1.L.length = s.L.length + 1 := q
  unfold Rm at *; omega
theorem Rm.put {s s1 : Wd} {a x e : Int} {k : Nat} (h : Rm s (k + 1)) (heq : s.put a x = (e, s1)) : Rm s1 k := by
  have q := put_len s a x
  rw [heq] at q
  have q2 : s1.L.length = s.L.length + 1 := q
  unfold Rm at *; omega
/-- What an access leaves alone. -/
structure Lik (s s' : Wd) : Prop where
  g : s'.g = s.g
  c : s'.c = s.c
  n : s'.W.length = s.W.length

/-- The cells of a header. -/
def endA (at_ : Int) : Int := uw (at_ + 1)
def hdA (at_ n : Int) : Int := uw (uw (at_ + 1) + n)

/-- Lay's loop: so many rounds. -/
def layK (at_ : Int) (es : Int × Wd) : Nat → Int × Wd
  | 0 => es
  | k + 1 => if (layK at_ es k).1 = 0 then (layK at_ es k).2.put (hdA at_ ((k : Int) + 1)) 0 else layK at_ es k
theorem layK_stop (at_ : Int) (es : Int × Wd) (k : Nat) (h : (layK at_ es k).1 ≠ 0) : ∀ j, layK at_ es (k + j) = layK at_ es k
  | 0 => rfl
  | j + 1 => by
    have ih := layK_stop at_ es k h j
    show (if (layK at_ es (k + j)).1 = 0 then (layK at_ es (k + j)).2.put (hdA at_ (((k + j : Nat) : Int) + 1)) 0 else layK at_ es (k + j)) = _
    rw [ih, if_neg h]
def Wd.lay1 (s : Wd) (at_ fr to : Int) : Int × Wd := if (s.put at_ fr).1 = 0 then (s.put at_ fr).2.put (endA at_) to else s.put at_ fr
def Wd.lay (s : Wd) (at_ fr to : Int) : Int × Wd := if to < fr then (2, s) else layK at_ (s.lay1 at_ fr to) 16
def mayN (n : Int) : Prop := 1 ≤ n ∧ n ≤ 16
def decMay (n : Int) : Decidable (mayN n) := by unfold mayN; infer_instance

def Wd.free (s : Wd) (at_ : Int) : (Int × Int × Int) × Wd :=
  if (s.get at_).1.2 ≠ 0 then ((0, 0, (s.get at_).1.2), (s.get at_).2)
  else if ((s.get at_).2.get (endA at_)).1.2 ≠ 0 then ((0, 0, ((s.get at_).2.get (endA at_)).1.2), ((s.get at_).2.get (endA at_)).2)
  else (((s.get at_).1.1, if (s.get at_).1.1 < ((s.get at_).2.get (endA at_)).1.1 then uw (((s.get at_).2.get (endA at_)).1.1 - (s.get at_).1.1) else 0, 0), ((s.get at_).2.get (endA at_)).2)
def Wd.takeN (s : Wd) (at_ n : Int) : (Int × Int) × Wd :=
  if (s.free at_).1.2.2 ≠ 0 then ((0, (s.free at_).1.2.2), (s.free at_).2)
  else if (s.free at_).1.2.1 < n then ((0, 9), (s.free at_).2)
  else if ((s.free at_).2.put at_ (uw ((s.free at_).1.1 + n))).1 ≠ 0 then ((0, ((s.free at_).2.put at_ (uw ((s.free at_).1.1 + n))).1), ((s.free at_).2.put at_ (uw ((s.free at_).1.1 + n))).2)
  else (((s.free at_).1.1, 0), ((s.free at_).2.put at_ (uw ((s.free at_).1.1 + n))).2)
def Wd.takeG (s : Wd) (h p : Int) : (Int × Int) × Wd :=
  if (s.get p).1.2 ≠ 0 then ((0, (s.get p).1.2), (s.get p).2)
  else if ((s.get p).2.put h (s.get p).1.1).1 ≠ 0 then ((0, ((s.get p).2.put h (s.get p).1.1).1), ((s.get p).2.put h (s.get p).1.1).2)
  else ((p, 0), ((s.get p).2.put h (s.get p).1.1).2)
def Wd.take (s : Wd) (at_ n : Int) : (Int × Int) × Wd :=
  haveI := decMay n
  if ¬ mayN n then ((0, 2), s)
  else if (s.get (hdA at_ n)).1.2 ≠ 0 then ((0, (s.get (hdA at_ n)).1.2), (s.get (hdA at_ n)).2)
  else if (s.get (hdA at_ n)).1.1 = 0 then (s.get (hdA at_ n)).2.takeN at_ n
  else (s.get (hdA at_ n)).2.takeG (hdA at_ n) (uw ((s.get (hdA at_ n)).1.1 - 1))
def Wd.give (s : Wd) (at_ a n : Int) : Int × Wd :=
  haveI := decMay n
  if ¬ mayN n then (2, s)
  else if (s.get (hdA at_ n)).1.2 ≠ 0 then ((s.get (hdA at_ n)).1.2, (s.get (hdA at_ n)).2)
  else if ((s.get (hdA at_ n)).2.put a (s.get (hdA at_ n)).1.1).1 ≠ 0 then (s.get (hdA at_ n)).2.put a (s.get (hdA at_ n)).1.1
  else ((s.get (hdA at_ n)).2.put a (s.get (hdA at_ n)).1.1).2.put (hdA at_ n) (uw (a + 1))
end Go.Proofs.Ytiacennkjjfifab
