/- Half of a whole number and a half. No statement of the seat is proved here. -/
import Derived.Test.YtiijfmldmggccabNearR
namespace Go.Proofs.Ytiijfmldmggccab
open Go.RowKit Ieee

theorem read_word (s : Bool) {r : Nat} (h : r < 9218868437227405312) : double.read (double.word s r) = .number s (mg r) (-1074 + (ex r : Nat)) := by
  obtain ⟨p1, p2, _, _, _⟩ := word_parts s (r := r) (by omega)
  have := read_num (x := double.word s r) (by rw [p2]; exact h)
  rw [p1, p2] at this; exact this

theorem read_two : double.read 4611686018427387904 = .number false 4503599627370496 (-51) := by
  have e := read_word false (r := 4611686018427387904) (by omega)
  exact e
theorem read_half : double.read 4602678819172646912 = .number false 4503599627370496 (-53) := by
  have e := read_word false (r := 4602678819172646912) (by omega)
  exact e

theorem quot_num (d : Nat) (s t : Bool) (m n : Nat) (i j : Int) (hn : n ≠ 0) : Datum.quotient d (.number s m i) (.number t n j) = some (.number (s ^^ t) (2 * ((m <<< (d + n.log2 - m.log2)) / n) + ((m <<< (d + n.log2 - m.log2)) % n != 0).toNat) (i - j - ((d + n.log2 - m.log2 : Nat) : Int) - 1)) := by
  simp [Datum.quotient, hn]
theorem sum_num (s t : Bool) (m n : Nat) (i j : Int) : Datum.sum (.number s m i) (.number t n j) = some (.number (if signed s m (i - min i j).toNat + signed t n (j - min i j).toNat = 0 then s && t else decide (signed s m (i - min i j).toNat + signed t n (j - min i j).toNat < 0)) (signed s m (i - min i j).toNat + signed t n (j - min i j).toNat).natAbs (min i j)) := rfl

theorem quo_two (s : Bool) {r : Nat} (h0 : 9007199254740992 ≤ r) (h : r < 9218868437227405312) :
    double.div (double.word s r) 4611686018427387904 = some (double.word s (r - 4503599627370496)) := by
  have e3 : ex (r - 4503599627370496) + 1 = ex r := by unfold ex; omega
  have e4 : mg (r - 4503599627370496) = mg r := by unfold mg; rw [← e3]; omega
  have hl := mg_norm (r := r) (by omega)
  unfold Format.div
  rw [read_word s h, read_two]
  have hm : double.fractionBits + 2 + (4503599627370496 : Nat).log2 - (mg r).log2 = 54 := by
    rw [hl, show (4503599627370496 : Nat).log2 = 52 from (log2_iff (by decide)).2 (by decide)]; rfl
  rw [quot_num _ _ _ _ _ _ _ (by decide)]
  simp only [hm, Nat.shiftLeft_eq]
  have d1 : mg r * 2 ^ 54 / 4503599627370496 = mg r * 4 := by omega
  have d2 : mg r * 2 ^ 54 % 4503599627370496 = 0 := by omega
  rw [d1, d2]
  show some (double.nearest (s ^^ false) (2 * (mg r * 4) + 0) _) = _
  rw [nearest_exact (s ^^ false) (2 * (mg r * 4) + 0) _ (r - 4503599627370496) 0 3 (by omega) (by omega) (by rw [e4]; omega) (by omega)]
  simp

theorem nr_small {y : Int} (h0 : y ≠ 0) (h : y.natAbs < 9007199254740992) : nr y = double.word (decide (y < 0)) (rungOf y.natAbs) :=
  nearest_int _ _ _ y.natAbs 0 0 (by omega) h rfl rfl

theorem half_sum {n : Int} (hn : n ≠ 0) (h : n.natAbs < 9007199254740992) :
    ∃ S, double.add (double.word (decide (n < 0)) (rungOf n.natAbs - 4503599627370496)) 4602678819172646912 = some S ∧ (n % 2 = 1 → S = nr ((n + 1) / 2)) := by
  obtain ⟨e1, e2, e3⟩ := rung_parts (m := n.natAbs) (by omega) h
  obtain ⟨j1, j2, j3⟩ := rung_just (m := n.natAbs) (by omega) h
  have hr := ex_mg (rungOf n.natAbs)
  have f1 : ex (rungOf n.natAbs - 4503599627370496) = n.natAbs.log2 + 1021 := by unfold ex at *; omega
  have f2 : mg (rungOf n.natAbs - 4503599627370496) = n.natAbs * 2 ^ (52 - n.natAbs.log2) := by
    rw [← e2]; unfold mg; rw [f1, e1]; omega
  unfold Format.add
  rw [read_word _ (by omega), read_half, f1, f2, sum_num]
  refine ⟨_, rfl, fun ho => ?_⟩
  have b1 : min ((-1074 : Int) + ((n.natAbs.log2 + 1021 : Nat) : Int)) (-53) = -53 := by omega
  simp only [b1]
  have b2 : ((-1074 : Int) + ((n.natAbs.log2 + 1021 : Nat) : Int) - (-53)).toNat = n.natAbs.log2 := by omega
  have b3 : ((-53 : Int) - (-53)).toNat = 0 := by omega
  simp only [b2, b3, signed_eq]
  rw [Nat.mul_assoc, ← Nat.pow_add, show 52 - n.natAbs.log2 + n.natAbs.log2 = 52 by omega]
  have b4 : sg (decide (n < 0)) (n.natAbs * 2 ^ 52) + sg false (4503599627370496 * 2 ^ 0) = (n + 1) * 4503599627370496 := by
    unfold sg; by_cases c : n < 0 <;> simp [c] <;> omega
  rw [b4]
  by_cases z : n + 1 = 0
  · rw [z]
    have : n = -1 := by omega
    subst this
    decide +kernel
  · have hp : ((n + 1) * 4503599627370496).natAbs = ((n + 1) / 2).natAbs * 2 ^ 53 := by
      rw [show (2 : Nat) ^ 53 = 9007199254740992 by rfl]; omega
    have hs : (if (n + 1) * 4503599627370496 = 0 then decide (n < 0) && false else decide ((n + 1) * 4503599627370496 < 0)) = decide ((n + 1) / 2 < 0) := by
      rw [if_neg (by omega)]
      by_cases c : n + 1 < 0
      · rw [decide_eq_true (by omega), decide_eq_true (by omega)]
      · rw [decide_eq_false (by omega), decide_eq_false (by omega)]
    rw [hs, hp, nr_small (y := (n + 1) / 2) (by omega) (by omega)]
    exact nearest_int _ _ _ ((n + 1) / 2).natAbs 0 53 (by omega) (by omega) (by simp) (by omega)

theorem half {n : Int} (h : n.natAbs < 9007199254740992) :
    ∃ Q S, floatBits .quo .f64 (nr n) 4611686018427387904 = some Q ∧ floatBits .add .f64 Q 4602678819172646912 = some S ∧ S < 18446744073709551616 ∧ (n % 2 = 1 → whK S = true) := by
  by_cases z : n = 0
  · subst z
    exact ⟨0, 4602678819172646912, by decide +kernel, by decide +kernel, by omega, fun h => absurd h (by omega)⟩
  · obtain ⟨j1, j2, j3⟩ := rung_just (m := n.natAbs) (by omega) h
    have hl : 9007199254740992 ≤ rungOf n.natAbs := by unfold rungOf; omega
    obtain ⟨S, s1, s2⟩ := half_sum z h
    refine ⟨double.word (decide (n < 0)) (rungOf n.natAbs - 4503599627370496), S, ?_, s1, ?_, ?_⟩
    · rw [nr_small z h]; exact quo_two _ hl j2
    · exact double.add_lt s1
    · intro ho
      rw [s2 ho]
      refine (nr_exact (by omega) (by omega) ?_).1
      rw [kOf_zero (by omega)]; simp [Nat.mod_one]
end Go.Proofs.Ytiijfmldmggccab
