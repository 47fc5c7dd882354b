/- The walk of the law WordSteps: it returns true. No statement of the seat is proved here. -/
import Derived.Test.YtiijfmldmggccabSteps
namespace Go.Proofs.Ytiijfmldmggccab
open Go.RowKit

theorem bne_of {o : Option Ordering} {b : Bool} (h : (o != some Ordering.eq) = b) : (o == some Ordering.eq) = !b := by
  unfold bne at h; cases e : (o == some Ordering.eq) <;> simp_all

theorem upB_lt {b : Nat} (hb : b < 18446744073709551616) : upB b < 18446744073709551616 := by
  unfold upB; have := reB_lt (ofR b + 1); (repeat' split) <;> omega
theorem dnB_lt (b : Nat) : dnB b < 18446744073709551616 := by
  unfold dnB; have := reB_lt (ofR b - 1); (repeat' split) <;> omega
theorem ofR_up {b : Nat} (hb : b < 18446744073709551616) (n : nan b = false) (c : ofR b ≠ 18442240474082181120) : ofR (upB b) = ofR b + 1 ∧ nan (upB b) = false := by
  have h := ofR_num hb n
  have k : reK (ofR b + 1) = true := by unfold reK; simp; omega
  have u : upB b = reB (ofR b + 1) := by unfold upB; rw [n]; simp [c]
  rw [u]
  exact ⟨ofR_reB k, reB_nan k (by omega)⟩
theorem ofR_dn {b : Nat} (hb : b < 18446744073709551616) (n : nan b = false) (c : ofR b ≠ 4503599627370495) : ofR (dnB b) = ofR b - 1 := by
  have h := ofR_num hb n
  have k : reK (ofR b - 1) = true := by unfold reK; simp; omega
  have u : dnB b = reB (ofR b - 1) := by unfold dnB; rw [n]; simp [c]
  rw [u]
  exact ofR_reB k
theorem dn_up {b : Nat} (hb : b < 18446744073709551616) (n : nan b = false) (c : ofR b ≠ 18442240474082181120) : dnB (upB b) = b := by
  have h := ofR_num hb n
  obtain ⟨h1, h2⟩ := ofR_up hb n c
  unfold dnB; rw [h2, h1, if_neg (by simp), if_neg (by omega), show ofR b + 1 - 1 = ofR b by omega, reB_ofR hb n]
theorem up_nan {b : Nat} (h : nan b = true ∨ ofR b = 18442240474082181120) : nan (upB b) = true := by
  unfold upB
  cases n : nan b
  · rw [if_neg (by simp), if_pos (h.resolve_left (by simp [n]))]; decide
  · rw [if_pos rfl]; exact n

section
variable (a b : Nat) (x : Int) (W : World)
theorem word_cmp_lt (ha : a < 18446744073709551616) (hb : b < 18446744073709551616) (h : ofR a < ofR b) : Calls Try.prog 10 #[.float .f64 a, .float .f64 b] W fun e w' => e = .returned (.int .i64 (-1)) ∧ w' = W := by
  have k := word_compare a b W ha hb
  rw [show cmpI (ofR a) (ofR b) = -1 from by unfold cmpI; rw [if_pos h]] at k
  exact k
theorem word_ofReal_is (ha : a < 18446744073709551616) (h : ofR a = x) : Calls Try.prog 8 #[.float .f64 a] W fun e w' => e = .returned (.int .u64 x) ∧ w' = W := by
  have k := word_ofReal a W ha
  rw [h] at k
  exact k
end

theorem mid_between (v w : Int) (hv : 0 ≤ v ∧ v < 18446744073709551616) (hw : 0 ≤ w ∧ w < 18446744073709551616) : 0 ≤ mid v w ∧ mid v w < 18446744073709551616 ∧ mid w v = mid v w ∧ (v ≤ w → v ≤ mid v w ∧ mid v w ≤ w ∧ mid v w - v ≤ w - mid v w ∧ w - mid v w - (mid v w - v) ≤ 1) ∧ (w ≤ v → w ≤ mid v w ∧ mid v w ≤ v ∧ mid v w - w ≤ v - mid v w ∧ v - mid v w - (mid v w - w) ≤ 1) := by
  unfold mid
  refine ⟨?_, ?_, ?_, fun _ => ⟨?_, ?_, ?_, ?_⟩, fun _ => ⟨?_, ?_, ?_, ?_⟩⟩ <;> (repeat' split) <;> omega

set_option maxHeartbeats 4000000 in
theorem steps_law (v w : Int) (W : World) (hv : 0 ≤ v ∧ v < 18446744073709551616) (hw : 0 ≤ w ∧ w < 18446744073709551616) :
    Calls Try.prog 4 #[.int .u64 v, .int .u64 w] W fun e w' => e = .returned (.bool true) ∧ w' = W := by
  have ha : v.toNat < 18446744073709551616 := by omega
  obtain ⟨m0, m1, m2, m3, m4⟩ := mid_between v w hv hw
  go_enter Try.func4, Try.ntmps4
  go_wp2_with fail
  refine (word_up v.toNat _ ha).mono ?_
  rintro e w' ⟨rfl, rfl⟩
  go_wp2_with fail
  refine (word_down v.toNat _ ha).mono ?_
  rintro e w' ⟨rfl, rfl⟩
  cases n : nan v.toNat
  · have A := bne_of (ord_self_num ha n)
    have L1 := ord_lt ha (show 9218868437227405311 < 18446744073709551616 by omega) n (by decide)
    have L2 := ord_eq ha (show 9218868437227405311 < 18446744073709551616 by omega) n (by decide)
    have G1 := ord_gt ha (show 18442240474082181119 < 18446744073709551616 by omega) n (by decide)
    have G2 := ord_eq ha (show 18442240474082181119 < 18446744073709551616 by omega) n (by decide)
    rw [show key 9218868437227405311 = 9218868437227405311 from by decide] at L1 L2
    rw [show key 18442240474082181119 = -9218868437227405311 from by decide] at G1 G2
    simp only [Bool.not_false] at A
    have kb := key_bounds ha n
    have ok := ofR_num ha n
    have ek := ofR_key n
    by_cases c1 : ofR v.toNat = 18442240474082181120
    · have hk : key v.toNat = 9218868437227405312 := by rw [ek] at c1; split at c1 <;> omega
      have U := bne_of (ord_self_nan (up_nan (Or.inr c1)))
      simp only [Bool.not_true] at U
      have d1 := ofR_dn ha n (by omega)
      have f1 : (FloatKind.f64.format.order v.toNat 9218868437227405311 == some Ordering.lt || FloatKind.f64.format.order v.toNat 9218868437227405311 == some Ordering.eq) = false := by rw [L1, L2]; simp; omega
      have f2 : (FloatKind.f64.format.order v.toNat 18442240474082181119 == some Ordering.gt || FloatKind.f64.format.order v.toNat 18442240474082181119 == some Ordering.eq) = true := by rw [G1, G2]; simp; omega
      clear L1 L2 G1 G2 kb ek
      go_wp2_with fail
      refine (word_cmp_lt _ _ _ (dnB_lt _) ha (by rw [d1]; omega)).mono ?_
      rintro e w' ⟨rfl, rfl⟩
      go_wp2_with fail
      refine (word_ofReal_is _ _ _ (dnB_lt _) d1).mono ?_
      rintro e w' ⟨rfl, rfl⟩
      go_wp2_with fail
      refine (word_ofReal v.toNat _ ha).mono ?_
      rintro e w' ⟨rfl, rfl⟩
      go_wp2_with fail
      refine (word_middle v w _ hv hw).mono ?_
      rintro e w' ⟨rfl, rfl⟩
      rcases Int.lt_trichotomy v w with c | c | c
      · obtain ⟨p1, p2, p3, p4⟩ := m3 (by omega)
        clear m3 m4
        go_wp2_with fail
        refine (word_middle w v _ hw hv).mono ?_
        rintro e w' ⟨rfl, rfl⟩
        rw [m2]
        go_wp2_with fail
        refine (known_any _).mono ?_
        rintro e w' ⟨rfl, rfl⟩
        go_wp2_with fail
        go_ret
        exact ret_of rfl
      · subst c
        rw [show mid v v = v from by unfold mid; rw [if_pos (by omega)]; omega]
        clear m0 m1 m2 m3 m4
        go_wp2_with fail
        refine (word_middle v v _ hw hv).mono ?_
        rintro e w' ⟨rfl, rfl⟩
        rw [show mid v v = v from by unfold mid; rw [if_pos (by omega)]; omega]
        go_wp2_with fail
        refine (known_any _).mono ?_
        rintro e w' ⟨rfl, rfl⟩
        go_wp2_with fail
        go_ret
        exact ret_of rfl
      · obtain ⟨p1, p2, p3, p4⟩ := m4 (by omega)
        clear m3 m4
        go_wp2_with fail
        refine (word_middle w v _ hw hv).mono ?_
        rintro e w' ⟨rfl, rfl⟩
        rw [m2]
        go_wp2_with fail
        refine (known_any _).mono ?_
        rintro e w' ⟨rfl, rfl⟩
        go_wp2_with fail
        go_ret
        exact ret_of rfl
    · have u1 := (ofR_up ha n c1).1
      by_cases c2 : ofR v.toNat = 4503599627370495
      · have hk : key v.toNat = -9218868437227405312 := by rw [ek] at c2; unfold key at c2 kb ⊢; split at c2 <;> (split at kb) <;> omega
        have f1 : (FloatKind.f64.format.order v.toNat 9218868437227405311 == some Ordering.lt || FloatKind.f64.format.order v.toNat 9218868437227405311 == some Ordering.eq) = true := by rw [L1, L2]; simp; omega
        have f2 : (FloatKind.f64.format.order v.toNat 18442240474082181119 == some Ordering.gt || FloatKind.f64.format.order v.toNat 18442240474082181119 == some Ordering.eq) = false := by rw [G1, G2]; simp; omega
        clear L1 L2 G1 G2 kb ek
        go_wp2_with fail
        refine (word_cmp_lt _ _ _ ha (upB_lt ha) (by rw [u1]; omega)).mono ?_
        rintro e w' ⟨rfl, rfl⟩
        go_wp2_with fail
        refine (word_ofReal_is _ _ _ (upB_lt ha) u1).mono ?_
        rintro e w' ⟨rfl, rfl⟩
        go_wp2_with fail
        refine (word_ofReal v.toNat _ ha).mono ?_
        rintro e w' ⟨rfl, rfl⟩
        go_wp2_with fail
        refine (word_down (upB v.toNat) _ (upB_lt ha)).mono ?_
        rintro e w' ⟨rfl, rfl⟩
        rw [dn_up ha n c1]
        go_wp2_with fail
        refine (law_bits v.toNat v.toNat _ ha (Or.inr rfl)).mono ?_
        rintro e w' ⟨rfl, rfl⟩
        go_wp2_with fail
        refine (word_middle v w _ hv hw).mono ?_
        rintro e w' ⟨rfl, rfl⟩
        rcases Int.lt_trichotomy v w with c | c | c
        · obtain ⟨p1, p2, p3, p4⟩ := m3 (by omega)
          clear m3 m4
          go_wp2_with fail
          refine (word_middle w v _ hw hv).mono ?_
          rintro e w' ⟨rfl, rfl⟩
          rw [m2]
          go_wp2_with fail
          refine (known_any _).mono ?_
          rintro e w' ⟨rfl, rfl⟩
          go_wp2_with fail
          go_ret
          exact ret_of rfl
        · subst c
          rw [show mid v v = v from by unfold mid; rw [if_pos (by omega)]; omega]
          clear m0 m1 m2 m3 m4
          go_wp2_with fail
          refine (word_middle v v _ hw hv).mono ?_
          rintro e w' ⟨rfl, rfl⟩
          rw [show mid v v = v from by unfold mid; rw [if_pos (by omega)]; omega]
          go_wp2_with fail
          refine (known_any _).mono ?_
          rintro e w' ⟨rfl, rfl⟩
          go_wp2_with fail
          go_ret
          exact ret_of rfl
        · obtain ⟨p1, p2, p3, p4⟩ := m4 (by omega)
          clear m3 m4
          go_wp2_with fail
          refine (word_middle w v _ hw hv).mono ?_
          rintro e w' ⟨rfl, rfl⟩
          rw [m2]
          go_wp2_with fail
          refine (known_any _).mono ?_
          rintro e w' ⟨rfl, rfl⟩
          go_wp2_with fail
          go_ret
          exact ret_of rfl
      · have d1 := ofR_dn ha n c2
        have hk : -9218868437227405312 < key v.toNat ∧ key v.toNat < 9218868437227405312 := by rw [ek] at c1 c2; unfold key at c1 c2 kb ⊢; split at c1 <;> (split at kb) <;> omega
        have f1 : (FloatKind.f64.format.order v.toNat 9218868437227405311 == some Ordering.lt || FloatKind.f64.format.order v.toNat 9218868437227405311 == some Ordering.eq) = true := by rw [L1, L2]; simp; omega
        have f2 : (FloatKind.f64.format.order v.toNat 18442240474082181119 == some Ordering.gt || FloatKind.f64.format.order v.toNat 18442240474082181119 == some Ordering.eq) = true := by rw [G1, G2]; simp; omega
        clear L1 L2 G1 G2 kb ek
        go_wp2_with fail
        refine (word_cmp_lt _ _ _ ha (upB_lt ha) (by rw [u1]; omega)).mono ?_
        rintro e w' ⟨rfl, rfl⟩
        go_wp2_with fail
        refine (word_ofReal_is _ _ _ (upB_lt ha) u1).mono ?_
        rintro e w' ⟨rfl, rfl⟩
        go_wp2_with fail
        refine (word_ofReal v.toNat _ ha).mono ?_
        rintro e w' ⟨rfl, rfl⟩
        go_wp2_with fail
        refine (word_down (upB v.toNat) _ (upB_lt ha)).mono ?_
        rintro e w' ⟨rfl, rfl⟩
        rw [dn_up ha n c1]
        go_wp2_with fail
        refine (law_bits v.toNat v.toNat _ ha (Or.inr rfl)).mono ?_
        rintro e w' ⟨rfl, rfl⟩
        go_wp2_with fail
        refine (word_cmp_lt _ _ _ (dnB_lt _) ha (by rw [d1]; omega)).mono ?_
        rintro e w' ⟨rfl, rfl⟩
        go_wp2_with fail
        refine (word_ofReal_is _ _ _ (dnB_lt _) d1).mono ?_
        rintro e w' ⟨rfl, rfl⟩
        go_wp2_with fail
        refine (word_ofReal v.toNat _ ha).mono ?_
        rintro e w' ⟨rfl, rfl⟩
        go_wp2_with fail
        refine (word_middle v w _ hv hw).mono ?_
        rintro e w' ⟨rfl, rfl⟩
        rcases Int.lt_trichotomy v w with c | c | c
        · obtain ⟨p1, p2, p3, p4⟩ := m3 (by omega)
          clear m3 m4
          go_wp2_with fail
          refine (word_middle w v _ hw hv).mono ?_
          rintro e w' ⟨rfl, rfl⟩
          rw [m2]
          go_wp2_with fail
          refine (known_any _).mono ?_
          rintro e w' ⟨rfl, rfl⟩
          go_wp2_with fail
          go_ret
          exact ret_of rfl
        · subst c
          rw [show mid v v = v from by unfold mid; rw [if_pos (by omega)]; omega]
          clear m0 m1 m2 m3 m4
          go_wp2_with fail
          refine (word_middle v v _ hw hv).mono ?_
          rintro e w' ⟨rfl, rfl⟩
          rw [show mid v v = v from by unfold mid; rw [if_pos (by omega)]; omega]
          go_wp2_with fail
          refine (known_any _).mono ?_
          rintro e w' ⟨rfl, rfl⟩
          go_wp2_with fail
          go_ret
          exact ret_of rfl
        · obtain ⟨p1, p2, p3, p4⟩ := m4 (by omega)
          clear m3 m4
          go_wp2_with fail
          refine (word_middle w v _ hw hv).mono ?_
          rintro e w' ⟨rfl, rfl⟩
          rw [m2]
          go_wp2_with fail
          refine (known_any _).mono ?_
          rintro e w' ⟨rfl, rfl⟩
          go_wp2_with fail
          go_ret
          exact ret_of rfl
  · have A := bne_of (ord_self_nan n)
    have U := bne_of (ord_self_nan (up_nan (Or.inl n)))
    simp only [Bool.not_true] at A U
    go_wp2_with fail
    refine (word_middle v w _ hv hw).mono ?_
    rintro e w' ⟨rfl, rfl⟩
    rcases Int.lt_trichotomy v w with c | c | c
    · obtain ⟨p1, p2, p3, p4⟩ := m3 (by omega)
      clear m3 m4
      go_wp2_with fail
      refine (word_middle w v _ hw hv).mono ?_
      rintro e w' ⟨rfl, rfl⟩
      rw [m2]
      go_wp2_with fail
      refine (known_any _).mono ?_
      rintro e w' ⟨rfl, rfl⟩
      go_wp2_with fail
      go_ret
      exact ret_of rfl
    · subst c
      rw [show mid v v = v from by unfold mid; rw [if_pos (by omega)]; omega]
      clear m0 m1 m2 m3 m4
      go_wp2_with fail
      refine (word_middle v v _ hw hv).mono ?_
      rintro e w' ⟨rfl, rfl⟩
      rw [show mid v v = v from by unfold mid; rw [if_pos (by omega)]; omega]
      go_wp2_with fail
      refine (known_any _).mono ?_
      rintro e w' ⟨rfl, rfl⟩
      go_wp2_with fail
      go_ret
      exact ret_of rfl
    · obtain ⟨p1, p2, p3, p4⟩ := m4 (by omega)
      clear m3 m4
      go_wp2_with fail
      refine (word_middle w v _ hw hv).mono ?_
      rintro e w' ⟨rfl, rfl⟩
      rw [m2]
      go_wp2_with fail
      refine (known_any _).mono ?_
      rintro e w' ⟨rfl, rfl⟩
      go_wp2_with fail
      go_ret
      exact ret_of rfl
end Go.Proofs.Ytiijfmldmggccab
