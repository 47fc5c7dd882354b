
/- Walks of the document's number (package parleyref08). No statement of the seat is proved here. -/
import Derived.Test.YtepigjbnpkpanaaDoorRpA
namespace Go.Proofs.YtepigjbnpkpanaaDoor
open Go.RowKit Go.Shelf

/-- Digits read from the left, a 0 ahead or not. -/
def refGo (n : Nat) : List UInt8 → Option Nat
  | [] => some n
  | c :: t => if c.toNat < 48 ∨ 57 < c.toNat then none else if (18446744073709551615 - (c.toNat - 48)) / 10 < n then none else refGo (n * 10 + (c.toNat - 48)) t
theorem dec_ref : ∀ (l : List UInt8) (n : Nat), n ≠ 0 → decGo false n l = refGo n l
  | [], _, _ => rfl
  | c :: t, n, h => by
    rw [decGo, refGo]
    by_cases h1 : c.toNat < 48 ∨ 57 < c.toNat
    · rw [if_pos h1, if_pos (by omega)]
    · rw [if_neg h1, if_neg (by simp [h]; omega)]
      split
      · rfl
      · exact dec_ref t _ (by omega)
theorem decL_ref (c : UInt8) (t : List UInt8) : decL (c :: t) = if t ≠ [] ∧ c.toNat = 48 then none else refGo 0 (c :: t) := by
  unfold decL
  rw [if_neg (by simp), decGo, refGo]
  by_cases h1 : c.toNat < 48 ∨ 57 < c.toNat
  · rw [if_pos (by omega), if_pos h1]
    split <;> rfl
  · rw [if_neg (by simp; omega), if_neg h1]
    split
    · split <;> rfl
    · by_cases h2 : c.toNat = 48
      · cases t with
        | nil => simp [decGo, refGo]
        | cons d u =>
          rw [if_pos ⟨by simp, h2⟩, h2, decGo, if_pos (by simp)]
      · rw [if_neg (by simp [h2])]
        exact dec_ref t _ (by omega)

set_option maxRecDepth 100000 in
set_option maxHeartbeats 4000000 in
theorem rnumber_any (l : List UInt8) (hl : l.length ≤ 140737488355328) (w : World) : Calls Tryd.prog 46 #[.string ⟨l.toArray⟩] w fun e w' => DPost l e ∧ w' = w := by
  have hsz : (⟨l.toArray⟩ : ByteArray).size = l.length := by simp [ByteArray.size]
  cases hl0 : l with
  | nil =>
    go_enter Tryd.func46, Tryd.ntmps46
    go_wp2_with fail
    go_ret2
    exact ⟨rfl, rfl⟩
  | cons c t =>
    rw [← hl0]
    have hlen : 1 ≤ l.length := by rw [hl0]; simp
    have hD := decL_ref c t
    rw [← hl0] at hD
    have hs0 : 0 < (⟨l.toArray⟩ : ByteArray).size := by rw [hsz]; omega
    have hat0 : ((⟨l.toArray⟩ : ByteArray)[0]'hs0).toNat = c.toNat := by
      show (l[0]'(by omega)).toNat = _
      simp [hl0]
    have hli0 : ((l.length : Int) == 0) = false := by
      have : (l.length : Int) ≠ 0 := by omega
      simpa using this
    have htl : t.length + 1 = l.length := by rw [hl0]; simp
    by_cases hz : t ≠ [] ∧ c.toNat = 48
    · rw [if_pos hz] at hD
      have h1 : (1 : Int) < l.length := by
        have := List.length_pos_iff.2 hz.1
        omega
      rw [hz.2] at hat0
      have hR : DPost l (.returned (.tuple #[.int .u64 0, .bool false])) := by unfold DPost; rw [hD]; rfl
      clear hD hl0 htl hz hlen
      go_enter Tryd.func46, Tryd.ntmps46
      go_wp2_with fail
      go_ret2
      exact ⟨hR, rfl⟩
    · rw [if_neg hz] at hD
      have hR : ∀ x, refGo 0 l = x → DPost l (.returned (.tuple #[.int .u64 ((x.getD 0 : Nat) : Int), .bool x.isSome])) := fun x hx => by unfold DPost; rw [hD, hx]
      have HR : Hid (∀ x, refGo 0 l = x → DPost l (.returned (.tuple #[.int .u64 ((x.getD 0 : Nat) : Int), .bool x.isSome]))) := hR
      go_enter Tryd.func46, Tryd.ntmps46
      have key : (l.length : Int) ≤ 1 ∨ ((1 : Int) < l.length ∧ ((c.toNat : Int) == 48) = false) := by
        by_cases h : t = []
        · left; rw [h] at htl; simp at htl; omega
        · right
          refine ⟨by have := List.length_pos_iff.2 h; omega, ?_⟩
          have : c.toNat ≠ 48 := fun e => hz ⟨h, e⟩
          simp; omega
      generalize hcc : c.toNat = cn at *
      clear hD hR hz htl hcc hl0
      rcases key with hk | ⟨hk1, hk2⟩
      all_goals
        go_wp2_with fail
        go_loopw [4, 5] (fun v v2 wr => ∃ (x i : Nat), v = .int .u64 x ∧ v2 = .int .i64 i ∧ i ≤ l.length ∧ x < 18446744073709551616 ∧ wr = w ∧ Hid (refGo x (l.drop i) = refGo 0 l)) (fun _ v _ => l.length - (intOf v).toNat)
        case atStart => exact ⟨0, 0, rfl, rfl, Nat.zero_le _, by omega, rfl, by exact rfl⟩
        case round =>
          obtain ⟨x, i, rfl, rfl, hil, hx, rfl, hh⟩ := hrel
          by_cases hlt : i < l.length
          · have hli : (i : Int) < l.length := by omega
            have hs : i < (⟨l.toArray⟩ : ByteArray).size := by rw [hsz]; exact hlt
            have hat : ((⟨l.toArray⟩ : ByteArray)[i]'hs).toNat = (l[i]).toNat := rfl
            have h0 := hh.out
            rw [List.drop_eq_getElem_cons hlt, refGo] at h0
            have h256 : (l[i]).toNat < 256 := (l[i]).toNat_lt
            generalize (l[i]).toNat = d at *
            have B1 : (d < 48 ∨ 57 < d) → DPost l (.returned (.tuple #[.int .u64 0, .bool false])) := fun h => by
              rw [if_pos h] at h0
              exact HR.out none h0.symm
            have B2 : ¬ (d < 48 ∨ 57 < d) → (18446744073709551615 - (d - 48)) / 10 < x → DPost l (.returned (.tuple #[.int .u64 0, .bool false])) := fun h h' => by
              rw [if_neg h, if_pos h'] at h0
              exact HR.out none h0.symm
            have B3 : ¬ (d < 48 ∨ 57 < d) → ¬ (18446744073709551615 - (d - 48)) / 10 < x → Hid (refGo (x * 10 + (d - 48)) (l.drop (i + 1)) = refGo 0 l) := fun h h' => by
              rw [if_neg h, if_neg h'] at h0
              exact h0
            clear h0 hh
            by_cases hc1 : d < 48
            · have g1 : (d : Int) < 48 := by omega
              have hRR := B1 (by omega)
              clear B1 B2 B3
              go_wp2_with fail
              go_ret2
              exact ⟨hRR, rfl⟩
            · by_cases hc2 : 57 < d
              · have g1 : ¬ (d : Int) < 48 := by omega
                have g2 : (57 : Int) < d := by omega
                have hRR := B1 (by omega)
                clear B1 B2 B3
                go_wp2_with fail
                go_ret2
                exact ⟨hRR, rfl⟩
              · obtain ⟨ci, hci⟩ : ∃ ci : Int, ci = d := ⟨_, rfl⟩
                have g1 : ¬ ci < 48 := by omega
                have g2 : ¬ 57 < ci := by omega
                have hd0 : 0 ≤ ci - 48 := by omega
                have hd9 : ci - 48 ≤ 9 := by omega
                have hdc : Hid (ci - 48 = ((d - 48 : Nat) : Int)) := by show ci - 48 = _; omega
                have hat' : (((⟨l.toArray⟩ : ByteArray)[i]'hs).toNat : Int) = ci := by rw [hat, hci]
                obtain ⟨X, hX⟩ : ∃ X : Int, X = x := ⟨_, rfl⟩
                have hX0 : 0 ≤ X := by omega
                have hX1 : X < 18446744073709551616 := by omega
                by_cases hbig : (18446744073709551615 - (ci - 48)) / 10 < X
                · have hRR := B2 (by omega) (by have := hdc.out; omega)
                  rw [← hX]
                  clear B1 B2 B3 hat hX hci
                  go_wp2_with fail
                  go_ret2
                  exact ⟨hRR, rfl⟩
                · have hRR := B3 (by omega) (by have := hdc.out; omega)
                  have b1 : 10 * X < 18446744073709551616 := by omega
                  have b2 : 10 * X + (ci - 48) < 18446744073709551616 := by omega
                  have e2 : Hid (10 * X + (ci - 48) = ((x * 10 + (d - 48) : Nat) : Int)) := by show _ = _; have := hdc.out; omega
                  have e3 : Hid (x * 10 + (d - 48) < 18446744073709551616) := by show _ < _; have := hdc.out; omega
                  rw [← hX]
                  clear B1 B2 B3 hat hX hci
                  go_wp2_with fail
                  go_roundw
                  · exact ⟨x * 10 + (d - 48), i + 1, by rw [e2.out], by simp, by omega, e3.out, by first | rfl | trivial, hRR⟩
                  · simp [intOf]; omega
          · have hli : ¬ (i : Int) < l.length := by omega
            have h0 := hh.out
            rw [List.drop_eq_nil_of_le (by omega), refGo] at h0
            have hRR := HR.out (some x) h0.symm
            clear hh h0
            go_wp2_with fail
            go_ret2
            exact ⟨hRR, rfl⟩
end Go.Proofs.YtepigjbnpkpanaaDoor
