
/- CodeNames' walk. No statement of the seat is proved here. -/
import Derived.Test.YtepigjbnpkpanabDoorRfA
namespace Go.Proofs.YtepigjbnpkpanabDoor
open Go.RowKit Go.Shelf

set_option maxRecDepth 100000 in
set_option maxHeartbeats 2000000 in
theorem names_law (w : World) (hw : Gl w) : Calls Tryd.prog 3 #[] w fun e w' => e = .returned (.bool true) ∧ Keeps (fun _ => False) w w' := by
  go_enter Tryd.func3, Tryd.ntmps3
  go_wp2_with fail
  go_loopw [1] (fun v wr => ∃ k : Nat, v = .int .i64 k ∧ 1 ≤ k ∧ k ≤ 18 ∧ Keeps (fun _ => False) w wr) (fun v _ => 18 - (intOf v).toNat)
  case atStart => exact ⟨1, rfl, Nat.le_refl _, by omega, Keeps.refl _ _⟩
  case round =>
    obtain ⟨k, rfl, hk1, hk2, kw⟩ := hrel
    by_cases hlt : k ≤ 17
    · have hki : (k : Int) ≤ 17 := by omega
      have R := rname_yes k hlt wr
      have N := name_yes (k : Int) (by omega) (by omega) wr (hw.keeps kw).nms
      rw [show ((k : Int)).toNat = k by simp] at N
      generalize nm k = s at *
      have hb : (s.toList == s.toList) = true := by simp
      go_wp2_with (first | (go_at_call 4; refine N.mono ?_; rintro e w' ⟨rfl, hw'⟩; replace hw' := hw'.symm; subst hw') | (go_at_call 5; refine R.mono ?_; rintro e w' ⟨rfl, rfl⟩))
      go_roundw
      · exact ⟨k + 1, by simp, by omega, by omega, kw.alloc _⟩
      · simp [intOf]; omega
    · obtain rfl : k = 18 := by omega
      have W := works_any wr (hw.keeps kw)
      go_wp2_with (go_at_call 6; refine W.mono ?_; rintro e w5 ⟨rfl, k5⟩)
      go_ret
      exact ⟨rfl, kw.trans k5⟩
end Go.Proofs.YtepigjbnpkpanabDoor
