/-
  The law CellsNil returns true, and leaves all that was there as it was: no condition.
-/
import Derived.Test.YtmffkcbdgpaieaaRows
import Derived.Test.YtmffkcbdgpaieaaNil
namespace Go.Proofs.Ytmffkcbdgpaieaa
open Go.ChangeShapes Go.WideShapes Go.ChangeAt Go.RowKit

theorem zero_made (w : World) : ZeroRow (w.alloc (.cells #[.slice none 0 0, .int .u64 0] 74)) (some ⟨w.heap.size, 0, none⟩) :=
  .inr ⟨_, rfl, cell_of_block (alloc_block w _) 0, cell_of_block (alloc_block w _) 1⟩

set_option maxHeartbeats 400000 in
theorem nil_any (w : World) : Calls Try.prog 6 #[] w fun e w' => e = .returned (.bool true) ∧ Below w.heap.size w w' := by
  go_enter Try.func6, Try.ntmps6
  go_wp2_with fail
  refine (nothing_any none _ (.inl rfl)).mono ?_
  rintro e w1 ⟨rfl, k1⟩
  have hz := zero_made w1
  have k2 := k1.alloc k1.size (.cells #[.slice none 0 0, .int .u64 0] 74)
  go_wp2_with fail
  refine (nothing_any (some ⟨w1.heap.size, 0, none⟩) _ hz).mono ?_
  rintro e w3 ⟨rfl, k3⟩
  replace k3 := k2.trans (k3.mono k2.size)
  clear k1 k2 hz
  go_wp2_with fail
  refine (same_none1 none _ _ (.inl rfl)).mono ?_
  rintro e w4 ⟨rfl, k4⟩
  have k5 := k3.trans (k4.below w.heap.size k3.size (fun _ f => f.elim))
  clear k3 k4
  go_wp2_with (go_at_call 21; refine (known_any _).mono ?_; rintro e w6 ⟨rfl, k6⟩)
  go_ret
  exact ⟨rfl, k5.trans (k6.below w.heap.size k5.size (fun _ f => f.elim))⟩

theorem ownNil : ownKnob Try.prog.godebug = none := by kernel_rfl

set_option maxRecDepth 100000 in
theorem nil_lifted (os : Os) (started : os.Started) (H : Type) (enc : TypeId × Value → H) :
    ReturnsInHanded {} Try.checked os 6 .any (Rows.cellsNilSpec.pre6 enc Try.prog Try.f6 Rows.cellsNilRow.domain false) (Rows.cellsNilSpec.post enc Try.prog Try.f6 false true false false) := by
  refine returnsInHanded_of_change (C := Try.checked) ownNil started (by kernel_rfl) Try.func6
    (ChangeSpec.witness6 (enc := enc) (C := Try.checked) false ⟨#[], #[], []⟩ 8 (by kernel_rfl) (by kernel_rfl) (by kernel_rfl) (by kernel_rfl)) ?_
  intro W base args ds gs before hval0 hW hcnd _
  have hW' := hW
  obtain ⟨p, q, hA0, hV, rfl, hfz, hnd⟩ := hW
  have hA : DataW.TrodAll enc Try.prog W 0 (fun _ => true) true Try.f6.params.toList args.toList ds p := hA0
  rw [Try.params6] at hA
  obtain ⟨hargs, rfl, rfl⟩ := trodAll_nil hA
  obtain rfl : args = #[] := by cases args; simp_all
  obtain ⟨rfl, rfl⟩ := trodVars_none hV
  clear hA0 hval0
  simp only [List.append_nil] at hW'
  refine (nil_any W).mono fun e W' ⟨he, hb⟩ => ?_
  subst he
  exact ⟨_, rfl, _, _, _, [], _, [], hW', trodAll_mk1 (shut_bool Try.underlying4 _), trodAll_mk0, rfl, hb.frame _, fun h => by cases h⟩

theorem cellsNil_holds : Rows.CellsNilSaid :=
  OpenClaim.holds_of_wide 6 Try.f6 rfl rfl rfl rfl rfl rfl rfl ⟨rfl, rfl, rfl, rfl, rfl⟩ rfl rfl rfl rfl rfl (by kernel_rfl) Try.func6 (by kernel_rfl)
    (of_decide_eq_true (by kernel_rfl)) (by unfold Func.isWrapper; first | (rw [if_pos (by decide +kernel)]; kernel_rfl) | (rw [if_neg (by decide +kernel)]; exact ⟨rfl, rfl⟩))
    (fun os started H enc _ => nil_lifted os started H enc)

end Go.Proofs.Ytmffkcbdgpaieaa
