/-
  The law CellsNames returns true, and leaves all that was there as it was: no condition.
-/
import Derived.Test.YtmffkcbdgpaieaaRows
import Derived.Test.YtmffkcbdgpaieaaKnown
import Derived.ProofKit
import Derived.OpenShut
namespace Go.Proofs.Ytmffkcbdgpaieaa
open Go.ChangeShapes Go.WideShapes Go.ChangeAt Go.RowKit

theorem n_new (w : World) : Calls Try.prog 9 #[.int .i64 65536] w fun e w' => e = .returned (.tuple #[.pointer (some ⟨w.heap.size + 1, 0, none⟩), .int .i64 0]) ∧ (∃ ws : List Int, ws.length = 65536 ∧ RowAt w' 74 36 (w.heap.size + 1) w.heap.size ws 0) ∧ Keeps (fun _ => False) w w' :=
  (new_yes 65536 w (by omega) (by omega)).mono fun _ _ ⟨h1, h2, h3⟩ => ⟨h1, ⟨_, by rw [List.length_replicate]; rfl, h2⟩, h3⟩

theorem n_load (b c : Nat) (ws : List Int) (w : World) (n : Int) (hl : ws.length = 65536) (h : RowAt w 74 36 b c ws n) : Calls Try.prog 29 #[.pointer (some ⟨b, 0, none⟩), .int .u64 65535] w fun e w' => (∃ x, e = .returned (.tuple #[.int .u64 x, .int .i64 0])) ∧ RowAt w' 74 36 b c ws (more n) ∧ Keeps (fun k => k = b ∨ k = c) w w' :=
  (load_at b c ws n 65535 w h (by omega)).mono fun _ _ ⟨h1, h2, h3⟩ => ⟨⟨wordAt ws 65535, by rw [h1, show errAt ws.length 65535 = 0 from if_pos (by omega)]⟩, h2, h3⟩
theorem n_load' (b c : Nat) (ws : List Int) (w : World) (n : Int) (hl : ws.length = 65536) (h : RowAt w 74 36 b c ws n) : Calls Try.prog 29 #[.pointer (some ⟨b, 0, none⟩), .int .u64 65536] w fun e w' => (∃ x, e = .returned (.tuple #[.int .u64 x, .int .i64 4])) ∧ Keeps (fun k => k = b ∨ k = c) w w' :=
  (load_at b c ws n 65536 w h (by omega)).mono fun _ _ ⟨h1, _, h3⟩ => ⟨⟨wordAt ws 65536, by rw [h1, show errAt ws.length 65536 = 4 from if_neg (by omega)]⟩, h3⟩

set_option maxHeartbeats 400000 in
theorem names_any (w : World) : Calls Try.prog 7 #[] w fun e w' => e = .returned (.bool true) ∧ Keeps (fun _ => False) w w' := by
  go_enter Try.func7, Try.ntmps7
  go_wp2_with fail
  refine (n_new w).mono ?_
  rintro e w1 ⟨rfl, ⟨ws, hl, r1⟩, k1⟩
  have HL : Hid (ws.length = 65536) := hl
  clear hl
  go_wp2_with fail
  refine (new_no 65537 _ (by omega)).mono ?_
  rintro e w' ⟨rfl, rfl⟩
  go_wp2_with fail
  refine (new_no 0 _ (by omega)).mono ?_
  rintro e w' ⟨rfl, rfl⟩
  go_wp2_with (go_at_call 13; refine (num_any _ _).mono ?_; rintro e w' ⟨rfl, rfl⟩)
  refine (n_load _ _ ws _ _ HL.out r1).mono ?_
  rintro e w2 ⟨⟨x, rfl⟩, r2, k2⟩
  replace k2 := keeps_new k1 k2 (by omega) (by omega)
  clear k1 r1
  go_wp2_with fail
  refine (n_load' _ _ ws _ _ HL.out r2).mono ?_
  rintro e w1 ⟨⟨y, rfl⟩, k1⟩
  replace k1 := keeps_new k2 k1 (by omega) (by omega)
  clear k2 r2
  go_wp2_with (first | (go_at_call 13; refine (num_any _ _).mono ?_; rintro e w' ⟨rfl, rfl⟩) | (go_at_call 21; refine (known_any _).mono ?_; rintro e w3 ⟨rfl, k3⟩))
  go_ret
  exact ⟨rfl, k1.trans k3⟩

theorem ownNames : ownKnob Try.prog.godebug = none := by kernel_rfl

set_option maxRecDepth 100000 in
theorem names_lifted (os : Os) (started : os.Started) (H : Type) (enc : TypeId × Value → H) :
    ReturnsInHanded {} Try.checked os 7 .any (Rows.cellsNamesSpec.pre6 enc Try.prog Try.f7 Rows.cellsNamesRow.domain false) (Rows.cellsNamesSpec.post enc Try.prog Try.f7 false true false false) := by
  refine returnsInHanded_of_change (C := Try.checked) ownNames started (by kernel_rfl) Try.func7
    (ChangeSpec.witness6 (enc := enc) (C := Try.checked) false ⟨#[], #[], []⟩ 8 (by kernel_rfl) (by kernel_rfl) (by kernel_rfl) (by kernel_rfl)) ?_
  intro W base args ds gs before hval0 hW hcnd _
  have hW' := hW
  obtain ⟨p, q, hA0, hV, rfl, hfz, hnd⟩ := hW
  have hA : DataW.TrodAll enc Try.prog W 0 (fun _ => true) true Try.f7.params.toList args.toList ds p := hA0
  rw [Try.params7] at hA
  obtain ⟨hargs, rfl, rfl⟩ := trodAll_nil hA
  obtain rfl : args = #[] := by cases args; simp_all
  obtain ⟨rfl, rfl⟩ := trodVars_none hV
  clear hA0 hval0
  simp only [List.append_nil] at hW'
  refine (names_any W).mono fun e W' ⟨he, hg⟩ => ?_
  subst he
  have hb : Below W.heap.size W W' := hg.below _ (Nat.le_refl _) (fun _ f => f.elim)
  exact ⟨_, rfl, _, _, _, [], _, [], hW', trodAll_mk1 (shut_bool Try.underlying4 _), trodAll_mk0, rfl, hb.frame _, fun h => by cases h⟩

theorem cellsNames_holds : Rows.CellsNamesSaid :=
  OpenClaim.holds_of_wide 7 Try.f7 rfl rfl rfl rfl rfl rfl rfl ⟨rfl, rfl, rfl, rfl, rfl⟩ rfl rfl rfl rfl rfl (by kernel_rfl) Try.func7 (by kernel_rfl)
    (of_decide_eq_true (by kernel_rfl)) (by unfold Func.isWrapper; first | (rw [if_pos (by decide +kernel)]; kernel_rfl) | (rw [if_neg (by decide +kernel)]; exact ⟨rfl, rfl⟩))
    (fun os started H enc _ => names_lifted os started H enc)

end Go.Proofs.Ytmffkcbdgpaieaa
