
/-
  AttemptNames returns true, and leaves all that was there as it was: the tied card.
-/
import Derived.Test.YtmhinalgjfiliaaDoorDoorL
import Derived.Test.YtmhinalgjfiliaaDoorAtL
namespace Go.Proofs.YtmhinalgjfiliaaDoor.attemptNames
open Go.ChangeShapes Go.WideShapes Go.ChangeAt Go.RowKit Go.Shelf

set_option maxRecDepth 100000 in
set_option maxHeartbeats 2000000 in
theorem law_walk (w : World) (hz : Tz w) : Calls Tryd.prog 5 #[] w fun e w' => e = .returned (.bool true) ∧ Below w.heap.size w w' := by
  have HK : Hid (∀ o o', Calls Tryd.prog 9 #[] ((w.alloc o).alloc o') fun e w' => e = .returned (.bool true) ∧ Below w.heap.size w w') := fun o o' => by
    have k := (Keeps.al w o).trans (Keeps.al _ o')
    exact (known_any _ (hz.keeps k (fun f => f))).mono fun e w' ⟨h1, h2⟩ => ⟨h1, (k.trans h2).below w.heap.size (Nat.le_refl _) (fun _ f => f.elim)⟩
  clear hz
  go_enter Tryd.func5, Tryd.ntmps5
  go_wp2_with fail
  go_loopw [2] (fun v wr => ∃ k : Nat, k ≤ 10 ∧ v = .int .i64 k ∧ wr = w.alloc (.cells #[.int .i64 1, .int .i64 2, .int .i64 3, .int .i64 4, .int .i64 5, .int .i64 6, .int .i64 7, .int .i64 8, .int .i64 9, .int .i64 10] 53)) (fun v _ => 10 - (intOf v).toNat)
  case atStart => exact ⟨0, by omega, rfl, rfl⟩
  case round =>
    obtain ⟨k, hk, rfl, rfl⟩ := hrel
    by_cases hlt : k < 10
    · rcases (by omega : k = 0 ∨ k = 1 ∨ k = 2 ∨ k = 3 ∨ k = 4 ∨ k = 5 ∨ k = 6 ∨ k = 7 ∨ k = 8 ∨ k = 9) with rfl | rfl | rfl | rfl | rfl | rfl | rfl | rfl | rfl | rfl
      all_goals clear hk hlt
      all_goals go_wp2_with fail
      all_goals go_roundw
      all_goals first | exact ⟨1, by decide, rfl, trivial⟩ | exact ⟨2, by decide, rfl, trivial⟩ | exact ⟨3, by decide, rfl, trivial⟩ | exact ⟨4, by decide, rfl, trivial⟩ | exact ⟨5, by decide, rfl, trivial⟩ | exact ⟨6, by decide, rfl, trivial⟩ | exact ⟨7, by decide, rfl, trivial⟩ | exact ⟨8, by decide, rfl, trivial⟩ | exact ⟨9, by decide, rfl, trivial⟩ | exact ⟨10, by decide, rfl, trivial⟩ | decide
    · obtain rfl : k = 10 := by omega
      clear hk hlt
      go_wp2_with fail
      go_loopw [4] (fun v wr => ∃ k : Nat, k ≤ 7 ∧ v = .int .i64 k ∧ wr = (w.alloc (.cells #[.int .i64 1, .int .i64 2, .int .i64 3, .int .i64 4, .int .i64 5, .int .i64 6, .int .i64 7, .int .i64 8, .int .i64 9, .int .i64 10] 53)).alloc (.cells #[.int .i64 1, .int .i64 2, .int .i64 3, .int .i64 4, .int .i64 5, .int .i64 6, .int .i64 7] 33)) (fun v _ => 7 - (intOf v).toNat)
      case atStart => exact ⟨0, by omega, rfl, rfl⟩
      case round =>
        obtain ⟨k, hk, rfl, rfl⟩ := hrel
        by_cases hlt : k < 7
        · rcases (by omega : k = 0 ∨ k = 1 ∨ k = 2 ∨ k = 3 ∨ k = 4 ∨ k = 5 ∨ k = 6) with rfl | rfl | rfl | rfl | rfl | rfl | rfl
          all_goals clear hk hlt
          all_goals go_wp2_with fail
          all_goals go_roundw
          all_goals first | exact ⟨1, by decide, rfl, trivial⟩ | exact ⟨2, by decide, rfl, trivial⟩ | exact ⟨3, by decide, rfl, trivial⟩ | exact ⟨4, by decide, rfl, trivial⟩ | exact ⟨5, by decide, rfl, trivial⟩ | exact ⟨6, by decide, rfl, trivial⟩ | exact ⟨7, by decide, rfl, trivial⟩ | exact ⟨8, by decide, rfl, trivial⟩ | exact ⟨9, by decide, rfl, trivial⟩ | exact ⟨10, by decide, rfl, trivial⟩ | decide
        · obtain rfl : k = 7 := by omega
          clear hk hlt
          go_wp2_with fail
          refine (HK.out _ _).mono ?_
          rintro e w' ⟨rfl, hb⟩
          go_wp2_with fail
          go_ret
          exact ⟨rfl, hb⟩


set_option maxRecDepth 100000 in
theorem contract (H : Type) (enc : TypeId × Value → H) (W : World) (args : Array Value) (ds gs : List (DataW H)) (before : List MemPlace)
    (hW : DataW.Whole enc Tryd.prog Tryd.f5.params.toList Rows.attemptNamesSpec.vars false W args.toList ds gs before) (hL : laidMetH Tryd.prog Rows.attemptNamesRow.laid W) :
    Calls Tryd.prog 5 args W fun e W' => ∃ v, e = .returned v ∧ Rows.attemptNamesSpec.post enc Tryd.prog Tryd.f5 false true false false W args v W' := by
  have hW' := hW
  obtain ⟨p, q, hA0, hV, rfl, hfz, hnd⟩ := hW
  have hA : DataW.TrodAll enc Tryd.prog W 0 (fun _ => true) true Tryd.f5.params.toList args.toList ds p := hA0
  rw [Tryd.params5] at hA
  obtain ⟨hargs, rfl, rfl⟩ := trodAll_nil hA
  obtain rfl : args = #[] := by cases args; simp_all
  obtain ⟨rfl, rfl⟩ := trodVars_none hV
  clear hA0
  simp only [List.append_nil] at hW'
  refine (law_walk W (tz_of hL)).mono fun e W' ⟨he, hg⟩ => ?_
  subst he
  exact ⟨_, rfl, _, _, _, [], _, [], hW', trodAll_mk1 (shut_bool Tryd.underlying4 _), trodAll_mk0, rfl, hg.frame _, fun h => by cases h⟩

theorem laid_met (os : Os) : laidMet Tryd.prog Rows.attemptNamesRow.laid ((laidWorld os).forCall (fun _ _ => 0) ⟨#[], #[], []⟩).memory :=
  laidMet_of_run' 8 (by kernel_rfl) (by kernel_rfl)
theorem reads (os : Os) {H : Type} (enc : TypeId × Value → H) : ∃ places, DataW.whole enc Tryd.prog ((laidWorld os).forCall (fun _ _ => 0) ⟨#[], #[], []⟩).memory Tryd.f5.params.toList Rows.attemptNamesSpec.vars false (#[] : Array Value).toList 8 = some ([], [], places) :=
  ⟨[], by kernel_rfl⟩

set_option maxRecDepth 100000 in
theorem lifted (os : Os) (started : os.Started) (H : Type) (enc : TypeId × Value → H) (F : Stop.Interp) :
    ReturnsInHanded {} Tryd.checked os 5 .any ((OpenSpec.ofChange Rows.attemptNamesSpec).preRow enc Tryd.prog Tryd.f5 Rows.attemptNamesRow.domain false Rows.attemptNamesRow.laid) (((OpenSpec.ofChange Rows.attemptNamesSpec).at F).post enc Tryd.prog Tryd.f5 false true false false) := by
  obtain ⟨places, hx⟩ := reads os enc
  refine returnsInHanded_of_row (C := Tryd.checked) (s := OpenSpec.ofChange Rows.attemptNamesSpec) own started (by kernel_rfl) Tryd.func5
    (witness_row_at (enc := enc) (C := Tryd.checked) false (laidWorld os) #[] rfl (by kernel_rfl) (by kernel_rfl) (by kernel_rfl)
      (OpenSpec.preRow_of_cond 8 hx (by kernel_rfl) (fun k hk => by cases hk) (by kernel_rfl) (laid_met os))) ?_
  intro W base args ds gs before hval hW _ _ _ hL _ _
  exact contract H enc W args ds gs before hW hL

theorem said : Rows.AttemptNamesSaid :=
  OpenClaim.holds_of_cond 5 Tryd.f5 rfl rfl rfl rfl rfl rfl rfl ⟨rfl, rfl, rfl, rfl, rfl⟩ rfl rfl rfl rfl rfl (by kernel_rfl) Tryd.func5 (by kernel_rfl)
    (of_decide_eq_true (by kernel_rfl)) (by unfold Func.isWrapper; first | (rw [if_pos (by decide +kernel)]; kernel_rfl) | (rw [if_neg (by decide +kernel)]; exact ⟨rfl, rfl⟩))
    (fun os started H enc _ F => by rw [OpenClaim.pre_eq_preRow]; exact lifted os started H enc F)

theorem plain (f : FuncId) (fn : Func) (hf : Tryd.pinned.checked.prog.funcNamed "parley/parleylaw07.AttemptNames" = some f) (hfn : Tryd.pinned.checked.prog.funcs[f]? = some fn) :
    false = Tryd.pinned.checked.prog.looks [] ∧ ∀ (j : Nat) t, fn.params[j]? = some t → Tryd.pinned.checked.prog.wantsStandIn t = false := by
  obtain rfl : f = 5 := Option.some.inj ((show Tryd.prog.funcNamed "parley/parleylaw07.AttemptNames" = some 5 by kernel_rfl).symm.trans hf) |>.symm
  obtain rfl : fn = Tryd.f5 := (Option.some.inj (Tryd.func5.symm.trans hfn)).symm
  refine ⟨by kernel_rfl, fun j t ht => ?_⟩
  rw [Tryd.params5] at ht
  simp at ht

theorem card : Rows.AttemptNamesCardSaid :=
  Claim7.holds_tied_plain_at .later [] _ _ _ _ said (fun _ h => by cases h) (by kernel_rfl) (fun _ h => by cases h) attemptNames_row_tie rfl ⟨rfl, rfl⟩ (by kernel_rfl) rfl plain (by kernel_rfl)
end Go.Proofs.YtmhinalgjfiliaaDoor.attemptNames

namespace Go.Proofs.YtmhinalgjfiliaaDoor
theorem attemptNames_holds : Rows.AttemptNamesCardSaid := attemptNames.card
end Go.Proofs.YtmhinalgjfiliaaDoor
