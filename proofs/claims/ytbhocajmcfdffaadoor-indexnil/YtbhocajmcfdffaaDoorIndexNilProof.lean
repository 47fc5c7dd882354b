/-
  IndexNil returns true, and leaves all that was there as it was: the tied card.
-/
import Derived.Test.YtbhocajmcfdffaaDoorDoor
import Derived.Test.YtbhocajmcfdffaaDoorNothing
namespace Go.Proofs.YtbhocajmcfdffaaDoor.indexNil
open Go.ChangeShapes Go.WideShapes Go.ChangeAt Go.RowKit

theorem zero_made (w : World) : I.NoTab (w.alloc (.cells #[.slice none 0 0, .int .i64 0, .pointer none] 74)) (some ⟨w.heap.size, 0, none⟩) :=
  .inr ⟨_, rfl, cell_of_block (alloc_block w _) 0, cell_of_block (alloc_block w _) 1⟩

theorem tz_below {w w' : World} (h : Tz w) (k : Below w.heap.size w w') : Tz w' := h.keeps (Keeps.of_below k (fun _ => False)) (fun f => f)

set_option maxHeartbeats 400000 in
theorem nil_law (w : World) (hw : Tz w) : Calls Tryd.prog 8 #[] w fun e w' => e = .returned (.bool true) ∧ Below w.heap.size w w' := by
  go_enter Tryd.func8, Tryd.ntmps8
  go_wp2_with fail
  refine (nothing_any none _ (.inl rfl)).mono ?_
  rintro e w1 ⟨rfl, k1⟩
  have hz := zero_made w1
  have k2 := k1.alloc k1.size (.cells #[.slice none 0 0, .int .i64 0, .pointer none] 74)
  go_wp2_with fail
  refine (nothing_any (some ⟨w1.heap.size, 0, none⟩) _ hz).mono ?_
  rintro e w3 ⟨rfl, k3⟩
  replace k3 := k2.trans (k3.mono k2.size)
  have hw3 := tz_below hw k3
  clear k1 k2 hz
  go_wp2_with fail
  refine (known_any _ hw3).mono ?_
  rintro e w4 ⟨rfl, k4⟩
  have k5 := k3.trans (k4.below w.heap.size k3.size (fun _ f => f.elim))
  go_wp2_with fail
  go_ret
  exact ⟨rfl, k5⟩

set_option maxRecDepth 100000 in
theorem contract (H : Type) (enc : TypeId × Value → H) (W : World) (args : Array Value) (ds gs : List (DataW H)) (before : List MemPlace)
    (hW : DataW.Whole enc Tryd.prog Tryd.f8.params.toList Rows.indexNilSpec.vars false W args.toList ds gs before) (hL : laidMetH Tryd.prog Rows.indexNilRow.laid W) :
    Calls Tryd.prog 8 args W fun e W' => ∃ v, e = .returned v ∧ Rows.indexNilSpec.post enc Tryd.prog Tryd.f8 false true false false W args v W' := by
  have hW' := hW
  obtain ⟨p, q, hA0, hV, rfl, hfz, hnd⟩ := hW
  have hA : DataW.TrodAll enc Tryd.prog W 0 (fun _ => true) true Tryd.f8.params.toList args.toList ds p := hA0
  rw [Tryd.params8] at hA
  obtain ⟨hargs, rfl, rfl⟩ := trodAll_nil hA
  obtain rfl : args = #[] := by cases args; simp_all
  obtain ⟨rfl, rfl⟩ := trodVars_none hV
  clear hA0
  simp only [List.append_nil] at hW'
  refine (nil_law W (tz_of hL)).mono fun e W' ⟨he, hg⟩ => ?_
  subst he
  exact ⟨_, rfl, _, _, _, [], _, [], hW', trodAll_mk1 (shut_bool Tryd.underlying4 _), trodAll_mk0, rfl, hg.frame _, fun h => by cases h⟩

theorem laid_met (os : Os) : laidMet Tryd.prog Rows.indexNilRow.laid ((laidWorld os).forCall (fun _ _ => 0) ⟨#[], #[], []⟩).memory :=
  laidMet_of_run' 8 (by kernel_rfl) (by kernel_rfl)
theorem reads (os : Os) {H : Type} (enc : TypeId × Value → H) : ∃ places, DataW.whole enc Tryd.prog ((laidWorld os).forCall (fun _ _ => 0) ⟨#[], #[], []⟩).memory Tryd.f8.params.toList Rows.indexNilSpec.vars false (#[] : Array Value).toList 8 = some ([], [], places) :=
  ⟨[], by kernel_rfl⟩

set_option maxRecDepth 100000 in
theorem lifted (os : Os) (started : os.Started) (H : Type) (enc : TypeId × Value → H) (F : Stop.Interp) :
    ReturnsInHanded {} Tryd.checked os 8 .any ((OpenSpec.ofChange Rows.indexNilSpec).preRow enc Tryd.prog Tryd.f8 Rows.indexNilRow.domain false Rows.indexNilRow.laid) (((OpenSpec.ofChange Rows.indexNilSpec).at F).post enc Tryd.prog Tryd.f8 false true false false) := by
  obtain ⟨places, hx⟩ := reads os enc
  refine returnsInHanded_of_row (C := Tryd.checked) (s := OpenSpec.ofChange Rows.indexNilSpec) own started (by kernel_rfl) Tryd.func8
    (witness_row_at (enc := enc) (C := Tryd.checked) false (laidWorld os) #[] rfl (by kernel_rfl) (by kernel_rfl) (by kernel_rfl)
      (OpenSpec.preRow_of_cond 8 hx (by kernel_rfl) (fun k hk => by cases hk) (by kernel_rfl) (laid_met os))) ?_
  intro W base args ds gs before hval hW _ _ _ hL _ _
  exact contract H enc W args ds gs before hW hL

theorem said : Rows.IndexNilSaid :=
  OpenClaim.holds_of_cond 8 Tryd.f8 rfl rfl rfl rfl rfl rfl rfl ⟨rfl, rfl, rfl, rfl, rfl⟩ rfl rfl rfl rfl rfl (by kernel_rfl) Tryd.func8 (by kernel_rfl)
    (of_decide_eq_true (by kernel_rfl)) (by unfold Func.isWrapper; first | (rw [if_pos (by decide +kernel)]; kernel_rfl) | (rw [if_neg (by decide +kernel)]; exact ⟨rfl, rfl⟩))
    (fun os started H enc _ F => by rw [OpenClaim.pre_eq_preRow]; exact lifted os started H enc F)

theorem plain (f : FuncId) (fn : Func) (hf : Tryd.pinned.checked.prog.funcNamed "parley/parleylaw04.IndexNil" = some f) (hfn : Tryd.pinned.checked.prog.funcs[f]? = some fn) :
    false = Tryd.pinned.checked.prog.looks [] ∧ ∀ (j : Nat) t, fn.params[j]? = some t → Tryd.pinned.checked.prog.wantsStandIn t = false := by
  obtain rfl : f = 8 := Option.some.inj ((show Tryd.prog.funcNamed "parley/parleylaw04.IndexNil" = some 8 by kernel_rfl).symm.trans hf) |>.symm
  obtain rfl : fn = Tryd.f8 := (Option.some.inj (Tryd.func8.symm.trans hfn)).symm
  refine ⟨by kernel_rfl, fun j t ht => ?_⟩
  rw [Tryd.params8] at ht
  simp at ht

theorem card : Rows.IndexNilCardSaid :=
  Claim7.holds_tied_plain_at .later [] _ _ _ _ said (fun _ h => by cases h) (by kernel_rfl) (fun _ h => by cases h) indexNil_row_tie rfl ⟨rfl, rfl⟩ (by kernel_rfl) rfl plain (by kernel_rfl)
end Go.Proofs.YtbhocajmcfdffaaDoor.indexNil

namespace Go.Proofs.YtbhocajmcfdffaaDoor
theorem indexNil_holds : Rows.IndexNilCardSaid := indexNil.card
end Go.Proofs.YtbhocajmcfdffaaDoor
