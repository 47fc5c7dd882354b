
/-
  For every input OpaqueCells returns true, and leaves what was handed in as it was: the tied card. Its second form: the arguments hold together at most 1048576 values and letters.
-/
import Derived.Test.YthmiainhaebjiaaGreatDoorNoOsK
import Derived.Test.YthmiainhaebjiaaGreatDoorM35OqM0
namespace Go.Proofs.YthmiainhaebjiaaGreatDoor.opaqueCells
open Go.ChangeShapes Go.WideShapes Go.ChangeAt Go.RowKit Go.Shelf

set_option maxRecDepth 100000 in
theorem contract (H : Type) (enc : TypeId × Value → H) (W : World) (base : Nat) (args : Array Value) (ds gs : List (DataW H)) (before : List MemPlace)
    (hval : ∀ (j : Nat) t v, Tryz.f3.params[j]? = some t → args[j]? = some v → Value.okWide Tryz.prog W .any base t v)
    (hW : DataW.Whole enc Tryz.prog Tryz.f3.params.toList Rows.opaqueCellsSpec.vars false W args.toList ds gs before)
    (hsz0 : (DataW.weightsEach Tryz.prog (Tryz.f3.params.toList ++ Rows.opaqueCellsSpec.plain.varTypes Tryz.prog) (ds ++ gs)).all (· ≤ reachBytes) = true) (hk : Rows.uptoSmall H (ds ++ gs) = true) (hL : laidMetH Tryz.prog Rows.opaqueCellsUptoRow.laid W) :
    Calls Tryz.prog 3 args W fun e W' => ∃ v, e = .returned v ∧ Rows.opaqueCellsSpec.post enc Tryz.prog Tryz.f3 false true false false W args v W' := by
  have hsz := hsz0
  have hW' := hW
  obtain ⟨p, q, hA0, hV, rfl, hfz, hnd⟩ := hW
  have hA : DataW.TrodAll enc Tryz.prog W 0 (fun _ => true) true Tryz.f3.params.toList args.toList ds p := hA0
  rw [Tryz.params3] at hA hval hsz
  obtain ⟨v0, vs0, d0, ds0, p0, q0, hargs, rfl, rfl, h0, r0⟩ := trodAll_cons hA
  obtain ⟨v1, vs1, d1, ds1, p1, q1, rfl, rfl, rfl, h1, r1⟩ := trodAll_cons r0
  obtain ⟨v2, vs2, d2, ds2, p2, q2, rfl, rfl, rfl, h2, r2⟩ := trodAll_cons r1
  obtain ⟨v3, vs3, d3, ds3, p3, q3, rfl, rfl, rfl, h3, r3⟩ := trodAll_cons r2
  obtain ⟨rfl, rfl, rfl⟩ := trodAll_nil r3
  obtain rfl : args = #[v0, v1, v2, v3] := by cases args; simp_all
  obtain ⟨rfl, rfl⟩ := trodVars_none hV
  have lt0 : ∀ x ∈ p0, x.block < W.heap.size := by obtain ⟨m, hm⟩ := h0; exact DataW.trod_lt m _ _ _ hm
  obtain ⟨L0, hr0, hd0⟩ := open_wds (hval 0 22 v0 rfl rfl) h0
  have b0 : L0.length * 8 ≤ 140737488351232 := by
    rcases hd0 with ⟨_, rfl⟩ | ⟨e, s, rfl, hl⟩
    · simp
    · have := sized_slice hsz (j := 0) (t := 22) (e := 26) rfl rfl Tryz.underlying22
      rw [bytesU] at this
      simp only [reachBytes] at this
      omega
  have lt1 : ∀ x ∈ p1, x.block < W.heap.size := by obtain ⟨m, hm⟩ := h1; exact DataW.trod_lt m _ _ _ hm
  obtain ⟨L1, hr1, hd1⟩ := open_evl (hval 1 23 v1 rfl rfl) h1
  have b1 : L1.length * 48 ≤ 140737488351232 := by
    rcases hd1 with ⟨_, rfl⟩ | ⟨e, s, rfl, hl⟩
    · simp
    · have := sized_slice hsz (j := 1) (t := 23) (e := 60) rfl rfl Tryz.underlying23
      rw [bytesE] at this
      simp only [reachBytes] at this
      omega
  obtain ⟨a2, rfl, rfl, rfl, w2⟩ := open_int Tryz.underlying3 (hval 2 3 v2 rfl rfl) h2
  have lt3 : ∀ x ∈ p3, x.block < W.heap.size := by obtain ⟨m, hm⟩ := h3; exact DataW.trod_lt m _ _ _ hm
  obtain ⟨L3, hr3, hd3⟩ := open_cel (hval 3 24 v3 rfl rfl) h3
  have b3 : L3.length * 16 ≤ 140737488351232 := by
    rcases hd3 with ⟨_, rfl⟩ | ⟨e, s, rfl, hl⟩
    · simp
    · have := sized_slice hsz (j := 3) (t := 24) (e := 28) rfl rfl Tryz.underlying24
      rw [bytesCe] at this
      simp only [reachBytes] at this
      omega
  clear hA0
  simp only [List.append_nil] at hW'
  have hg := gv_of hL
  have h8 := eight hL
  have key : Calls Tryz.prog 3 #[v0, v1, .int .i64 a2, v3] W fun e w' => e = .returned (.bool true) ∧ Keeps (fun _ => False) W w' := by
    have bl0 : L0.length ≤ 1048576 := by
      rcases hd0 with ⟨_, rfl⟩ | ⟨e, s, rfl, hl⟩
      · simp
      · have := bulks.slice_len hk (e := e) (s := s) (by simp)
        omega
    have bl1 : L1.length ≤ 1048576 := by
      rcases hd1 with ⟨_, rfl⟩ | ⟨e, s, rfl, hl⟩
      · simp
      · have := bulks.slice_len hk (e := e) (s := s) (by simp)
        omega
    have bl3 : L3.length ≤ 1048576 := by
      rcases hd3 with ⟨_, rfl⟩ | ⟨e, s, rfl, hl⟩
      · simp
      · have := bulks.slice_len hk (e := e) (s := s) (by simp)
        omega
    exact cells_law v0 v1 v3 a2 L0 L1 L3 (by omega) (by omega) (by omega) hr3.2 W ⟨hr1.1, hr1.2, b1⟩ hr0 hr3.1 hg h8
  refine key.mono fun e W' ⟨he, hkp⟩ => ?_
  have bel := hkp.below W.heap.size (Nat.le_refl _) (fun _ f => f.elim)
  subst he
  exact ⟨_, rfl, _, _, _, [], _, [], hW', trodAll_mk1 (shut_bool Tryz.underlying4 _), trodAll_cons_mk (Below.trod laidOut (by kernel_rfl) (of_decide_eq_true (by kernel_rfl)) h0 bel lt0) (trodAll_cons_mk (Below.trod laidOut (by kernel_rfl) (of_decide_eq_true (by kernel_rfl)) h1 bel lt1) (trodAll_cons_mk (shut_int Tryz.underlying3 w2) (trodAll_cons_mk (Below.trod laidOut (by kernel_rfl) (of_decide_eq_true (by kernel_rfl)) h3 bel lt3) trodAll_mk0))), rfl, bel.frame _, fun h => by cases h⟩

theorem laid_met (os : Os) : laidMet Tryz.prog Rows.opaqueCellsUptoRow.laid ((laidWorld os).forCall (fun _ _ => 0) ⟨#[], #[.slice none 0 0, .slice none 0 0, .int .i64 0, .slice none 0 0], []⟩).memory :=
  laidMet_of_run' 8 (by kernel_rfl) (by kernel_rfl)
theorem reads (os : Os) {H : Type} (enc : TypeId × Value → H) : ∃ places, DataW.whole enc Tryz.prog ((laidWorld os).forCall (fun _ _ => 0) ⟨#[], #[.slice none 0 0, .slice none 0 0, .int .i64 0, .slice none 0 0], []⟩).memory Tryz.f3.params.toList Rows.opaqueCellsSpec.vars false (#[Value.slice none 0 0, Value.slice none 0 0, Value.int .i64 0, Value.slice none 0 0] : Array Value).toList 8 = some ([.nil, .nil, .lit (.int .i64 0), .nil], [], places) :=
  ⟨[], by kernel_rfl⟩

set_option maxRecDepth 100000 in
theorem lifted (os : Os) (started : os.Started) (H : Type) (enc : TypeId × Value → H) (F : Stop.Interp) :
    ReturnsInHanded {} Tryz.checked os 3 .any ((Rows.OpenSpec.upto Rows.opaqueCellsSpec).preRow enc Tryz.prog Tryz.f3 Rows.opaqueCellsUptoRow.domain false Rows.opaqueCellsUptoRow.laid) (((Rows.OpenSpec.upto Rows.opaqueCellsSpec).at F).post enc Tryz.prog Tryz.f3 false true false false) := by
  obtain ⟨places, hx⟩ := reads os enc
  refine returnsInHanded_of_row (C := Tryz.checked) (s := Rows.OpenSpec.upto Rows.opaqueCellsSpec) own started (by kernel_rfl) Tryz.func3
    (witness_row_at (enc := enc) (C := Tryz.checked) false (laidWorld os) #[.slice none 0 0, .slice none 0 0, .int .i64 0, .slice none 0 0] rfl (by kernel_rfl) (by kernel_rfl) (by kernel_rfl)
      (OpenSpec.preRow_of_cond 8 hx (by kernel_rfl) (fun k hk => by cases hk; kernel_rfl) (by kernel_rfl) (laid_met os))) ?_
  intro W base args ds gs before hval hW _ hK hsz hL _ _
  exact contract H enc W base args ds gs before hval hW hsz (hK _ rfl) hL

theorem said : Rows.OpaqueCellsUptoSaid :=
  OpenClaim.holds_of_cond 3 Tryz.f3 rfl rfl rfl rfl rfl rfl rfl ⟨rfl, rfl, rfl, rfl, rfl⟩ rfl rfl rfl rfl rfl (by kernel_rfl) Tryz.func3 (by kernel_rfl)
    (of_decide_eq_true (by kernel_rfl)) (by unfold Func.isWrapper; first | (rw [if_pos (by decide +kernel)]; kernel_rfl) | (rw [if_neg (by decide +kernel)]; exact ⟨rfl, rfl⟩))
    (fun os started H enc _ F => by rw [OpenClaim.pre_eq_preRow]; exact lifted os started H enc F)

theorem plain (f : FuncId) (fn : Func) (hf : Tryz.pinned.checked.prog.funcNamed "parley/parleylaw16.OpaqueCells" = some f) (hfn : Tryz.pinned.checked.prog.funcs[f]? = some fn) :
    false = Tryz.pinned.checked.prog.looks [] ∧ ∀ (j : Nat) t, fn.params[j]? = some t → Tryz.pinned.checked.prog.wantsStandIn t = false := by
  obtain rfl : f = 3 := Option.some.inj ((show Tryz.prog.funcNamed "parley/parleylaw16.OpaqueCells" = some 3 by kernel_rfl).symm.trans hf) |>.symm
  obtain rfl : fn = Tryz.f3 := (Option.some.inj (Tryz.func3.symm.trans hfn)).symm
  refine ⟨by kernel_rfl, fun j t ht => ?_⟩
  rw [Tryz.params3] at ht
  have hm := Array.mem_of_getElem? ht
  simp at hm
  rcases hm with rfl | rfl | rfl | rfl
  · exact (show Tryz.prog.wantsStandIn 22 = false by kernel_rfl)
  · exact (show Tryz.prog.wantsStandIn 23 = false by kernel_rfl)
  · exact (show Tryz.prog.wantsStandIn 3 = false by kernel_rfl)
  · exact (show Tryz.prog.wantsStandIn 24 = false by kernel_rfl)

theorem card : Rows.OpaqueCellsUptoCardSaid :=
  Claim7.holds_tied_plain_at .later [] _ _ _ _ said (fun _ h => by cases h) (by kernel_rfl) (fun _ h => by cases h) opaqueCellsUpto_row_tie rfl ⟨rfl, rfl⟩ (by kernel_rfl) rfl plain (by kernel_rfl)
end Go.Proofs.YthmiainhaebjiaaGreatDoor.opaqueCells

namespace Go.Proofs.YthmiainhaebjiaaGreatDoor
theorem opaqueCells_holds : Rows.OpaqueCellsUptoCardSaid := opaqueCells.card
end Go.Proofs.YthmiainhaebjiaaGreatDoor
