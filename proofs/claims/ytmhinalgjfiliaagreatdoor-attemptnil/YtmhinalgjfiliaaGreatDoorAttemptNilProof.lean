
/-
  AttemptNil returns true, and leaves all that was there as it was: the tied card.
-/
import Derived.Test.YtmhinalgjfiliaaGreatDoorDoorL
import Derived.Test.YtmhinalgjfiliaaGreatDoorAtO
namespace Go.Proofs.YtmhinalgjfiliaaGreatDoor.attemptNil
open Go.ChangeShapes Go.WideShapes Go.ChangeAt Go.RowKit Go.Shelf

theorem sh_row {W : World} {R : Sh} {ws : List Int} {x : Int} (h : ShAt W R ws x) : ∃ l, 0 < l ∧ W.cell? ⟨R.rb, 0, none⟩ = some (.slice (some ⟨R.rc, 0, none⟩) l l) := by
  obtain ⟨n, r⟩ := h.row
  exact ⟨_, r.pos, r.cell0⟩

set_option maxRecDepth 100000 in
set_option maxHeartbeats 2000000 in
theorem law_walk (w : World) (hz : Tz w) : Calls Tryz.prog 5 #[] w fun e w' => e = .returned (.bool true) ∧ Below w.heap.size w w' := by
  have HO : Hid (Calls Tryz.prog 17 #[.int .i64 1] w fun e W => e = .returned (.tuple #[.pointer (some ⟨w.heap.size + 1, 0, none⟩), .int .i64 0]) ∧ Hid (C.RowAt W 114 23 (w.heap.size + 1) w.heap.size [0] 0 ∧ Keeps (fun _ => False) w W)) :=
    (C.new_yes 1 w (by decide) (by decide)).mono fun e W ⟨h1, h2, h3⟩ => ⟨h1, h2, h3⟩
  have HN : Hid (∀ W1, C.RowAt W1 114 23 (w.heap.size + 1) w.heap.size [0] 0 ∧ Keeps (fun _ => False) w W1 → Calls Tryz.prog 18 #[] W1 fun e W => ∃ ck, e = .returned (.pointer (some ⟨ck, 0, none⟩)) ∧ Hid (∃ cb cc, ShAt W ⟨w.heap.size + 1, w.heap.size, ck, cb, cc⟩ [0] 0 ∧ (∀ q, Sh.own ⟨w.heap.size + 1, w.heap.size, ck, cb, cc⟩ q → w.heap.size ≤ q) ∧ Keeps (fun _ => False) w W)) := fun W1 ⟨r, k0⟩ =>
    (C.new_any W1).mono fun e W ⟨p, b, c, h1, h2, h3, h4, h5, h6⟩ => by
      obtain ⟨q1, q2⟩ := sh_new (w := w) r h2 h3 k0 h4 h5 h6 (by omega) (by omega)
      exact ⟨p, h1, b, c, q1, q2, k0.trans h3⟩
  have hnum := fun n W => num_any n W
  have hne := turn_eq
  go_enter Tryz.func5, Tryz.ntmps5
  go_wp2_with fail
  refine HO.out.mono ?_
  rintro e W1 ⟨rfl, h1⟩
  have HN1 := HN.out W1 h1.out
  clear HO HN h1
  go_wp2_with fail
  refine HN1.mono ?_
  rintro e W2 ⟨ck, rfl, h2⟩
  clear HN1
  obtain ⟨cb, cc, s2, n2, k2⟩ := h2.out
  clear h2
  obtain ⟨R, eR⟩ : ∃ R : Sh, R = ⟨w.heap.size + 1, w.heap.size, ck, cb, cc⟩ := ⟨_, rfl⟩
  rw [← eR] at s2 n2
  have er : w.heap.size + 1 = R.rb := by rw [eR]
  have ec : ck = R.ck := by rw [eR]
  have H1 : Hid (∀ W, Keeps (fun _ => False) W2 W → Calls Tryz.prog 19 #[.pointer none, .pointer (some ⟨ck, 0, none⟩)] W fun e w' => e = .returned (.tuple #[.pointer none, turn0, .int .i64 1]) ∧ w' = W.alloc (.cells zeroT 66)) := fun W _ => begin_not none _ W (fun o => there_norow _ _)
  have H2 : Hid (∀ W, Keeps (fun _ => False) W2 W → Calls Tryz.prog 19 #[.pointer (some ⟨w.heap.size + 1, 0, none⟩), .pointer none] W fun e w' => e = .returned (.tuple #[.pointer none, turn0, .int .i64 1]) ∧ w' = W.alloc (.cells zeroT 66)) := fun W k => begin_not _ none W (fun o => by
    rw [er]
    obtain ⟨l, hl, hc⟩ := sh_row (s2.kept (k.trans (Keeps.al W o)) (fun _ _ f => f))
    exact there_noclock _ _ l l _ hc hl)
  have H3 : Hid (∀ W, Keeps (fun _ => False) W2 W → Calls Tryz.prog 13 #[.agg stI, .pointer none, .pointer (some ⟨ck, 0, none⟩)] W fun e w' => e = .returned (.tuple #[.pointer none, .int .i64 1]) ∧ w' = W.alloc (.cells stI 44)) := fun W _ => from_not none _ W (fun o => there_norow _ _)
  have H4 : Hid (∀ W, Keeps (fun _ => False) W2 W → Calls Tryz.prog 13 #[.agg stI, .pointer (some ⟨w.heap.size + 1, 0, none⟩), .pointer none] W fun e w' => e = .returned (.tuple #[.pointer none, .int .i64 1]) ∧ w' = W.alloc (.cells stI 44)) := fun W k => from_not _ none W (fun o => by
    rw [er]
    obtain ⟨l, hl, hc⟩ := sh_row (s2.kept (k.trans (Keeps.al W o)) (fun _ _ f => f))
    exact there_noclock _ _ l l _ hc hl)
  have H5 : Hid (∀ W, Keeps (fun _ => False) W2 W → Calls Tryz.prog 20 #[.pointer none, .pointer (some ⟨w.heap.size + 1, 0, none⟩), .pointer (some ⟨ck, 0, none⟩)] W fun e w' => e = .returned (.bool true) ∧ Keeps (fun _ => False) W2 w') := fun W k => by
    rw [er, ec]
    exact (nothing_any none R _ _ W (.inl rfl) (s2.kept k (fun _ _ f => f))).mono fun e w' ⟨h1, h2⟩ => ⟨h1, k.trans h2⟩
  have H6 : Hid (∀ W c, Keeps (fun _ => False) W2 W → c[5]? = some (.int .i64 0) → Calls Tryz.prog 20 #[.pointer (some ⟨W.heap.size, 0, none⟩), .pointer (some ⟨w.heap.size + 1, 0, none⟩), .pointer (some ⟨ck, 0, none⟩)] (W.alloc (.cells c 80)) fun e w' => e = .returned (.bool true) ∧ Keeps (fun _ => False) W2 w') := fun W c k hc => by
    rw [er, ec]
    have k' := k.trans (Keeps.al W (.cells c 80))
    exact (nothing_any (some ⟨W.heap.size, 0, none⟩) R _ _ _ (.inr ⟨_, rfl, (cell_of_block (alloc_block W _) 5).trans hc⟩) (s2.kept k' (fun _ _ f => f))).mono fun e w' ⟨h1, h2⟩ => ⟨h1, k'.trans h2⟩
  have H7 : Hid (∀ W, Keeps (fun _ => False) W2 W → Calls Tryz.prog 7 #[] W fun e w' => e = .returned (.bool true) ∧ Below w.heap.size w w') := fun W k => by
    have k' := k2.trans k
    exact (known_any W (hz.keeps k' (fun f => f))).mono fun e w' ⟨h1, h2⟩ => ⟨h1, (k'.trans h2).below w.heap.size (Nat.le_refl _) (fun _ f => f.elim)⟩
  clear s2 n2 k2 hz er ec eR
  unfold turn0 turnV zeroT at H1 H2
  unfold stI at H3 H4
  go_wp2_with fail
  refine (H1.out _ (by repeat (first | exact Keeps.refl _ _ | refine Keeps.alloc ?_ _))).mono ?_
  rintro e w' ⟨rfl, rfl⟩
  clear H1
  go_wp2_with fail
  refine (H2.out _ (by repeat (first | exact Keeps.refl _ _ | refine Keeps.alloc ?_ _))).mono ?_
  rintro e w' ⟨rfl, rfl⟩
  clear H2
  go_wp2_with fail
  refine (H3.out _ (by repeat (first | exact Keeps.refl _ _ | refine Keeps.alloc ?_ _))).mono ?_
  rintro e w' ⟨rfl, rfl⟩
  clear H3
  go_wp2_with fail
  refine (H4.out _ (by repeat (first | exact Keeps.refl _ _ | refine Keeps.alloc ?_ _))).mono ?_
  rintro e w' ⟨rfl, rfl⟩
  clear H4
  go_wp2_with (go_at_call 15; refine (hnum _ _).mono ?_; rintro e w' ⟨rfl, hw'⟩; replace hw' := hw'.symm; subst hw')
  refine (H5.out _ (by repeat (first | exact Keeps.refl _ _ | refine Keeps.alloc ?_ _))).mono ?_
  rintro e w5 ⟨rfl, k5⟩
  clear H5
  have H6' := fun c => H6.out w5 c k5
  clear H6 k5
  have H6'' : Hid (∀ c, _) := H6'
  clear H6'
  go_wp2_with fail
  refine (H6''.out _ (by rfl)).mono ?_
  rintro e w6 ⟨rfl, k6⟩
  clear H6''
  have H7' := H7.out w6 k6
  clear H7 k6
  go_wp2_with fail
  refine H7'.mono ?_
  rintro e w7 ⟨rfl, k7⟩
  clear H7'
  go_wp2_with fail
  go_ret
  exact ⟨rfl, k7⟩


set_option maxRecDepth 100000 in
theorem contract (H : Type) (enc : TypeId × Value → H) (W : World) (args : Array Value) (ds gs : List (DataW H)) (before : List MemPlace)
    (hW : DataW.Whole enc Tryz.prog Tryz.f5.params.toList Rows.attemptNilSpec.vars false W args.toList ds gs before) (hL : laidMetH Tryz.prog Rows.attemptNilRow.laid W) :
    Calls Tryz.prog 5 args W fun e W' => ∃ v, e = .returned v ∧ Rows.attemptNilSpec.post enc Tryz.prog Tryz.f5 false true false false W args v W' := by
  have hW' := hW
  obtain ⟨p, q, hA0, hV, rfl, hfz, hnd⟩ := hW
  have hA : DataW.TrodAll enc Tryz.prog W 0 (fun _ => true) true Tryz.f5.params.toList args.toList ds p := hA0
  rw [Tryz.params5] at hA
  obtain ⟨hargs, rfl, rfl⟩ := trodAll_nil hA
  obtain rfl : args = #[] := by cases args; simp_all
  obtain ⟨rfl, rfl⟩ := trodVars_none hV
  clear hA0
  simp only [List.append_nil] at hW'
  refine (law_walk W (tz_of hL)).mono fun e W' ⟨he, hg⟩ => ?_
  subst he
  exact ⟨_, rfl, _, _, _, [], _, [], hW', trodAll_mk1 (shut_bool Tryz.underlying4 _), trodAll_mk0, rfl, hg.frame _, fun h => by cases h⟩

theorem laid_met (os : Os) : laidMet Tryz.prog Rows.attemptNilRow.laid ((laidWorld os).forCall (fun _ _ => 0) ⟨#[], #[], []⟩).memory :=
  laidMet_of_run' 8 (by kernel_rfl) (by kernel_rfl)
theorem reads (os : Os) {H : Type} (enc : TypeId × Value → H) : ∃ places, DataW.whole enc Tryz.prog ((laidWorld os).forCall (fun _ _ => 0) ⟨#[], #[], []⟩).memory Tryz.f5.params.toList Rows.attemptNilSpec.vars false (#[] : Array Value).toList 8 = some ([], [], places) :=
  ⟨[], by kernel_rfl⟩

set_option maxRecDepth 100000 in
theorem lifted (os : Os) (started : os.Started) (H : Type) (enc : TypeId × Value → H) (F : Stop.Interp) :
    ReturnsInHanded {} Tryz.checked os 5 .any ((OpenSpec.ofChange Rows.attemptNilSpec).preRow enc Tryz.prog Tryz.f5 Rows.attemptNilRow.domain false Rows.attemptNilRow.laid) (((OpenSpec.ofChange Rows.attemptNilSpec).at F).post enc Tryz.prog Tryz.f5 false true false false) := by
  obtain ⟨places, hx⟩ := reads os enc
  refine returnsInHanded_of_row (C := Tryz.checked) (s := OpenSpec.ofChange Rows.attemptNilSpec) own started (by kernel_rfl) Tryz.func5
    (witness_row_at (enc := enc) (C := Tryz.checked) false (laidWorld os) #[] rfl (by kernel_rfl) (by kernel_rfl) (by kernel_rfl)
      (OpenSpec.preRow_of_cond 8 hx (by kernel_rfl) (fun k hk => by cases hk) (by kernel_rfl) (laid_met os))) ?_
  intro W base args ds gs before hval hW _ _ _ hL _ _
  exact contract H enc W args ds gs before hW hL

theorem said : Rows.AttemptNilSaid :=
  OpenClaim.holds_of_cond 5 Tryz.f5 rfl rfl rfl rfl rfl rfl rfl ⟨rfl, rfl, rfl, rfl, rfl⟩ rfl rfl rfl rfl rfl (by kernel_rfl) Tryz.func5 (by kernel_rfl)
    (of_decide_eq_true (by kernel_rfl)) (by unfold Func.isWrapper; first | (rw [if_pos (by decide +kernel)]; kernel_rfl) | (rw [if_neg (by decide +kernel)]; exact ⟨rfl, rfl⟩))
    (fun os started H enc _ F => by rw [OpenClaim.pre_eq_preRow]; exact lifted os started H enc F)

theorem plain (f : FuncId) (fn : Func) (hf : Tryz.pinned.checked.prog.funcNamed "parley/parleylaw07.AttemptNil" = some f) (hfn : Tryz.pinned.checked.prog.funcs[f]? = some fn) :
    false = Tryz.pinned.checked.prog.looks [] ∧ ∀ (j : Nat) t, fn.params[j]? = some t → Tryz.pinned.checked.prog.wantsStandIn t = false := by
  obtain rfl : f = 5 := Option.some.inj ((show Tryz.prog.funcNamed "parley/parleylaw07.AttemptNil" = some 5 by kernel_rfl).symm.trans hf) |>.symm
  obtain rfl : fn = Tryz.f5 := (Option.some.inj (Tryz.func5.symm.trans hfn)).symm
  refine ⟨by kernel_rfl, fun j t ht => ?_⟩
  rw [Tryz.params5] at ht
  simp at ht

theorem card : Rows.AttemptNilCardSaid :=
  Claim7.holds_tied_plain_at .later [] _ _ _ _ said (fun _ h => by cases h) (by kernel_rfl) (fun _ h => by cases h) attemptNil_row_tie rfl ⟨rfl, rfl⟩ (by kernel_rfl) rfl plain (by kernel_rfl)
end Go.Proofs.YtmhinalgjfiliaaGreatDoor.attemptNil

namespace Go.Proofs.YtmhinalgjfiliaaGreatDoor
theorem attemptNil_holds : Rows.AttemptNilCardSaid := attemptNil.card
end Go.Proofs.YtmhinalgjfiliaaGreatDoor
