/-
  The walk of the law's 'goes' at tables that are not there. No statement of the seat is proved here.
-/
import Derived.Test.YtbhocajmcfdffaaDoorGoesD
namespace Go.Proofs.YtbhocajmcfdffaaDoor
open Go.RowKit Go.Shelf
attribute [local go_sem] Oper.semAt_some

structure SevN (N : Nat) (leave k : Int) (btn bn : Nat) (X : World) : Prop where
  r : X.heap[N]? = some (.cells #[.pointer none] 27 (0, 0))
  leave : X.heap[N + 1]? = some (.cells #[.int .i64 leave] 3 (0, 0))
  res : X.heap[N + 1 + 1]? = some (.cells #[.bool false] 4 (0, 0))
  t : X.heap[N + 1 + 1 + 1]? = some (.cells #[.pointer none] 23 (0, 0))
  want : X.heap[N + 1 + 1 + 1 + 1]? = some (.cells #[.slice none 0 0] 37 (0, 0))
  turn : X.heap[btn]? = some (.cells #[.int .i64 k] 3 (0, 0))
  n : X.heap[bn]? = some (.cells #[.int .i64 0] 3 (0, 0))
theorem SevN.own {N : Nat} {leave k : Int} {btn bn : Nat} {A B : World} {row : Option Nat} (h : SevN N leave k btn bn A) (hg : A.grownBy B row) (hr : ∀ r, row = some r → ∃ o : Obj, A.heap[r]? = some o ∧ o.isCells = false) : SevN N leave k btn bn B :=
  ⟨block_kept h.r hg hr, block_kept h.leave hg hr, block_kept h.res hg hr, block_kept h.t hg hr, block_kept h.want hg hr, block_kept h.turn hg hr, block_kept h.n hg hr⟩

set_option maxRecDepth 100000 in
set_option maxHeartbeats 4000000 in
theorem goes_nil (W : World) (leave : Int) :
    Calls Tryd.prog 54 #[.pointer none, .pointer none, .int .i64 leave] W fun e W' => e = .returned (.bool true) ∧ Below W.heap.size W W' := by
  have hnf := func_not_nilU
  have hlv : (decide (0 < leave) = true ∧ decide (leave ≤ 0) = false ∧ ¬ leave ≤ 0) ∨ (decide (0 < leave) = false ∧ decide (leave ≤ 0) = true ∧ leave ≤ 0) := by
    by_cases h : 0 < leave
    · exact .inl ⟨by simpa using h, by simpa using h, by omega⟩
    · exact .inr ⟨by simpa using h, by simp; omega, by omega⟩
  refine (callsIn_wide (n := 5)).1 ?_
  refine callsIn_of_wp_marks Tryd.func54 rfl trivial ?_ rfl
  simp only [Tryd.ntmps54, List.size_toArray, List.length_cons, List.length_nil, Nat.reduceAdd, Nat.reduceSub, Array.replicate_succ, Array.replicate_zero, List.push_toArray, List.append_toArray, List.nil_append, List.cons_append]
  gi_wp2_with (first
    | (refine ⟨trivial, ?_⟩; gi_at_call 19; refine (callsIn_wide.2 (U.all_any _ _)).mono ?_; rintro e w' ⟨rfl, rfl⟩)
    | (refine ⟨trivial, ?_⟩; gi_at_call 58; refine (callsIn_wide.2 (R.keys_nil _)).mono ?_; rintro e w' ⟨rfl, rfl⟩))
  refine wpIn_loop_rounds 3 ?_
  rw [roundsIn_succ]
  gi_wp2
  have e0 := alloc_old (alloc_old (alloc_old (alloc_old (alloc_old (alloc_old (alloc_block W (.cells #[.pointer none] 27)) (.cells #[.int .i64 leave] 3)) (.cells #[.bool false] 4)) (.cells #[.pointer none] 23)) (.cells #[.slice none 0 0] 37)) (.cells #[.int .i64 0] 3)) (.cells #[.int .i64 0] 3)
  have e1 := alloc_old (alloc_old (alloc_old (alloc_old (alloc_old (alloc_block (W.alloc (.cells #[.pointer none] 27)) (.cells #[.int .i64 leave] 3)) (.cells #[.bool false] 4)) (.cells #[.pointer none] 23)) (.cells #[.slice none 0 0] 37)) (.cells #[.int .i64 0] 3)) (.cells #[.int .i64 0] 3)
  have e2 := alloc_old (alloc_old (alloc_old (alloc_old (alloc_block ((W.alloc (.cells #[.pointer none] 27)).alloc (.cells #[.int .i64 leave] 3)) (.cells #[.bool false] 4)) (.cells #[.pointer none] 23)) (.cells #[.slice none 0 0] 37)) (.cells #[.int .i64 0] 3)) (.cells #[.int .i64 0] 3)
  have e3 := alloc_old (alloc_old (alloc_old (alloc_block (((W.alloc (.cells #[.pointer none] 27)).alloc (.cells #[.int .i64 leave] 3)).alloc (.cells #[.bool false] 4)) (.cells #[.pointer none] 23)) (.cells #[.slice none 0 0] 37)) (.cells #[.int .i64 0] 3)) (.cells #[.int .i64 0] 3)
  have e4 := alloc_old (alloc_old (alloc_block ((((W.alloc (.cells #[.pointer none] 27)).alloc (.cells #[.int .i64 leave] 3)).alloc (.cells #[.bool false] 4)).alloc (.cells #[.pointer none] 23)) (.cells #[.slice none 0 0] 37)) (.cells #[.int .i64 0] 3)) (.cells #[.int .i64 0] 3)
  have e5 := alloc_old (alloc_block (((((W.alloc (.cells #[.pointer none] 27)).alloc (.cells #[.int .i64 leave] 3)).alloc (.cells #[.bool false] 4)).alloc (.cells #[.pointer none] 23)).alloc (.cells #[.slice none 0 0] 37)) (.cells #[.int .i64 0] 3)) (.cells #[.int .i64 0] 3)
  have e6 := alloc_block ((((((W.alloc (.cells #[.pointer none] 27)).alloc (.cells #[.int .i64 leave] 3)).alloc (.cells #[.bool false] 4)).alloc (.cells #[.pointer none] 23)).alloc (.cells #[.slice none 0 0] 37)).alloc (.cells #[.int .i64 0] 3)) (.cells #[.int .i64 0] 3)
  have hz2 : (((((((W.alloc (.cells #[.pointer none] 27)).alloc (.cells #[.int .i64 leave] 3)).alloc (.cells #[.bool false] 4)).alloc (.cells #[.pointer none] 23)).alloc (.cells #[.slice none 0 0] 37)).alloc (.cells #[.int .i64 0] 3)).alloc (.cells #[.int .i64 0] 3)).heap.size = W.heap.size + 7 := by simp
  have hb2 : Below W.heap.size W (((((((W.alloc (.cells #[.pointer none] 27)).alloc (.cells #[.int .i64 leave] 3)).alloc (.cells #[.bool false] 4)).alloc (.cells #[.pointer none] 23)).alloc (.cells #[.slice none 0 0] 37)).alloc (.cells #[.int .i64 0] 3)).alloc (.cells #[.int .i64 0] 3)) :=
    ((((((((Below.refl _ W).alloc (Nat.le_refl _) _).alloc (by simp) _).alloc (by simp; omega) _).alloc (by simp; omega) _).alloc (by simp; omega) _).alloc (by simp; omega) _).alloc (by simp; omega) _)
  simp only [World.size_alloc] at e1 e2 e3 e4 e5 e6
  generalize (((((((W.alloc (.cells #[.pointer none] 27)).alloc (.cells #[.int .i64 leave] 3)).alloc (.cells #[.bool false] 4)).alloc (.cells #[.pointer none] 23)).alloc (.cells #[.slice none 0 0] 37)).alloc (.cells #[.int .i64 0] 3)).alloc (.cells #[.int .i64 0] 3)) = W2 at e0 e1 e2 e3 e4 e5 e6 hz2 hb2 ⊢
  refine wpIn_rangeFunc_ownH rfl (by omega) (gf := 61) (lb := #[.pointer (some ⟨W.heap.size + 1 + 1 + 1, 0, none⟩)]) rfl trivial (enters_of Tryd.func61 (by kernel_rfl) rfl)
    (U.all_no (5 - 1) (by omega) (W.heap.size + 1 + 1 + 1) none W2 (cell_of_block e3 0) (.inl rfl))
    (fun _ _ => trivial) (fun _ _ _ _ _ _ _ _ => trivial) (Below.refl _ _) (fun _ => rfl)
    (fun (_ : List (Int × Int)) Zw => SevN W.heap.size leave 0 (W.heap.size + 1 + 1 + 1 + 1 + 1) (W.heap.size + 1 + 1 + 1 + 1 + 1 + 1) Zw ∧ Below W.heap.size W Zw)
    (fun _ _ _ => False)
    (OwnFrom.and (Go.Own.from (fun _ _ _ _ hs hg hr => hs.own hg hr) _) (ownFrom_below (Nat.le_refl _) (by omega)))
    (fun _ _ _ _ _ hs _ _ => hs)
    ⟨⟨e0, e1, e2, e3, e4, e5, e6⟩, hb2⟩ (fun _ _ _ => True) (fun _ _ _ _ _ _ _ _ _ => trivial) ?assign ?body ?done ?stop
  case assign =>
    rintro l pre x W K hi hK
    gi_wp2
    exact hK _ _ (KeepsFrom.refl _ _) trivial hi trivial
  case body =>
    rintro l pre x a' W _ _ _ _ hlen
    simp at hlen
  case stop =>
    rintro D c pre W _ _ h _
    exact h.elim
  case done =>
    rintro D ys X hD _ ⟨hS, hB⟩ hK
    have x1 : X.cell? ⟨_, 0, none⟩ = some _ := cell_of_block hS.leave 0
    have x4 : X.cell? ⟨_, 0, none⟩ = some _ := cell_of_block hS.turn 0
    have x5 : X.cell? ⟨_, 0, none⟩ = some _ := cell_of_block hS.n 0
    have x6 : X.cell? ⟨_, 0, none⟩ = some _ := cell_of_block hS.want 0
    have hDl := lt_of_block hK
    have HD : Hid (W.heap.size + 7 ≤ D) := by unfold Hid; omega
    clear hz2 hD e0 e1 e2 e3 e4 e5 e6 hb2
    have e0 := alloc_old (alloc_old hS.r (.cells #[.int .i64 1] 3)) (.cells #[.int .i64 0] 3)
    have e1 := alloc_old (alloc_old hS.leave (.cells #[.int .i64 1] 3)) (.cells #[.int .i64 0] 3)
    have e2 := alloc_old (alloc_old hS.res (.cells #[.int .i64 1] 3)) (.cells #[.int .i64 0] 3)
    have e3 := alloc_old (alloc_old hS.t (.cells #[.int .i64 1] 3)) (.cells #[.int .i64 0] 3)
    have e4 := alloc_old (alloc_old hS.want (.cells #[.int .i64 1] 3)) (.cells #[.int .i64 0] 3)
    have e5 := alloc_old (alloc_block X (.cells #[.int .i64 1] 3)) (.cells #[.int .i64 0] 3)
    have e6 := alloc_block (X.alloc (.cells #[.int .i64 1] 3)) (.cells #[.int .i64 0] 3)
    have eD := alloc_old (alloc_old hK (.cells #[.int .i64 1] 3)) (.cells #[.int .i64 0] 3)
    have hz4 : ((X.alloc (.cells #[.int .i64 1] 3)).alloc (.cells #[.int .i64 0] 3)).heap.size = X.heap.size + 2 := by simp
    have hsz := hB.size
    have hb4 : Below W.heap.size W ((X.alloc (.cells #[.int .i64 1] 3)).alloc (.cells #[.int .i64 0] 3)) := (hB.alloc (by omega) _).alloc (by simp; omega) _
    simp only [World.size_alloc] at e6
    have HDX : Hid (D < X.heap.size) := hDl
    obtain ⟨W4, hW4⟩ : ∃ W4, W4 = (X.alloc (.cells #[.int .i64 1] 3)).alloc (.cells #[.int .i64 0] 3) := ⟨_, rfl⟩
    rw [← hW4] at e0 e1 e2 e3 e4 e5 e6 eD hz4 hb4
    have HW : Hid (W4 = (X.alloc (.cells #[.int .i64 1] 3)).alloc (.cells #[.int .i64 0] 3)) := hW4
    clear hW4 hS hB hK
    rcases hlv with ⟨l1, l2, l3⟩ | ⟨l1, l2, l3⟩
    · gi_wp2
      rw [roundsIn_succ]
      gi_wp2
      rw [← HW.out]
      refine wpIn_rangeFunc_ownH rfl (by omega) (gf := 61) (lb := #[.pointer (some ⟨W.heap.size + 1 + 1 + 1, 0, none⟩)]) rfl trivial (enters_of Tryd.func61 (by kernel_rfl) rfl)
        (U.all_no (5 - 1) (by omega) (W.heap.size + 1 + 1 + 1) none W4 (cell_of_block e3 0) (.inl rfl))
        (fun _ _ => trivial) (fun _ _ _ _ _ _ _ _ => trivial) (Below.refl _ _) (fun _ => rfl)
        (fun (_ : List (Int × Int)) Zw => (SevN W.heap.size leave 1 X.heap.size (X.heap.size + 1) Zw ∧ Below W.heap.size W Zw) ∧ Zw.heap[D]? = some (.deferred (some [])))
        (fun _ _ _ => False)
        (OwnFrom.and (OwnFrom.and (Go.Own.from (fun _ _ _ _ hs hg hr => hs.own hg hr) _) (ownFrom_below (Nat.le_refl _) (by omega))) (fun _ A B row hs hg hr => (hg.block D (lt_of_block hs) (fun e => by have := (hr D e.symm).1; have := HDX.out; omega)).trans hs))
        (fun _ _ _ _ _ hs _ _ => hs)
        ⟨⟨⟨e0, e1, e2, e3, e4, e5, e6⟩, hb4⟩, eD⟩ (fun _ _ _ => True) (fun _ _ _ _ _ _ _ _ _ => trivial) ?assign2 ?body2 ?done2 ?stop2
      case assign2 =>
        rintro l pre x W K hi hK
        gi_wp2
        exact hK _ _ (KeepsFrom.refl _ _) trivial hi trivial
      case body2 =>
        rintro l pre x a' W _ _ _ _ hlen
        simp at hlen
      case stop2 =>
        rintro D c pre W _ _ h _
        exact h.elim
      case done2 =>
        rintro D' ys Y hD' _ ⟨⟨hS, hB⟩, hKD⟩ hK
        have x1 : Y.cell? ⟨_, 0, none⟩ = some _ := cell_of_block hS.leave 0
        have x4 : Y.cell? ⟨_, 0, none⟩ = some _ := cell_of_block hS.turn 0
        have x5 : Y.cell? ⟨_, 0, none⟩ = some _ := cell_of_block hS.n 0
        have x6 : Y.cell? ⟨_, 0, none⟩ = some _ := cell_of_block hS.want 0
        have HD' : Hid (X.heap.size + 2 ≤ D') := by unfold Hid; omega
        have c2 := alloc_old hS.res (.cells #[.int .i64 2] 3)
        have x2 : (Y.alloc (.cells #[.int .i64 2] 3)).cell? ⟨_, 0, none⟩ = some _ := cell_of_block c2 0
        have y2 := frozen_of_block c2 0
        have hb6 := (hB.alloc hB.size (.cells #[.int .i64 2] 3)).setCell (p := ⟨W.heap.size + 1 + 1, 0, none⟩) (by simp; omega) (.bool true)
        have k5 := (KeepsOthers.setCell (Y.alloc (.cells #[.int .i64 2] 3)) ⟨W.heap.size + 1 + 1, 0, none⟩ (.bool true)).same D' _ (alloc_old hK _) rfl
        have k6 := (KeepsOthers.setCell (Y.alloc (.cells #[.int .i64 2] 3)) ⟨W.heap.size + 1 + 1, 0, none⟩ (.bool true)).same D _ (alloc_old hKD _) rfl
        have r6 := block_set c2 0 (.bool true)
        clear hz4 hD'
        gi_wp2
        rw [roundsIn_succ]
        gi_wp2
        have hDD : D ≠ D' := by have := HD'.out; have := HDX.out; omega
        have k7 := (World.putObj_heap_other (w := (Y.alloc (.cells #[.int .i64 2] 3)).setCell ⟨W.heap.size + 1 + 1, 0, none⟩ (.bool true)) (o := .deferred none) hDD).trans k6
        have r7 := block_kept r6 (grownBy_putObj' _ D' (.deferred none)) (fun r e => by cases e; exact ⟨_, k5, rfl⟩)
        have r8 := block_kept r7 (grownBy_putObj' _ D (.deferred none)) (fun r e => by cases e; exact ⟨_, k7, rfl⟩)
        have r9 := cell_of_block r8 0
        refine ⟨by simp, .inl ⟨_, _, rfl, run_takeDeferred k5, ?_⟩⟩
        refine ⟨by simp, .inl ⟨_, _, rfl, run_takeDeferred k7, ?_⟩⟩
        refine ⟨.bool true, ?_, rfl, (hb6.trans (belowK_b (w := W) (Nat.le_refl _) _ D' _ _ (by have := HD'.out; omega) k5 rfl rfl)).trans (belowK_b (w := W) (Nat.le_refl _) _ D _ _ (by have := HD.out; omega) k7 rfl rfl)⟩
        simp [results, Tryd.f54, go_sem, r9]
    · gi_wp2
      rw [roundsIn_succ]
      gi_wp2
      rw [← HW.out]
      refine wpIn_rangeFunc_ownH rfl (by omega) (gf := 61) (lb := #[.pointer (some ⟨W.heap.size + 1 + 1 + 1, 0, none⟩)]) rfl trivial (enters_of Tryd.func61 (by kernel_rfl) rfl)
        (U.all_no (5 - 1) (by omega) (W.heap.size + 1 + 1 + 1) none W4 (cell_of_block e3 0) (.inl rfl))
        (fun _ _ => trivial) (fun _ _ _ _ _ _ _ _ => trivial) (Below.refl _ _) (fun _ => rfl)
        (fun (_ : List (Int × Int)) Zw => (SevN W.heap.size leave 1 X.heap.size (X.heap.size + 1) Zw ∧ Below W.heap.size W Zw) ∧ Zw.heap[D]? = some (.deferred (some [])))
        (fun _ _ _ => False)
        (OwnFrom.and (OwnFrom.and (Go.Own.from (fun _ _ _ _ hs hg hr => hs.own hg hr) _) (ownFrom_below (Nat.le_refl _) (by omega))) (fun _ A B row hs hg hr => (hg.block D (lt_of_block hs) (fun e => by have := (hr D e.symm).1; have := HDX.out; omega)).trans hs))
        (fun _ _ _ _ _ hs _ _ => hs)
        ⟨⟨⟨e0, e1, e2, e3, e4, e5, e6⟩, hb4⟩, eD⟩ (fun _ _ _ => True) (fun _ _ _ _ _ _ _ _ _ => trivial) ?assign2 ?body2 ?done2 ?stop2
      case assign2 =>
        rintro l pre x W K hi hK
        gi_wp2
        exact hK _ _ (KeepsFrom.refl _ _) trivial hi trivial
      case body2 =>
        rintro l pre x a' W _ _ _ _ hlen
        simp at hlen
      case stop2 =>
        rintro D c pre W _ _ h _
        exact h.elim
      case done2 =>
        rintro D' ys Y hD' _ ⟨⟨hS, hB⟩, hKD⟩ hK
        have x1 : Y.cell? ⟨_, 0, none⟩ = some _ := cell_of_block hS.leave 0
        have x4 : Y.cell? ⟨_, 0, none⟩ = some _ := cell_of_block hS.turn 0
        have x5 : Y.cell? ⟨_, 0, none⟩ = some _ := cell_of_block hS.n 0
        have x6 : Y.cell? ⟨_, 0, none⟩ = some _ := cell_of_block hS.want 0
        have HD' : Hid (X.heap.size + 2 ≤ D') := by unfold Hid; omega
        have c2 := alloc_old hS.res (.cells #[.int .i64 2] 3)
        have x2 : (Y.alloc (.cells #[.int .i64 2] 3)).cell? ⟨_, 0, none⟩ = some _ := cell_of_block c2 0
        have y2 := frozen_of_block c2 0
        have hb6 := (hB.alloc hB.size (.cells #[.int .i64 2] 3)).setCell (p := ⟨W.heap.size + 1 + 1, 0, none⟩) (by simp; omega) (.bool true)
        have k5 := (KeepsOthers.setCell (Y.alloc (.cells #[.int .i64 2] 3)) ⟨W.heap.size + 1 + 1, 0, none⟩ (.bool true)).same D' _ (alloc_old hK _) rfl
        have k6 := (KeepsOthers.setCell (Y.alloc (.cells #[.int .i64 2] 3)) ⟨W.heap.size + 1 + 1, 0, none⟩ (.bool true)).same D _ (alloc_old hKD _) rfl
        have r6 := block_set c2 0 (.bool true)
        clear hz4 hD'
        gi_wp2
        rw [roundsIn_succ]
        gi_wp2
        have hDD : D ≠ D' := by have := HD'.out; have := HDX.out; omega
        have k7 := (World.putObj_heap_other (w := (Y.alloc (.cells #[.int .i64 2] 3)).setCell ⟨W.heap.size + 1 + 1, 0, none⟩ (.bool true)) (o := .deferred none) hDD).trans k6
        have r7 := block_kept r6 (grownBy_putObj' _ D' (.deferred none)) (fun r e => by cases e; exact ⟨_, k5, rfl⟩)
        have r8 := block_kept r7 (grownBy_putObj' _ D (.deferred none)) (fun r e => by cases e; exact ⟨_, k7, rfl⟩)
        have r9 := cell_of_block r8 0
        refine ⟨by simp, .inl ⟨_, _, rfl, run_takeDeferred k5, ?_⟩⟩
        refine ⟨by simp, .inl ⟨_, _, rfl, run_takeDeferred k7, ?_⟩⟩
        refine ⟨.bool true, ?_, rfl, (hb6.trans (belowK_b (w := W) (Nat.le_refl _) _ D' _ _ (by have := HD'.out; omega) k5 rfl rfl)).trans (belowK_b (w := W) (Nat.le_refl _) _ D _ _ (by have := HD.out; omega) k7 rfl rfl)⟩
        simp [results, Tryd.f54, go_sem, r9]

end Go.Proofs.YtbhocajmcfdffaaDoor
