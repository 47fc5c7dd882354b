/-
  The walk of the law's 'nothing': at a table that is not there, or a zero one, it returns true. No statement of the seat is proved here.
-/
import Derived.Test.YtbhocajmcfdffaaDoorAllNoI
import Derived.Test.YtbhocajmcfdffaaDoorKnown
namespace Go.Proofs.YtbhocajmcfdffaaDoor
open Go.RowKit Go.Shelf
attribute [local go_sem] Oper.semAt_some

theorem func_not_nilI (x : Addr) (w : World) : (binOp BinOp.eql 119 (.func (.func 97) #[] #[.pointer (some x)]) .nilFunc).run Tryd.prog w = .ok (.bool false) w := by kernel_rfl

set_option maxRecDepth 100000 in
set_option maxHeartbeats 1000000 in
theorem nothing_any (p : Option Addr) (w : World) (hp : I.NoTab w p) : Calls Tryd.prog 41 #[.pointer p] w fun e w' => e = .returned (.bool true) ∧ Below w.heap.size w w' := by
  have hb1 : Below w.heap.size w (w.alloc (.cells #[.bool false] 4)) := (Below.refl _ w).alloc (Nat.le_refl _) _
  have h1 := hp.below hb1
  have hnf := func_not_nilI
  refine (callsIn_wide (n := 6)).1 ?_
  refine callsIn_of_wp_marks Tryd.func41 rfl trivial ?_ rfl
  simp only [Tryd.ntmps41, List.size_toArray, List.length_cons, List.length_nil, Nat.reduceAdd, Nat.reduceSub, Array.replicate_succ, Array.replicate_zero, List.push_toArray, List.append_toArray, List.nil_append, List.cons_append]
  gi_wp2_with (first
    | (refine ⟨trivial, ?_⟩; gi_at_call 24; refine (callsIn_wide.2 (I.put_no p _ _ _ h1)).mono ?_; rintro e w' ⟨rfl, rfl⟩)
    | (refine ⟨trivial, ?_⟩; gi_at_call 26; refine (callsIn_wide.2 (I.get_no p _ _ h1)).mono ?_; rintro e w' ⟨rfl, rfl⟩)
    | (refine ⟨trivial, ?_⟩; gi_at_call 27; refine (callsIn_wide.2 (I.take_no p _ _ h1)).mono ?_; rintro e w' ⟨rfl, rfl⟩)
    | (refine ⟨trivial, ?_⟩; gi_at_call 79; refine (callsIn_wide.2 (I.clear_no p _ h1)).mono ?_; rintro e w' ⟨⟨v, rfl⟩, rfl⟩)
    | (refine ⟨trivial, ?_⟩; gi_at_call 80; refine (callsIn_wide.2 (I.all_any p _)).mono ?_; rintro e w' ⟨rfl, rfl⟩))
  have hb2 : Below w.heap.size w ((w.alloc (.cells #[.bool false] 4)).alloc (.cells #[.pointer p] 50)) := hb1.alloc (by simp) _
  have c0 := alloc_old (alloc_block w (.cells #[.bool false] 4)) (.cells #[.pointer p] 50)
  have c1 := alloc_block (w.alloc (.cells #[.bool false] 4)) (.cells #[.pointer p] 50)
  rw [World.size_alloc] at c1
  have hz2 : ((w.alloc (.cells #[.bool false] 4)).alloc (.cells #[.pointer p] 50)).heap.size = w.heap.size + 2 := by simp
  generalize (w.alloc (.cells #[.bool false] 4)).alloc (.cells #[.pointer p] 50) = W2 at hb2 c1 c0 hz2 ⊢
  clear hb1 h1
  refine wpIn_rangeFunc_ownH rfl (by omega) (gf := 97) (lb := #[.pointer (some ⟨w.heap.size + 1, 0, none⟩)]) rfl trivial (enters_of Tryd.func97 (by kernel_rfl) rfl)
    (I.all_no (6 - 1) (by omega) (w.heap.size + 1) p W2 (cell_of_block c1 0) (hp.below hb2))
    (fun _ _ => trivial) (fun _ _ _ _ _ _ _ _ => trivial) (Below.refl _ _) (fun _ => rfl)
    (fun _ W => W.heap[w.heap.size]? = some (.cells #[.bool false] 4 (0, 0)) ∧ Below w.heap.size w W)
    (fun _ _ _ => False)
    (OwnFrom.and (Go.Own.from (fun s A B row hs hg hr => block_kept hs hg hr) _) (ownFrom_below (Nat.le_refl _) (by omega)))
    (fun _ _ _ _ _ hs _ _ => hs)
    ⟨c0, hb2⟩ (fun _ _ _ => True) (fun _ _ _ _ _ _ _ _ _ => trivial) ?assign ?body ?done ?stop
  case assign =>
    rintro l pre x W K hi hK
    gi_wp2
    exact hK _ _ (KeepsFrom.refl _ _) trivial hi trivial
  case body =>
    rintro l pre x a' W _ _ _ _ hlen
    simp at hlen
  case stop =>
    rintro D c pre W _ _ h _
    exact h.elim
  case done =>
    rintro D ys W hD _ ⟨hc, hB⟩ hK
    have h1 := hp.below hB
    gi_wp2_with (first
      | (refine ⟨trivial, ?_⟩; gi_at_call 40; refine (callsIn_wide.2 (num_any _ _)).mono ?_; rintro e w' ⟨rfl, rfl⟩)
      | (refine ⟨trivial, ?_⟩; gi_at_call 30; refine (callsIn_wide.2 (I.len_no p _ h1)).mono ?_; rintro e w' ⟨rfl, rfl⟩)
      | (refine ⟨trivial, ?_⟩; gi_at_call 32; refine (callsIn_wide.2 (I.slots_no p _ h1)).mono ?_; rintro e w' ⟨rfl, rfl⟩)
      | (refine ⟨trivial, ?_⟩; gi_at_call 29; refine (callsIn_wide.2 (I.asked_no p _ _ h1)).mono ?_; rintro e w' ⟨rfl, rfl⟩)
      | (refine ⟨trivial, ?_⟩; gi_at_call 36; refine (callsIn_wide.2 (I.keys_no p _ h1)).mono ?_; rintro e w' ⟨rfl, rfl⟩))
    refine ⟨trivial, ?_⟩
    refine (callsIn_wide.2 (I.copy_no p _ h1)).mono ?_
    rintro e w' ⟨rfl, hB3⟩
    have hc3 : w'.heap[w.heap.size]? = some (.cells #[.bool false] 4 (0, 0)) := (hB3.block _ (lt_of_block hc)).trans hc
    have hK3 : w'.heap[D]? = some (.deferred (some [])) := (hB3.block _ (lt_of_block hK)).trans hK
    have hBB := hB.trans (hB3.mono hB.size)
    have hcell : w'.cell? ⟨w.heap.size, 0, none⟩ = some (.bool false) := cell_of_block hc3 0
    have hfro := frozen_of_block hc3 0
    have hK1 := (KeepsOthers.setCell w' ⟨w.heap.size, 0, none⟩ (.bool true)).same D _ hK3 rfl
    have hr := block_kept (block_set hc3 0 (.bool true)) (grownBy_putObj' _ D (.deferred none)) (fun r e => by cases e; exact ⟨_, hK1, rfl⟩)
    have hr' := cell_of_block hr 0
    gi_wp2
    refine ⟨by simp, .inl ⟨_, _, rfl, run_takeDeferred hK1, ?_⟩⟩
    refine ⟨.bool true, ?_, rfl, (hBB.setCell (p := ⟨w.heap.size, 0, none⟩) (Nat.le_refl _) _).trans (belowK_b (w := w) (Nat.le_refl _) _ D _ _ (by omega) hK1 rfl rfl)⟩
    simp [results, Tryd.f41, go_sem, hr']
end Go.Proofs.YtbhocajmcfdffaaDoor
