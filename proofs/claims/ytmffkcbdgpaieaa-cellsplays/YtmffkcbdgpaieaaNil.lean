/-
  The walk of the law's 'nothing': at a row that is not there, or a zero one, it returns true. No statement of the seat is proved here.
-/
import Derived.Test.YtmffkcbdgpaieaaKnown
import Derived.Test.YtmffkcbdgpaieaaIter
import Derived.ProofKit
import Derived.OpenShut
namespace Go.Proofs.Ytmffkcbdgpaieaa
open Go.ChangeShapes Go.WideShapes Go.ChangeAt Go.RowKit Go.Shelf
attribute [local go_sem] Oper.semAt_some

/-- A row that is not there, or a zero one. -/
def ZeroRow (w : World) (p : Option Addr) : Prop := p = none ∨ ∃ b, p = some ⟨b, 0, none⟩ ∧ w.cell? ⟨b, 0, none⟩ = some (.slice none 0 0) ∧ w.cell? ⟨b, 1, none⟩ = some (.int .u64 0)

theorem ZeroRow.no {w : World} {p : Option Addr} (h : ZeroRow w p) : NoRow w p := by
  rcases h with rfl | ⟨b, rfl, h0, _⟩
  · exact .inl rfl
  · exact .inr ⟨b, rfl, h0⟩
theorem ZeroRow.below {w w' : World} {p : Option Addr} (h : ZeroRow w p) (hb : Below w.heap.size w w') : ZeroRow w' p := by
  rcases h with rfl | ⟨b, rfl, h0, h1⟩
  · exact .inl rfl
  · exact .inr ⟨b, rfl, (hb.cell (p := ⟨b, 0, none⟩) (World.block_lt_of_cell? _ _ h0)).trans h0, (hb.cell (p := ⟨b, 1, none⟩) (World.block_lt_of_cell? _ _ h1)).trans h1⟩
theorem accesses_zero {w : World} {p : Option Addr} (h : ZeroRow w p) : Calls Try.prog 27 #[.pointer p] w fun e w' => e = .returned (.int .u64 0) ∧ w' = w := by
  rcases h with rfl | ⟨b, rfl, h0, h1⟩
  · exact accesses_nil w
  · exact accesses_at b 0 w h1

theorem func_not_nil (x : Addr) (w : World) : (binOp BinOp.eql 51 (.func (.func 52) #[] #[.pointer (some x)]) .nilFunc).run Try.prog w = .ok (.bool false) w := by kernel_rfl

set_option maxRecDepth 100000 in
set_option maxHeartbeats 1000000 in
theorem nothing_any (p : Option Addr) (w : World) (hp : ZeroRow w p) : Calls Try.prog 36 #[.pointer p] w fun e w' => e = .returned (.bool true) ∧ Below w.heap.size w w' := by
  have hb1 : Below w.heap.size w (w.alloc (.cells #[.bool false] 4)) := (Below.refl _ w).alloc (Nat.le_refl _) _
  have h1 := hp.below hb1
  have hnf := func_not_nil
  refine (callsIn_wide (n := 3)).1 ?_
  refine callsIn_of_wp_marks Try.func36 rfl trivial ?_ rfl
  simp only [Try.ntmps36, List.size_toArray, List.length_cons, List.length_nil, Nat.reduceAdd, Nat.reduceSub, Array.replicate_succ, Array.replicate_zero, List.push_toArray, List.append_toArray, List.nil_append, List.cons_append]
  gi_wp2_with (first
    | (refine ⟨trivial, ?_⟩; gi_at_call 29; refine (callsIn_wide.2 (load_none p _ _ h1.no)).mono ?_; rintro e w' ⟨rfl, rfl⟩)
    | (refine ⟨trivial, ?_⟩; gi_at_call 30; refine (callsIn_wide.2 (swap_none p _ _ _ _ h1.no)).mono ?_; rintro e w' ⟨rfl, rfl⟩)
    | (refine ⟨trivial, ?_⟩; gi_at_call 34; refine (callsIn_wide.2 (add_none p _ _ _ h1.no)).mono ?_; rintro e w' ⟨rfl, rfl⟩)
    | (refine ⟨trivial, ?_⟩; gi_at_call 56; refine (callsIn_wide.2 (slice_none p _ _ _ h1.no)).mono ?_; rintro e w' ⟨rfl, rfl⟩)
    | (refine ⟨trivial, ?_⟩; gi_at_call 31; refine (callsIn_wide.2 (differ_none1 p _ _ h1.no)).mono ?_; rintro e w' ⟨rfl, rfl⟩)
    | (refine ⟨trivial, ?_⟩; gi_at_call 22; refine (callsIn_wide.2 (all_any p _)).mono ?_; rintro e w' ⟨rfl, rfl⟩))
  have hb2 : Below w.heap.size w ((w.alloc (.cells #[.bool false] 4)).alloc (.cells #[.pointer p] 25)) := hb1.alloc (by simp) _
  have c0 := alloc_old (alloc_block w (.cells #[.bool false] 4)) (.cells #[.pointer p] 25)
  have c1 := alloc_block (w.alloc (.cells #[.bool false] 4)) (.cells #[.pointer p] 25)
  rw [World.size_alloc] at c1
  have hro : RowOr ((w.alloc (.cells #[.bool false] 4)).alloc (.cells #[.pointer p] 25)) p [] := .inl ⟨(hp.below hb2).no, rfl⟩
  have hz2 : ((w.alloc (.cells #[.bool false] 4)).alloc (.cells #[.pointer p] 25)).heap.size = w.heap.size + 2 := by simp
  generalize (w.alloc (.cells #[.bool false] 4)).alloc (.cells #[.pointer p] 25) = W2 at hb2 c1 hro c0 hz2 ⊢
  clear hb1 h1
  refine wpIn_rangeFunc_ownH rfl (by omega) (gf := 52) (lb := #[.pointer (some ⟨w.heap.size + 1, 0, none⟩)]) rfl trivial (enters_of Try.func52 (by kernel_rfl) rfl)
    (all_stops (3 - 1) (by omega) (w.heap.size + 1) W2.heap.size p [] W2 (Nat.le_refl _) (cell_of_block c1 0) hro)
    (fun h k => h.trans k) (fun W l o o' _ hl ho _ => Above.putObj W l o o' hl ho) (Below.refl _ _) (fun _ => rfl)
    (fun _ W => W.heap[w.heap.size]? = some (.cells #[.bool false] 4 (0, 0)) ∧ Below w.heap.size w W)
    (fun _ _ _ => False)
    (OwnFrom.and (Own.from (fun s A B row hs hg hr => block_kept hs hg hr) _) (ownFrom_below (Nat.le_refl _) (by omega)))
    (fun _ _ _ _ _ hs _ _ => hs)
    ⟨c0, hb2⟩ (fun _ _ _ => True) (fun _ _ _ _ _ _ _ _ _ => trivial) ?assign ?body ?done ?stop
  case assign =>
    rintro l pre x W K hi hK
    gi_wp2
    exact hK _ _ (KeepsFrom.refl _ _) ⟨Nat.le_refl _, fun _ _ _ _ _ h => h⟩ hi trivial
  case body =>
    rintro l pre x a' W _ _ _ _ hlen
    simp at hlen
  case stop =>
    rintro D c pre W _ _ h _
    exact h.elim
  case done =>
    rintro D ys W hD _ ⟨hc, hB⟩ hK
    have hc2 := alloc_old hc (.cells #[.int .u64 1] 36)
    have hcell : (W.alloc (.cells #[.int .u64 1] 36)).cell? ⟨w.heap.size, 0, none⟩ = some (.bool false) := cell_of_block hc2 0
    have hfro := frozen_of_block hc2 0
    have h1 := hp.below hB
    have hx : Below w.heap.size w (W.alloc (.cells #[.int .u64 1] 36)) := hB.alloc (Nat.le_trans (by omega) hB.size) _
    have h2 := hp.below hx
    have hK1 := (KeepsOthers.setCell (W.alloc (.cells #[.int .u64 1] 36)) ⟨w.heap.size, 0, none⟩ (.bool true)).same D _ (alloc_old hK _) rfl
    have hr := block_kept (block_set hc2 0 (.bool true)) (grownBy_putObj' _ D (.deferred none)) (fun r e => by cases e; exact ⟨_, hK1, rfl⟩)
    have hr' := cell_of_block hr 0
    gi_wp2_with (first
      | (refine ⟨trivial, ?_⟩; gi_at_call 13; refine (callsIn_wide.2 (num_any _ _)).mono ?_; rintro e w' ⟨rfl, rfl⟩)
      | (refine ⟨trivial, ?_⟩; gi_at_call 24; refine (callsIn_wide.2 (store_none p _ _ _ h1.no)).mono ?_; rintro e w' ⟨rfl, rfl⟩)
      | (refine ⟨trivial, ?_⟩; gi_at_call 57; refine (callsIn_wide.2 (fill_none p _ _ _ h2.no)).mono ?_; rintro e w' ⟨rfl, rfl⟩)
      | (refine ⟨trivial, ?_⟩; gi_at_call 35; refine (callsIn_wide.2 (len_none p _ h2.no)).mono ?_; rintro e w' ⟨rfl, rfl⟩)
      | (refine ⟨trivial, ?_⟩; gi_at_call 49; refine (callsIn_wide.2 (has_none p _ (by omega) _ h2.no)).mono ?_; rintro e w' ⟨rfl, rfl⟩)
      | (refine ⟨trivial, ?_⟩; gi_at_call 46; refine (callsIn_wide.2 (words_none p _ h2.no)).mono ?_; rintro e w' ⟨rfl, rfl⟩)
      | (refine ⟨trivial, ?_⟩; gi_at_call 33; refine (callsIn_wide.2 (sum_none p _ h2.no)).mono ?_; rintro e w' ⟨rfl, rfl⟩)
      | (refine ⟨trivial, ?_⟩; gi_at_call 27; refine (callsIn_wide.2 (accesses_zero h2)).mono ?_; rintro e w' ⟨rfl, rfl⟩)
      | (refine ⟨trivial, ?_⟩; gi_at_call 16; refine (callsIn_wide.2 (copy_none p _ h2.no)).mono ?_; rintro e w' ⟨rfl, rfl⟩))
    refine ⟨by simp, .inl ⟨_, _, rfl, run_takeDeferred hK1, ?_⟩⟩
    refine ⟨.bool true, ?_, rfl, (hx.setCell (p := ⟨w.heap.size, 0, none⟩) (Nat.le_refl _) _).trans (belowK_b (w := w) (Nat.le_refl _) _ D _ _ (by omega) hK1 rfl rfl)⟩
    simp [results, Try.f36, go_sem, hr']

end Go.Proofs.Ytmffkcbdgpaieaa
