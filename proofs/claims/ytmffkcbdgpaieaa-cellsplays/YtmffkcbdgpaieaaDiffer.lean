/-
  The walk of the program's Differ (package cells): where two rows differ, with the second one's words, in a slice of the call's own. No statement of the seat is proved here.
-/
import Derived.Test.YtmffkcbdgpaieaaSame
import Derived.RangeFuncBox
import Derived.WalkSpells
namespace Go.Proofs.Ytmffkcbdgpaieaa
open Go.RowKit Go.Shelf
attribute [local go_sem] Oper.semAt_some

theorem info58 : (Try.prog.info? 58).map (fun i => (i.zero, i.size, i.bytes)) = some (some (.agg #[.int .u64 0, .int .u64 0]), 2, 16) := by kernel_rfl

/-- Addresses with words, as cells. -/
def cellsV (l : List (Nat × Int)) : List Value := l.flatMap fun x => [.int .u64 (x.1 : Nat), .int .u64 x.2]
theorem cellsV_snoc (l : List (Nat × Int)) (x : Nat × Int) : cellsV (l ++ [x]) = cellsV l ++ [.int .u64 (x.1 : Nat), .int .u64 x.2] := by simp [cellsV]

set_option maxHeartbeats 400000 in
theorem differ_len (ba ca bb cb : Nat) (wa wb : List Int) (na nb : Int) (w : World) (ha : RowAt w 74 36 ba ca wa na) (hb : RowAt w 74 36 bb cb wb nb) (hl : ¬ wb.length = wa.length) :
    Calls Try.prog 31 #[.pointer (some ⟨ba, 0, none⟩), .pointer (some ⟨bb, 0, none⟩)] w fun e w' => e = .returned (.tuple #[.slice none 0 0, .int .i64 2]) ∧ w' = w := by
  have a0 := ha.cell0
  have b0 := hb.cell0
  have hpa := ha.pos
  have hpb := hb.pos
  have hda : decide (0 < wa.length) = true := by simp; omega
  have hdb : decide (0 < wb.length) = true := by simp; omega
  have hne : ((wa.length : Int) != (wb.length : Int)) = true := by simp; omega
  go_enter Try.func31, Try.ntmps31
  go_wp2_with fail
  refine (made_at ba _ wa.length wa.length _ a0).mono ?_
  rintro e w' ⟨rfl, rfl⟩
  go_wp2_with fail
  refine (made_at bb _ wb.length wb.length _ b0).mono ?_
  rintro e w' ⟨rfl, rfl⟩
  go_wp2_with fail
  refine (len_at ba _ wa.length wa.length _ a0).mono ?_
  rintro e w' ⟨rfl, rfl⟩
  go_wp2_with fail
  refine (len_at bb _ wb.length wb.length _ b0).mono ?_
  rintro e w' ⟨rfl, rfl⟩
  go_wp2_with fail
  go_ret2
  exact ⟨rfl, rfl⟩

set_option maxRecDepth 100000 in
set_option maxHeartbeats 1000000 in
theorem differ_eq (ba ca bb cb : Nat) (wa wb : List Int) (na nb : Int) (w : World) (ha : RowAt w 74 36 ba ca wa na) (hb : RowAt w 74 36 bb cb wb nb) (hl : wb.length = wa.length) :
    Calls Try.prog 31 #[.pointer (some ⟨ba, 0, none⟩), .pointer (some ⟨bb, 0, none⟩)] w fun e w' =>
      ∃ v, e = .returned (.tuple #[v, .int .i64 0]) ∧ w'.ownsRow w.heap.size 58 2 v (dl wa wb wb.length).length (cellsV (dl wa wb wb.length)) ∧ Below w.heap.size w w' := by
  have hb2 := (((Below.refl _ w).alloc (Nat.le_refl _) (.cells #[.slice none 0 0] 49)).alloc (by simp) (.cells #[.pointer (some ⟨ba, 0, none⟩)] 25)).alloc (by simp; omega) (.cells #[.pointer (some ⟨bb, 0, none⟩)] 25)
  have a0 := ha.cell0
  have b0 := hb.cell0
  have hpa := ha.pos
  have hpb := hb.pos
  have hlb := hb.le
  have hda : decide (0 < wa.length) = true := by simp; omega
  have hdb : decide (0 < wb.length) = true := by simp; omega
  have hne : ((wa.length : Int) != (wb.length : Int)) = false := by simp [hl]
  have HL : Hid (wb.length = wa.length) := hl
  clear hl
  obtain ⟨i0, hi, hz0, hz1, hzb⟩ := info_parts info58
  refine (callsIn_wide (n := 3)).1 ?_
  refine callsIn_of_wp_marks Try.func31 rfl trivial ?_ rfl
  simp only [Try.ntmps31, List.size_toArray, List.length_cons, List.length_nil, Nat.reduceAdd, Nat.reduceSub, Array.replicate_succ, Array.replicate_zero, List.push_toArray, List.append_toArray, List.nil_append, List.cons_append]
  gi_wp2_with fail
  refine ⟨trivial, (callsIn_wide.2 (made_at ba _ wa.length wa.length _ a0)).mono ?_⟩
  rintro e w' ⟨rfl, rfl⟩
  gi_wp2_with fail
  refine ⟨trivial, (callsIn_wide.2 (made_at bb _ wb.length wb.length _ b0)).mono ?_⟩
  rintro e w' ⟨rfl, rfl⟩
  gi_wp2_with fail
  refine ⟨trivial, (callsIn_wide.2 (len_at ba _ wa.length wa.length _ a0)).mono ?_⟩
  rintro e w' ⟨rfl, rfl⟩
  gi_wp2_with fail
  refine ⟨trivial, (callsIn_wide.2 (len_at bb _ wb.length wb.length _ b0)).mono ?_⟩
  rintro e w' ⟨rfl, rfl⟩
  gi_wp2_with fail
  refine ⟨trivial, (callsIn_wide.2 (apart_any _ _ _)).mono ?_⟩
  rintro e w'' ⟨rfl, rfl⟩
  gi_wp2_with fail
  have c0 : Boxed _ _ _ _ := alloc_old (alloc_old (alloc_block w' (.cells #[.slice none 0 0] 49)) (.cells #[.pointer (some ⟨ba, 0, none⟩)] 25)) (.cells #[.pointer (some ⟨bb, 0, none⟩)] 25)
  have c1 := alloc_old (alloc_block (w'.alloc (.cells #[.slice none 0 0] 49)) (.cells #[.pointer (some ⟨ba, 0, none⟩)] 25)) (.cells #[.pointer (some ⟨bb, 0, none⟩)] 25)
  have c2 := alloc_block ((w'.alloc (.cells #[.slice none 0 0] 49)).alloc (.cells #[.pointer (some ⟨ba, 0, none⟩)] 25)) (.cells #[.pointer (some ⟨bb, 0, none⟩)] 25)
  simp only [World.size_alloc] at c1 c2
  have hz2 : (((w'.alloc (.cells #[.slice none 0 0] 49)).alloc (.cells #[.pointer (some ⟨ba, 0, none⟩)] 25)).alloc (.cells #[.pointer (some ⟨bb, 0, none⟩)] 25)).heap.size = w'.heap.size + 3 := by simp
  have ha2 := ha.below hb2
  have hb2' := hb.below hb2
  have la := ha.ltb
  have lc := ha.ltc
  have lb := hb.ltb
  have ld := hb.ltc
  generalize ((w'.alloc (.cells #[.slice none 0 0] 49)).alloc (.cells #[.pointer (some ⟨ba, 0, none⟩)] 25)).alloc (.cells #[.pointer (some ⟨bb, 0, none⟩)] 25) = W2 at hb2 c1 c2 c0 hz2 ha2 hb2' ⊢
  clear a0 b0
  refine wpIn_rangeFunc_ownH rfl (by omega) (gf := 60) (lb := #[.pointer (some ⟨w'.heap.size + 1 + 1, 0, none⟩), .pointer (some ⟨w'.heap.size + 1, 0, none⟩)]) rfl trivial (enters_of Try.func60 (by kernel_rfl) rfl)
    (apart_stops (3 - 1) (by omega) (w'.heap.size + 1 + 1) (w'.heap.size + 1) ba ca bb cb wa wb na nb HL.out W2 (cell_of_block c2 0) (cell_of_block c1 0) ha2 hb2')
    (fun h k => h.trans k) (fun W l o o' hl _ _ _ => SameAt.putObj (B := W2.heap.size) (fun k hk => by rcases hk with rfl | rfl | rfl | rfl | rfl | rfl <;> omega) W l o' hl) (Below.refl _ _) (fun _ => rfl)
    (fun pre W => ((∃ v, Boxed W w'.heap.size 49 v ∧ W.ownsRow w'.heap.size 58 2 v pre.length (cellsV pre) ∧ True) ∧ (Boxed W (w'.heap.size + 1) 25 (.pointer (some ⟨ba, 0, none⟩)) ∧ Boxed W (w'.heap.size + 1 + 1) 25 (.pointer (some ⟨bb, 0, none⟩)))) ∧ Below w'.heap.size w' W)
    (fun _ _ _ => False)
    (OwnFrom.and (OwnFrom.and (Own.from (holdsRow_own w'.heap.size w'.heap.size 49 58 2 (fun pre : List (Nat × Int) => pre.length) cellsV (fun _ _ => True)) _) (Own.from (fun s A B row hs hg hr => ⟨block_kept hs.1 hg hr, block_kept hs.2 hg hr⟩) _)) (ownFrom_below (Nat.le_refl _) (by omega)))
    (fun _ _ _ _ _ hs _ _ => hs)
    ⟨⟨⟨_, c0, World.ownsRow_nil _ _ _ _, trivial⟩, c1, c2⟩, hb2⟩
    (fun x a' _ => a' = { tmps := #[.pointer (some ⟨ba, 0, none⟩), .pointer (some ⟨bb, 0, none⟩), undef, undef, .slice none 0 0, .int .i64 0, .pointer (some ⟨w'.heap.size, 0, none⟩), .int .u64 (x.1 : Nat), .int .u64 x.2, .pointer (some ⟨ba, 0, none⟩), .bool true, .bool false, .bool false, .pointer (some ⟨bb, 0, none⟩), .bool true, .bool false, .bool false, .pointer (some ⟨ba, 0, none⟩), .int .i64 wa.length, .pointer (some ⟨bb, 0, none⟩), .int .i64 wb.length, .bool false, .pointer (some ⟨ba, 0, none⟩), .pointer (some ⟨bb, 0, none⟩), .func (.func 60) #[] #[.pointer (some ⟨w'.heap.size + 1 + 1, 0, none⟩), .pointer (some ⟨w'.heap.size + 1, 0, none⟩)], .int .u64 (x.1 : Nat), .int .u64 x.2, undef, undef, undef, undef, undef, undef, undef], defers := [] })
    (fun _ _ _ _ _ _ h _ _ => h) ?assign ?body ?done ?stop
  case assign =>
    rintro l pre x W K hi hK
    gi_wp2
    exact hK _ _ (KeepsFrom.refl _ _) (SameAt.refl _ _) hi (by simp)
  case body =>
    rintro l pre x a' W _ _ ⟨⟨⟨v, hv, hrow, _⟩, hx1, hx2⟩, hB⟩ rfl hlen
    have hc := hv.cell
    have hnew : ∀ (j : Nat) (u : Value), [Value.int .u64 (x.1 : Nat), .int .u64 x.2][j]? = some u → (W.alloc (.cells #[.int .u64 (x.1 : Nat), .int .u64 x.2] 58)).cell? ((⟨W.heap.size, 0, none⟩ : Addr).add j) = some u := fun j u hj => by
      rw [addr_add, Nat.zero_add, cell_of_block (alloc_block W _)]
      simpa using hj
    gi_wp2_with (gi_at_builtin; go_must (refine wpListIn_append_own _ rfl _ _ 49 rfl w'.heap.size 58 i0 (.agg #[.int .u64 0, .int .u64 0]) 2 16 Try.underlying49 hi hz0 hz1 hzb rfl (by decide) _ _ _ rfl (hrow.alloc _) ⟨W.heap.size, 0, none⟩ 1 1 [.int .u64 (x.1 : Nat), .int .u64 x.2] rfl rfl hnew (by simp [Value.oneCell']) (by simp only [maxLen]; omega) (by omega) (by have := hB.size; simp; omega) ?_); intro v' w1 hown' hgrow _; obtain ⟨g', cap', rfl⟩ := ownsRow_succ hown'; obtain ⟨hv1, hv2, hr2, hk2, hb2⟩ := hv.appended (by decide) hrow hB.size (Nat.le_refl _) hown' hgrow; have hc1 := hv1.cell; have hf1 := hv1.frozen)
    have hn1 := hx1.not_row (by decide) hrow
    have hn2 := hx2.not_row (by decide) hrow
    have hsz := hB.size
    have hss : ∀ k, k < W.heap.size → k ≠ w'.heap.size → some k ≠ v.ownBlock → (w1.setCell ⟨w'.heap.size, 0, none⟩ (.slice (some ⟨g', 0, none⟩) (pre.length + 1) cap')).heap[k]? = W.heap[k]? := fun k h1 h2 h3 =>
      ((Below.heap_setCell _ _ _ _ h2).trans (hgrow.block k (by simp; omega) h3)).trans (Below.heap_alloc _ _ _ h1)
    have hlow : ∀ k, k < w'.heap.size → some k ≠ v.ownBlock := fun k hk e => by have := (hrow.lt k e.symm).1; omega
    have hx1l := hx1.lt
    have hx2l := hx2.lt
    refine ⟨hk2.from _, ⟨fun k hk => ?_⟩, ⟨⟨_, hv2, by rw [List.length_append, cellsV_snoc]; exact hr2, trivial⟩, (hss _ hx1l (by omega) hn1).trans hx1, (hss _ hx2l (by omega) hn2).trans hx2⟩, hB.trans hb2⟩
    rcases hk with rfl | rfl | rfl | rfl | rfl | rfl
    · exact hss _ hx2l (by omega) hn2
    · exact hss _ hx1l (by omega) hn1
    all_goals exact hss _ (by omega) (by omega) (hlow _ (by omega))
  case done =>
    rintro D ys W hD rfl ⟨⟨⟨v, hv, hrow, _⟩, _⟩, hB⟩ hK
    have hc := hv.cell
    gi_wp2
    refine ⟨by simp, .inl ⟨_, _, rfl, run_takeDeferred hK, ?_⟩⟩
    refine ⟨.tuple #[v, .int .i64 0], by simp [results, Try.f31, go_sem], v, rfl, ownsRow_putObj hrow _ hK rfl, hB.trans (belowK_b (w := w') (Nat.le_refl _) W D _ _ (by omega) hK rfl rfl)⟩
  case stop =>
    rintro D c pre W _ _ h _
    exact h.elim

end Go.Proofs.Ytmffkcbdgpaieaa
