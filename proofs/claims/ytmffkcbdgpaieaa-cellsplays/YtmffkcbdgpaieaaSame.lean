/-
  The walk of the program's Same (package cells): are two rows the same? No statement of the seat is proved here.
-/
import Derived.Test.YtmffkcbdgpaieaaApart
namespace Go.Proofs.Ytmffkcbdgpaieaa
open Go.RowKit Go.Shelf
attribute [local go_sem] Oper.semAt_some

theorem dl_nil {xa xb : List Int} : ∀ {n : Nat}, dl xa xb n = [] → ∀ k, k < n → xb[k]?.getD 0 = xa[k]?.getD 0
  | 0, _, k, hk => by omega
  | n + 1, h, k, hk => by
    unfold dl at h
    split at h
    · rename_i he
      by_cases hkn : k = n
      · subst hkn
        exact eq_of_beq he
      · exact dl_nil h k (by omega)
    · simp at h

theorem eq_of_gets {xa xb : List Int} (hl : xb.length = xa.length) (h : ∀ k, k < xb.length → xb[k]?.getD 0 = xa[k]?.getD 0) : xa = xb := by
  apply List.ext_getElem hl.symm
  intro i h1 h2
  have := h i h2
  simpa [h1, h2] using this.symm

theorem RowAt.below {w w' : World} {t e : TypeId} {b c : Nat} {ws : List Int} {n : Int} (h : RowAt w t e b c ws n) (hb : Below w.heap.size w w') : RowAt w' t e b c ws n :=
  ⟨(hb.block b h.ltb).trans h.row, (hb.block c h.ltc).trans h.words, h.ne, h.pos, h.le⟩

set_option maxHeartbeats 400000 in
theorem same_len (ba ca bb cb : Nat) (wa wb : List Int) (na nb : Int) (w : World) (ha : RowAt w 74 36 ba ca wa na) (hb : RowAt w 74 36 bb cb wb nb) (hl : ¬ wb.length = wa.length) :
    Calls Try.prog 32 #[.pointer (some ⟨ba, 0, none⟩), .pointer (some ⟨bb, 0, none⟩)] w fun e w' => e = .returned (.bool false) ∧ Below w.heap.size w w' := by
  have hb1 : Below w.heap.size w (w.alloc (.cells #[.bool false] 4)) := (Below.refl _ w).alloc (Nat.le_refl _) _
  have a0 := (ha.below hb1).cell0
  have b0 := (hb.below hb1).cell0
  have hpa := ha.pos
  have hpb := hb.pos
  have hda : decide (0 < wa.length) = true := by simp; omega
  have hdb : decide (0 < wb.length) = true := by simp; omega
  have hne : ((wa.length : Int) != (wb.length : Int)) = true := by simp; omega
  go_enter Try.func32, Try.ntmps32
  go_wp2_with fail
  refine (made_at ba _ wa.length wa.length _ a0).mono ?_
  rintro e w' ⟨rfl, rfl⟩
  go_wp2_with fail
  refine (made_at bb _ wb.length wb.length _ b0).mono ?_
  rintro e w' ⟨rfl, rfl⟩
  go_wp2_with fail
  refine (len_at ba _ wa.length wa.length _ a0).mono ?_
  rintro e w' ⟨rfl, rfl⟩
  go_wp2_with fail
  refine (len_at bb _ wb.length wb.length _ b0).mono ?_
  rintro e w' ⟨rfl, rfl⟩
  go_wp2_with fail
  exact bodyPost_ret (v := .bool false) (by simp [results, Try.results32, go_sem]) rfl ⟨rfl, hb1⟩

set_option maxRecDepth 100000 in
set_option maxHeartbeats 1000000 in
theorem same_eq (ba ca bb cb : Nat) (wa wb : List Int) (na nb : Int) (w : World) (ha : RowAt w 74 36 ba ca wa na) (hb : RowAt w 74 36 bb cb wb nb) (hl : wb.length = wa.length) :
    Calls Try.prog 32 #[.pointer (some ⟨ba, 0, none⟩), .pointer (some ⟨bb, 0, none⟩)] w fun e w' => e = .returned (.bool (decide (wa = wb))) ∧ Below w.heap.size w w' := by
  have hb1 : Below w.heap.size w (w.alloc (.cells #[.bool false] 4)) := (Below.refl _ w).alloc (Nat.le_refl _) _
  have hb2 := (hb1.alloc (by simp) (.cells #[.pointer (some ⟨ba, 0, none⟩)] 25)).alloc (by simp; omega) (.cells #[.pointer (some ⟨bb, 0, none⟩)] 25)
  have a0 := (ha.below hb1).cell0
  have b0 := (hb.below hb1).cell0
  have hpa := ha.pos
  have hpb := hb.pos
  have hda : decide (0 < wa.length) = true := by simp; omega
  have hdb : decide (0 < wb.length) = true := by simp; omega
  have hne : ((wa.length : Int) != (wb.length : Int)) = false := by simp [hl]
  have HL : Hid (wb.length = wa.length) := hl
  clear hl
  refine (callsIn_wide (n := 3)).1 ?_
  refine callsIn_of_wp_marks Try.func32 rfl trivial ?_ rfl
  simp only [Try.ntmps32, List.size_toArray, List.length_cons, List.length_nil, Nat.reduceAdd, Nat.reduceSub, Array.replicate_succ, Array.replicate_zero, List.push_toArray, List.append_toArray, List.nil_append, List.cons_append]
  gi_wp2_with fail
  refine ⟨trivial, (callsIn_wide.2 (made_at ba _ wa.length wa.length _ a0)).mono ?_⟩
  rintro e w' ⟨rfl, rfl⟩
  gi_wp2_with fail
  refine ⟨trivial, (callsIn_wide.2 (made_at bb _ wb.length wb.length _ b0)).mono ?_⟩
  rintro e w' ⟨rfl, rfl⟩
  gi_wp2_with fail
  refine ⟨trivial, (callsIn_wide.2 (len_at ba _ wa.length wa.length _ a0)).mono ?_⟩
  rintro e w' ⟨rfl, rfl⟩
  gi_wp2_with fail
  refine ⟨trivial, (callsIn_wide.2 (len_at bb _ wb.length wb.length _ b0)).mono ?_⟩
  rintro e w' ⟨rfl, rfl⟩
  gi_wp2_with fail
  refine ⟨trivial, (callsIn_wide.2 (apart_any _ _ _)).mono ?_⟩
  rintro e w' ⟨rfl, rfl⟩
  gi_wp2_with fail
  have c0 := alloc_old (alloc_old (alloc_block w (.cells #[.bool false] 4)) (.cells #[.pointer (some ⟨ba, 0, none⟩)] 25)) (.cells #[.pointer (some ⟨bb, 0, none⟩)] 25)
  have c1 := alloc_old (alloc_block (w.alloc (.cells #[.bool false] 4)) (.cells #[.pointer (some ⟨ba, 0, none⟩)] 25)) (.cells #[.pointer (some ⟨bb, 0, none⟩)] 25)
  have c2 := alloc_block ((w.alloc (.cells #[.bool false] 4)).alloc (.cells #[.pointer (some ⟨ba, 0, none⟩)] 25)) (.cells #[.pointer (some ⟨bb, 0, none⟩)] 25)
  simp only [World.size_alloc] at c1 c2
  have hz2 : (((w.alloc (.cells #[.bool false] 4)).alloc (.cells #[.pointer (some ⟨ba, 0, none⟩)] 25)).alloc (.cells #[.pointer (some ⟨bb, 0, none⟩)] 25)).heap.size = w.heap.size + 3 := by simp
  have ha2 := ha.below hb2
  have hb2' := hb.below hb2
  have la := ha.ltb
  have lc := ha.ltc
  have lb := hb.ltb
  have ld := hb.ltc
  generalize ((w.alloc (.cells #[.bool false] 4)).alloc (.cells #[.pointer (some ⟨ba, 0, none⟩)] 25)).alloc (.cells #[.pointer (some ⟨bb, 0, none⟩)] 25) = W2 at hb2 c1 c2 c0 hz2 ha2 hb2' ⊢
  clear hb1 a0 b0
  refine wpIn_rangeFunc_ownH rfl (by omega) (gf := 60) (lb := #[.pointer (some ⟨w.heap.size + 1 + 1, 0, none⟩), .pointer (some ⟨w.heap.size + 1, 0, none⟩)]) rfl trivial (enters_of Try.func60 (by kernel_rfl) rfl)
    (apart_stops (3 - 1) (by omega) (w.heap.size + 1 + 1) (w.heap.size + 1) ba ca bb cb wa wb na nb HL.out W2 (cell_of_block c2 0) (cell_of_block c1 0) ha2 hb2')
    (fun h k => h.trans k) (fun W l o o' hl _ _ _ => SameAt.putObj (B := W2.heap.size) (fun k hk => by rcases hk with rfl | rfl | rfl | rfl | rfl | rfl <;> omega) W l o' hl) (Below.refl _ _) (fun _ => rfl)
    (fun pre W => (pre = [] ∧ W.heap[w.heap.size]? = some (.cells #[.bool false] 4 (0, 0))) ∧ Below w.heap.size w W)
    (fun c pre W => (c = .ret ∧ pre ≠ [] ∧ W.heap[w.heap.size]? = some (.cells #[.bool false] 4 (0, 0))) ∧ Below w.heap.size w W)
    (OwnFrom.and (Own.from (fun s A B row hs hg hr => ⟨hs.1, block_kept hs.2 hg hr⟩) _) (ownFrom_below (Nat.le_refl _) (by omega)))
    (fun _ => OwnFrom.and (Own.from (fun s A B row hs hg hr => ⟨hs.1, hs.2.1, block_kept hs.2.2 hg hr⟩) _) (ownFrom_below (Nat.le_refl _) (by omega)))
    ⟨⟨rfl, c0⟩, hb2⟩
    (fun x a' _ => a' = { tmps := #[.pointer (some ⟨ba, 0, none⟩), .pointer (some ⟨bb, 0, none⟩), undef, undef, .pointer (some ⟨w.heap.size, 0, none⟩), .pointer (some ⟨ba, 0, none⟩), .bool true, .bool false, .bool false, .pointer (some ⟨bb, 0, none⟩), .bool true, .bool false, .bool false, .bool false, .pointer (some ⟨ba, 0, none⟩), .int .i64 wa.length, .pointer (some ⟨bb, 0, none⟩), .int .i64 wb.length, .bool false, .bool false, .pointer (some ⟨ba, 0, none⟩), .pointer (some ⟨bb, 0, none⟩), .func (.func 60) #[] #[.pointer (some ⟨w.heap.size + 1 + 1, 0, none⟩), .pointer (some ⟨w.heap.size + 1, 0, none⟩)], .int .u64 (x.1 : Nat), .int .u64 x.2], defers := [] })
    (fun _ _ _ _ _ _ h _ _ => h) ?assign ?body ?done ?stop
  case assign =>
    rintro l pre x W K hi hK
    gi_wp2
    exact hK _ _ (KeepsFrom.refl _ _) (SameAt.refl _ _) hi (by simp)
  case body =>
    rintro l pre x a' W _ _ ⟨⟨rfl, hc⟩, hB⟩ rfl hlen
    have hcell := cell_of_block hc 0
    have hfro := frozen_of_block hc 0
    have hset := block_set hc 0 (.bool false)
    gi_wp2
    exact ⟨(KeepsOthers.setCell _ _ _).from _, ⟨rfl, by simp, hset⟩, hB.setCell (p := ⟨w.heap.size, 0, none⟩) (Nat.le_refl _) _⟩
  case stop =>
    rintro D c pre W hD ⟨k, hk, hd, rfl⟩ ⟨⟨rfl, _, hc⟩, hB⟩ hK
    have hx : Hid (¬ wa = wb) := fun e => by subst e; simp at hd
    clear hd
    gi_wp2
    refine ⟨by simp, .inl ⟨_, _, rfl, run_takeDeferred hK, ?_⟩⟩
    have hr := block_kept hc (grownBy_putObj' _ D (.deferred none)) (fun r e => by cases e; exact ⟨_, hK, rfl⟩)
    have hr' := cell_of_block hr 0
    refine ⟨.bool false, ?_, by rw [decide_eq_false hx.out], hB.trans (belowK_b (w := w) (Nat.le_refl _) _ D _ _ (by omega) hK rfl rfl)⟩
    simp [results, Try.f32, go_sem, hr']
  case done =>
    rintro D ys W hD rfl ⟨⟨hys, hc⟩, hB⟩ hK
    have hx : Hid (wa = wb) := eq_of_gets HL.out (dl_nil hys)
    have hcell := cell_of_block hc 0
    have hfro := frozen_of_block hc 0
    clear hys
    have hK1 := (KeepsOthers.setCell W ⟨w.heap.size, 0, none⟩ (.bool true)).same D _ hK rfl
    have hr := block_kept (block_set hc 0 (.bool true)) (grownBy_putObj' _ D (.deferred none)) (fun r e => by cases e; exact ⟨_, hK1, rfl⟩)
    have hr' := cell_of_block hr 0
    gi_wp2
    refine ⟨by simp, .inl ⟨_, _, rfl, run_takeDeferred hK1, ?_⟩⟩
    refine ⟨.bool true, ?_, by rw [decide_eq_true hx.out], (hB.setCell (p := ⟨w.heap.size, 0, none⟩) (Nat.le_refl _) _).trans (belowK_b (w := w) (Nat.le_refl _) _ D _ _ (by omega) hK1 rfl rfl)⟩
    simp [results, Try.f32, go_sem, hr']

theorem same_at (ba ca bb cb : Nat) (wa wb : List Int) (na nb : Int) (w : World) (ha : RowAt w 74 36 ba ca wa na) (hb : RowAt w 74 36 bb cb wb nb) :
    Calls Try.prog 32 #[.pointer (some ⟨ba, 0, none⟩), .pointer (some ⟨bb, 0, none⟩)] w fun e w' => e = .returned (.bool (decide (wa = wb))) ∧ Below w.heap.size w w' := by
  by_cases hl : wb.length = wa.length
  · exact same_eq ba ca bb cb wa wb na nb w ha hb hl
  · rw [decide_eq_false (fun e => hl (by rw [e]))]
    exact same_len ba ca bb cb wa wb na nb w ha hb hl

end Go.Proofs.Ytmffkcbdgpaieaa
