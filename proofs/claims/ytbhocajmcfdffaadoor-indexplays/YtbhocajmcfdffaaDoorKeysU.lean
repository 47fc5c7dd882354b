/-
  The walk of the program's Keys. No statement of the seat is proved here.
-/
import Derived.Test.YtbhocajmcfdffaaDoorPutGU
import Derived.WalkSpells
import Derived.Test.YtbhocajmcfdffaaDoorWords
namespace Go.Proofs.YtbhocajmcfdffaaDoor.U
open Go.RowKit Go.Shelf
attribute [local go_sem] Oper.semAt_some

set_option maxHeartbeats 400000 in
theorem keys_none (b s e0 p : Nat) (K : List (Option Int)) (bf : Int → Nat) (vf : Int → Value) (w : World) (h : Good w b s e0 p K [] bf vf) :
    Calls Tryd.prog 57 #[.pointer (some ⟨b, 0, none⟩)] w fun e w' => e = .returned (.slice none 0 0) ∧ w' = w := by
  have c1 := h.tab.c1
  have hl := len_at b 0 w c1
  go_enter Tryd.func57, Tryd.ntmps57
  go_wp2_with (go_at_call 59; refine hl.mono ?_; rintro e w' ⟨rfl, rfl⟩)
  go_ret
  exact ⟨rfl, rfl⟩

set_option maxRecDepth 100000 in
set_option maxHeartbeats 1000000 in
theorem keys_some (b s e0 p : Nat) (K : List (Option Int)) (O : List Int) (bf : Int → Nat) (vf : Int → Value) (w : World) (h : Good w b s e0 p K O bf vf) (hO : 0 < O.length) :
    Calls Tryd.prog 57 #[.pointer (some ⟨b, 0, none⟩)] w fun e w' => ∃ v, e = .returned v ∧ w'.ownsRow w.heap.size 25 1 v O.length (wordsV O) ∧ Below w.heap.size w w' := by
  have c1 := h.tab.c1
  have hl := len_at b O.length w c1
  have hle := h.len
  have hmk := run_words O.length (by omega)
  have hms : (madeCells #[Value.int .u64 0] O.length).size = O.length * 1 := by simp [size_madeCells]
  have hrow0 := World.ownsRow_made (base := w.heap.size) (e := 25) (size := 1) w (madeCells #[Value.int .u64 0] O.length) O.length (Nat.le_refl _) (by unfold maxLen; omega) hms
  have hne : ((O.length : Int) == 0) = false := by rw [beq_eq_false_iff_ne]; omega
  have hlb := lt_of_block h.tab.tab
  generalize madeCells #[Value.int .u64 0] O.length = cs at *
  have hcb : (w.alloc (.cells cs 25)).cell? ⟨b, 1, none⟩ = some (.int .i64 O.length) := by rw [World.cell?_alloc_lt _ _ ⟨b, 1, none⟩ hlb, c1]
  obtain ⟨i0, hi, hz0, hz1, hzb⟩ := info_parts info_word
  refine (callsIn_wide (n := 3)).1 ?_
  refine callsIn_of_wp_marks Tryd.func57 rfl trivial ?_ rfl
  simp only [Tryd.ntmps57, List.size_toArray, List.length_cons, List.length_nil, Nat.reduceAdd, Nat.reduceSub, Array.replicate_succ, Array.replicate_zero, List.push_toArray, List.append_toArray, List.nil_append, List.cons_append]
  gi_wp2_with (first
    | (refine ⟨trivial, ?_⟩; gi_at_call 59; refine (callsIn_wide.2 hl).mono ?_; rintro e w1 ⟨rfl, hw1⟩; replace hw1 := hw1.symm; subst hw1)
    | (refine ⟨trivial, ?_⟩; gi_at_call 44; refine (callsIn_wide.2 (coming_any _ _)).mono ?_; rintro e w1 ⟨rfl, rfl⟩))
  have hx1 : Boxed _ _ _ _ := alloc_old (alloc_block (w.alloc (.cells cs 25)) (.cells #[.slice (some ⟨w.heap.size, 0, none⟩) 0 O.length] 37)) (.cells #[.pointer (some ⟨b, 0, none⟩)] 23)
  have hx2 : Boxed _ _ _ _ := alloc_block ((w.alloc (.cells cs 25)).alloc (.cells #[.slice (some ⟨w.heap.size, 0, none⟩) 0 O.length] 37)) (.cells #[.pointer (some ⟨b, 0, none⟩)] 23)
  simp only [World.size_alloc] at hx1 hx2
  have hrow2 := (hrow0.alloc (.cells #[.slice (some ⟨w.heap.size, 0, none⟩) 0 O.length] 37)).alloc (.cells #[.pointer (some ⟨b, 0, none⟩)] 23)
  have hB2 : Below w.heap.size w (((w.alloc (.cells cs 25)).alloc (.cells #[.slice (some ⟨w.heap.size, 0, none⟩) 0 O.length] 37)).alloc (.cells #[.pointer (some ⟨b, 0, none⟩)] 23)) :=
    (((Below.refl _ w).alloc (Nat.le_refl _) _).alloc (by simp) _).alloc (by simp; omega) _
  have hz2 : (((w.alloc (.cells cs 25)).alloc (.cells #[.slice (some ⟨w.heap.size, 0, none⟩) 0 O.length] 37)).alloc (.cells #[.pointer (some ⟨b, 0, none⟩)] 23)).heap.size = w.heap.size + 3 := by simp
  generalize ((w.alloc (.cells cs 25)).alloc (.cells #[.slice (some ⟨w.heap.size, 0, none⟩) 0 O.length] 37)).alloc (.cells #[.pointer (some ⟨b, 0, none⟩)] 23) = W2 at hx1 hx2 hrow2 hB2 hz2 ⊢
  have hlK : 0 < K.length := by rw [h.inv.len]; exact Nat.two_pow_pos p
  have hR := (h.tab.below hB2).ring (bx := w.heap.size + 1 + 1) hlK hx2
  have hltO : ∀ q, q ∈ O → bf q < w.heap.size := fun q hq => h.tab.lt (.inr (.inr (.inr ⟨q, hq, rfl⟩)))
  have hlte : e0 < w.heap.size := h.tab.lt (.inr (.inr (.inl rfl)))
  have hent := fun (x : { q // q ∈ O }) => h.tab.key x.2
  clear c1 hl hmk hcb hrow0 hms
  refine' wpIn_rangeFunc_ownG rfl (by omega) (gf := 82) (lb := #[.pointer (some ⟨w.heap.size + 1 + 1, 0, none⟩)]) rfl trivial (enters_of Tryd.func82 (by kernel_rfl) rfl)
    (coming_stops (3 - 1) (by omega) (w.heap.size + 1 + 1) b s e0 K.length O bf vf W2 hR)
    (fun h k => h.trans k) (fun W l o o' hl ho hc _ => KeptOn.putObj W l o o' ho hc) (Below.refl _ _) (fun _ => rfl)
    (fun pre W => ((∃ v, Boxed W (w.heap.size + 1) 37 v ∧ W.ownsRow w.heap.size 25 1 v pre.length (wordsV (pre.map (·.1))) ∧ True) ∧ Boxed W (w.heap.size + 1 + 1) 23 (.pointer (some ⟨b, 0, none⟩))) ∧ Below w.heap.size w W)
    (fun _ _ _ => False)
    (OwnFrom.and (OwnFrom.and (Go.Own.from (holdsRow_own w.heap.size (w.heap.size + 1) 37 25 1 (fun pre : List { q // q ∈ O } => pre.length) (fun pre => wordsV (pre.map (·.1))) (fun _ _ => True)) _) (Go.Own.from (fun s A B row hs hg hr => block_kept hs hg hr) _)) (ownFrom_below (Nat.le_refl _) (by omega)))
    (fun _ _ _ _ _ hs _ _ => hs)
    ⟨⟨⟨_, hx1, hrow2, trivial⟩, hx2⟩, hB2⟩ _ ?assign ?body ?done ?stop
  case assign =>
    intro l x W K hK
    gi_wp2
    exact hK
  case stop =>
    rintro D c pre X _ _ h _
    exact h.elim
  case done =>
    rintro D ys X hD rfl ⟨⟨⟨v, hv, hrow, _⟩, _⟩, hB⟩ hK
    rw [firsts_all, firsts_length (Nat.le_refl _)] at hrow
    have hc := hv.cell
    gi_wp2
    refine ⟨by simp, .inl ⟨_, _, rfl, run_takeDeferred hK, ?_⟩⟩
    exact ⟨v, by simp [results, Tryd.f57, go_sem], v, rfl, ownsRow_putObj hrow _ hK rfl, hB.trans (belowK_b (w := w) (Nat.le_refl _) X D _ _ (by omega) hK rfl rfl)⟩
  case body =>
    rintro l pre x W ⟨⟨⟨v, hv, hrow, _⟩, hbx⟩, hB⟩ hlen
    obtain ⟨ea, ec, he⟩ := hent x
    have hck : W.cell? ⟨bf x.1, 0, none⟩ = some (.int .u64 x.1) := by rw [cell_of_block ((hB.block _ (hltO _ x.2)).trans he)]; rfl
    have hc := hv.cell
    have hfz := hv.frozen
    have hnew : ∀ (j : Nat) (u : Value), [Value.int .u64 x.1][j]? = some u → ((W.alloc (.cells #[.int .u64 x.1] 25)).drew).cell? ((⟨W.heap.size, 0, none⟩ : Addr).add j) = some u := fun j u hj => by
      rw [addr_add, Nat.zero_add]
      show (W.alloc (.cells #[.int .u64 x.1] 25)).cell? _ = _
      rw [cell_of_block (alloc_block W _)]
      simpa using hj
    obtain ⟨v', w1, hrun, hown', hgrow, _⟩ := run_append_own (P := Tryd.prog) ((W.alloc (.cells #[.int .u64 x.1] 25)).drew) w.heap.size 37 37 25 i0 (.int .u64 0) 1 8 Tryd.underlying37 hi hz0 hz1 hzb rfl (by decide) v pre.length _ (hrow.alloc _).drew ⟨W.heap.size, 0, none⟩ 1 1 [.int .u64 x.1] rfl hnew (by simp [Value.oneCell']) (by unfold maxLen; omega) (by omega) (by have := hB.size; show w.heap.size ≤ (W.alloc (.cells #[.int .u64 x.1] 25)).heap.size; simp; omega)
    have hmx : Tryd.prog.follows .mixedOrders = true := by kernel_rfl
    clear hent he
    obtain ⟨B, hB0⟩ : ∃ B, bf x.1 = B := ⟨_, rfl⟩
    obtain ⟨y, hy0⟩ : ∃ y, x.1 = y := ⟨_, rfl⟩
    have hBl : B < w.heap.size := by rw [← hB0]; exact hltO _ x.2
    have Hy : Hid (x.1 = y) := hy0
    rw [hB0] at hck ⊢
    rw [hy0] at hck hrun hgrow hown'
    clear hB0 hy0
    obtain ⟨hv1, hv2, hr2, hk2, hb2⟩ := hv.appended (w1 := w1) (tmp := .cells #[.int .u64 y] 25) (by decide) hrow hB.size (by omega) hown' ⟨hgrow.os, hgrow.tape, hgrow.output, hgrow.size, hgrow.block⟩
    have hc1 := hv1.cell
    have hf1 := hv1.frozen
    have hbx' : Boxed (w1.setCell ⟨w.heap.size + 1, 0, none⟩ v') (w.heap.size + 1 + 1) 23 (.pointer (some ⟨b, 0, none⟩)) :=
      ((Below.heap_setCell _ _ _ _ (by show w.heap.size + 1 + 1 ≠ w.heap.size + 1; omega)).trans ((hgrow.block _ (by show _ < (W.alloc (.cells #[.int .u64 y] 25)).heap.size; have := hbx.lt; simp; omega) (hbx.not_row (by decide) hrow)).trans (Below.heap_alloc W _ _ hbx.lt))).trans hbx
    have hkeep : KeptOn (Walked (w.heap.size + 1 + 1) b e0 O bf) W (w1.setCell ⟨w.heap.size + 1, 0, none⟩ v') := ⟨hb2.size, fun k c t fr hk hc => by
      rcases hk with rfl | rfl | rfl | ⟨q, hq, rfl⟩
      · rw [show W.heap[w.heap.size + 1 + 1]? = _ from hbx] at hc
        exact (show _ = _ from hbx').trans hc
      · exact (hb2.block _ (by omega)).trans hc
      · exact (hb2.block _ (by omega)).trans hc
      · exact (hb2.block _ (hltO q hq)).trans hc⟩
    have hr3 : (w1.setCell ⟨w.heap.size + 1, 0, none⟩ v').ownsRow w.heap.size 25 1 v' (pre ++ [x]).length (wordsV ((pre ++ [x]).map (·.1))) := by
      rw [List.length_append, List.map_append]
      simp only [wordsV, List.map_append, List.map_cons, List.map_nil, Hy.out]
      exact hr2
    replace hr2 := hr3
    clear hr3
    generalize pre ++ [x] = px at *
    obtain ⟨g', cap', rfl⟩ := ownsRow_succ hown'
    have hca : ((W.alloc (.cells #[.int .u64 y] 25)).drew).cell? ⟨w.heap.size + 1, 0, none⟩ = some v := (World.cell?_alloc_lt W _ ⟨w.heap.size + 1, 0, none⟩ hv.lt).trans hc
    gi_wp2
    refine wpIn_round_anyN 8 rfl hmx (by kernel_rfl) ?_
    refine any_take (i := 1) (v := .pointer (some ⟨B, 0, none⟩)) 17 rfl rfl (by kernel_rfl) (by kernel_rfl) (by kernel_rfl) rfl (fun w' => by go_simp) ?_
    simp only [Act.put, List.setIfInBounds_toArray, List.set_cons_zero, List.set_cons_succ]
    refine any_take (i := 2) (v := .pointer (some ⟨B, 0, none⟩)) 18 rfl rfl (by kernel_rfl) (by kernel_rfl) (by kernel_rfl) rfl (fun w' => by go_simp) ?_
    simp only [Act.put, List.setIfInBounds_toArray, List.set_cons_zero, List.set_cons_succ]
    refine any_take (i := 3) (v := .pointer (some ⟨B, 0, none⟩)) 19 rfl rfl (by kernel_rfl) (by kernel_rfl) (by kernel_rfl) rfl (fun w' => by go_simp) ?_
    simp only [Act.put, List.setIfInBounds_toArray, List.set_cons_zero, List.set_cons_succ]
    refine any_val2 (i := 0) (j := 4) (vi := v) (vj := .int .u64 y) (wi := W.drew) (wj := W.drew) (some 16) (some 20) (by kernel_rfl) rfl rfl rfl rfl rfl rfl (by go_simp) (by go_simp) ?_ ?_
    · simp only [Act.put, List.setIfInBounds_toArray, List.set_cons_zero, List.set_cons_succ]
      refine any_val (i := 4) (v := .int .u64 y) (w' := W.drew) (some 20) (by kernel_rfl) rfl rfl rfl (by go_simp) ?_
      simp only [Act.put, List.setIfInBounds_toArray, List.set_cons_zero, List.set_cons_succ]
      refine any_val (i := 5) (v := .slice (some ⟨W.heap.size, 0, none⟩) 1 1) (w' := (W.alloc (.cells #[.int .u64 y] 25)).drew) (some 21) (by kernel_rfl) rfl rfl rfl (by go_simp) ?_
      simp only [Act.put, List.setIfInBounds_toArray, List.set_cons_zero, List.set_cons_succ]
      refine any_val (i := 6) (v := .slice (some ⟨g', 0, none⟩) (pre.length + 1) cap') (w' := w1) (some 22) (by kernel_rfl) rfl rfl rfl (run_append_op rfl rfl rfl hrun) ?_
      simp only [Act.put, List.setIfInBounds_toArray, List.set_cons_zero, List.set_cons_succ]
      refine any_skip (i := 7) (w' := w1.setCell ⟨w.heap.size + 1, 0, none⟩ (.slice (some ⟨g', 0, none⟩) (pre.length + 1) cap')) (by kernel_rfl) rfl rfl rfl (by go_simp) ?_
      exact any_end (by kernel_rfl) ⟨hk2.from _, hkeep, ⟨⟨_, hv2, hr2, trivial⟩, hbx'⟩, hB.trans hb2⟩ _
    · simp only [Act.put, List.setIfInBounds_toArray, List.set_cons_zero, List.set_cons_succ]
      refine any_val2 (i := 0) (j := 5) (vi := v) (vj := .slice (some ⟨W.heap.size, 0, none⟩) 1 1) (wi := W.drew) (wj := (W.alloc (.cells #[.int .u64 y] 25)).drew) (some 16) (some 21) (by kernel_rfl) rfl rfl rfl rfl rfl rfl (by go_simp) (by go_simp) ?_ ?_
      · simp only [Act.put, List.setIfInBounds_toArray, List.set_cons_zero, List.set_cons_succ]
        refine any_val (i := 5) (v := .slice (some ⟨W.heap.size, 0, none⟩) 1 1) (w' := (W.alloc (.cells #[.int .u64 y] 25)).drew) (some 21) (by kernel_rfl) rfl rfl rfl (by go_simp) ?_
        simp only [Act.put, List.setIfInBounds_toArray, List.set_cons_zero, List.set_cons_succ]
        refine any_val (i := 6) (v := .slice (some ⟨g', 0, none⟩) (pre.length + 1) cap') (w' := w1) (some 22) (by kernel_rfl) rfl rfl rfl (run_append_op rfl rfl rfl hrun) ?_
        simp only [Act.put, List.setIfInBounds_toArray, List.set_cons_zero, List.set_cons_succ]
        refine any_skip (i := 7) (w' := w1.setCell ⟨w.heap.size + 1, 0, none⟩ (.slice (some ⟨g', 0, none⟩) (pre.length + 1) cap')) (by kernel_rfl) rfl rfl rfl (by go_simp) ?_
        exact any_end (by kernel_rfl) ⟨hk2.from _, hkeep, ⟨⟨_, hv2, hr2, trivial⟩, hbx'⟩, hB.trans hb2⟩ _
      · simp only [Act.put, List.setIfInBounds_toArray, List.set_cons_zero, List.set_cons_succ]
        refine any_val (i := 0) (v := v) (w' := (W.alloc (.cells #[.int .u64 y] 25)).drew) (some 16) (by kernel_rfl) rfl rfl rfl (by go_simp) ?_
        simp only [Act.put, List.setIfInBounds_toArray, List.set_cons_zero, List.set_cons_succ]
        refine any_val (i := 6) (v := .slice (some ⟨g', 0, none⟩) (pre.length + 1) cap') (w' := w1) (some 22) (by kernel_rfl) rfl rfl rfl (run_append_op rfl rfl rfl hrun) ?_
        simp only [Act.put, List.setIfInBounds_toArray, List.set_cons_zero, List.set_cons_succ]
        refine any_skip (i := 7) (w' := w1.setCell ⟨w.heap.size + 1, 0, none⟩ (.slice (some ⟨g', 0, none⟩) (pre.length + 1) cap')) (by kernel_rfl) rfl rfl rfl (by go_simp) ?_
        exact any_end (by kernel_rfl) ⟨hk2.from _, hkeep, ⟨⟨_, hv2, hr2, trivial⟩, hbx'⟩, hB.trans hb2⟩ _

theorem keys_at (b s e0 p : Nat) (K : List (Option Int)) (O : List Int) (bf : Int → Nat) (vf : Int → Value) (w : World) (h : Good w b s e0 p K O bf vf) :
    Calls Tryd.prog 57 #[.pointer (some ⟨b, 0, none⟩)] w fun e w' => ∃ v, e = .returned v ∧ w'.ownsRow w.heap.size 25 1 v O.length (wordsV O) ∧ Below w.heap.size w w' := by
  cases O with
  | nil => exact (keys_none b s e0 p K bf vf w h).mono fun _ _ ⟨h1, h2⟩ => ⟨_, h1, World.ownsRow_nil _ _ _ _, h2 ▸ Below.refl _ _⟩
  | cons k O => exact keys_some b s e0 p K (k :: O) bf vf w h (by simp)
end Go.Proofs.YtbhocajmcfdffaaDoor.U
