
/- Walks of the document's Program. No statement of the seat is proved here. -/
import Derived.Test.YtljapgoeomedkaaDoorDaC
namespace Go.Proofs.YtljapgoeomedkaaDoor
open Go.RowKit Go.Shelf

theorem tgt_no {op : Int} (h0 : 1 ≤ op) (h1 : op ≤ 17) (h8 : op ≠ 8) (h9 : op ≠ 9) (h16 : op ≠ 16) : tgtB op = false := by
  rcases op17 h0 h1 with rfl | rfl | rfl | rfl | rfl | rfl | rfl | rfl | rfl | rfl | rfl | rfl | rfl | rfl | rfl | rfl | rfl <;> first | rfl | omega
set_option maxRecDepth 100000 in
set_option maxHeartbeats 8000000 in
theorem rprogram_any (v : Value) (p : List I5) (w : World) (h : InsAt w v p) : Calls Tryd.prog 17 #[v] w fun e w' => e = .returned (.agg (wrV (verd p).1 (verd p).2)) ∧ Keeps (fun _ => False) w w' := by
  have HI : Hid (∀ X, Keeps (fun _ => False) w X → InsAt X v p) := fun X k => h.keeps k
  have RW := rwrong_any
  obtain ⟨⟨av, cap, rfl, -⟩, -, -⟩ := h
  have A0 : (w.alloc (.cells (wrV 0 0) 40)).heap[w.heap.size]? = some (.cells (wrV 0 0) 40 (0, 0)) := heap_alloc_new _ _
  have KA := (Keeps.refl (fun _ => False) w).alloc (.cells (wrV 0 0) 40)
  unfold wrV at A0 KA
  by_cases hct : p.length < 1 ∨ 256 < p.length
  · by_cases h1 : (p.length : Int) < 1
    · go_enter Tryd.func17, Tryd.ntmps17
      go_wp2_with fail
      refine (RW (-1) 200 _).mono ?_
      rintro e w9 ⟨rfl, k9⟩
      have K9 := KA.trans k9
      have B9 := (k9.block _ (lt_of_block A0) (fun f => f)).trans A0
      go_wp2_with (refine wpList_store_row rfl 40 _ _ rfl w.heap.size (wrV (-1) 200) rfl rfl 40 _ B9 (wr_size _ _) rfl (wr_all _ _) ?_)
      refine bodyPost_ret (wrong_ret1 rfl _ _ w.heap.size (wrV (-1) 200) (setRow_heap _ _ _ _ _ _ B9) rfl rfl) rfl ?_
      have hvv := verd_count hct
      exact ⟨by rw [hvv], K9.row (Nat.le_refl _) _⟩
    · have h2 : (p.length : Int) > 256 := by omega
      go_enter Tryd.func17, Tryd.ntmps17
      go_wp2_with fail
      refine (RW (-1) 200 _).mono ?_
      rintro e w9 ⟨rfl, k9⟩
      have K9 := KA.trans k9
      have B9 := (k9.block _ (lt_of_block A0) (fun f => f)).trans A0
      go_wp2_with (refine wpList_store_row rfl 40 _ _ rfl w.heap.size (wrV (-1) 200) rfl rfl 40 _ B9 (wr_size _ _) rfl (wr_all _ _) ?_)
      refine bodyPost_ret (wrong_ret1 rfl _ _ w.heap.size (wrV (-1) 200) (setRow_heap _ _ _ _ _ _ B9) rfl rfl) rfl ?_
      have hvv := verd_count hct
      exact ⟨by rw [hvv], K9.row (Nat.le_refl _) _⟩
  · have h1 : ¬ (p.length : Int) < 1 := by omega
    have h2 : ¬ (p.length : Int) > 256 := by omega
    go_enter Tryd.func17, Tryd.ntmps17
    go_wp2_with fail
    go_loopw [3] (fun m wr => ∃ k : Nat, m = .int .i64 k ∧ k ≤ p.length ∧ Hid ((∀ j, j < k → formF p j = false) ∧ Keeps (fun _ => False) w wr ∧ wr.heap[w.heap.size]? = some (.cells #[.int .i64 0, .int .i64 0] 40 (0, 0)))) (fun m _ => p.length - (intOf m).toNat)
    case atStart => exact ⟨0, rfl, Nat.zero_le _, ⟨fun j hj => by omega, KA, A0⟩⟩
    case round =>
      clear A0 KA
      obtain ⟨k, rfl, hkl, hh⟩ := hrel
      by_cases hlt : k < p.length
      · obtain ⟨hM, hK, hB⟩ := hh.out
        have hki : (k : Int) < p.length := by omega
        obtain ⟨⟨av', cap', hv, hc⟩, -, -⟩ := HI.out wr hK
        cases hv
        obtain ⟨pg, po, rfl, d0, d1, d2, d3, d4⟩ := hc k hlt
        have h5 : p[k]'hlt = at5 p k := by simp [at5, hlt]
        rw [h5] at d0 d1 d2 d3 d4
        have FA := rformed_any (at5 p k)
        have hfk : formF p k = !formedB (at5 p k) := rfl
        generalize hi : at5 p k = i at *
        obtain ⟨op, a, b, c, n⟩ := i
        dsimp only at d0 d1 d2 d3 d4
        clear hc h5 hi
        rcases hfb : formedB ⟨op, a, b, c, n⟩ with _ | _
        · rw [hfb] at FA hfk
          have hv := verd_form hct hlt hfk hM
          clear hh hM hfk hfb
          go_wp2_with fail
          refine (FA _).mono ?_
          rintro e w1 ⟨rfl, k1⟩
          have K1 := hK.trans k1
          have B1 := (k1.block _ (lt_of_block hB) (fun f => f)).trans hB
          clear FA d0 d1 d2 d3 d4 hK hB k1
          go_wp2_with fail
          refine (RW (k) 201 _).mono ?_
          rintro e w9 ⟨rfl, k9⟩
          have K9 := K1.trans k9
          have B9 := (k9.block _ (lt_of_block B1) (fun f => f)).trans B1
          go_wp2_with (refine wpList_store_row rfl 40 _ _ rfl w.heap.size (wrV (k) 201) rfl rfl 40 _ B9 (wr_size _ _) rfl (wr_all _ _) ?_)
          refine bodyPost_ret (wrong_ret1 rfl _ _ w.heap.size (wrV (k) 201) (setRow_heap _ _ _ _ _ _ B9) rfl rfl) rfl ?_
          have hvv := hv
          exact ⟨by rw [hvv], K9.row (Nat.le_refl _) _⟩
        · rw [hfb] at FA hfk
          have hM2 : Hid (∀ j, j < k + 1 → formF p j = false) := upto_more hM hfk
          clear hh hM hfk hfb
          go_wp2_with fail
          refine (FA _).mono ?_
          rintro e w1 ⟨rfl, k1⟩
          have K1 := hK.trans k1
          have B1 := (k1.block _ (lt_of_block hB) (fun f => f)).trans hB
          clear FA d0 d1 d2 d3 d4 hK hB k1
          go_wp2_with fail
          go_roundw
          · exact ⟨k + 1, by simp, by omega, ⟨hM2.out, K1, B1⟩⟩
          · simp [intOf]; omega
      · have hki : ¬ (k : Int) < p.length := by omega
        obtain rfl : k = p.length := by omega
        obtain ⟨hFm, hK, hB⟩ := hh.out
        have HFm : Hid (∀ j, j < p.length → formF p j = false) := hFm
        clear hh hFm
        go_wp2_with fail
        go_loopw [4] (fun m wr => ∃ k : Nat, m = .int .i64 k ∧ k ≤ p.length ∧ Hid ((∀ j, j < k → tgtF p j = false) ∧ Keeps (fun _ => False) w wr ∧ wr.heap[w.heap.size]? = some (.cells #[.int .i64 0, .int .i64 0] 40 (0, 0)))) (fun m _ => p.length - (intOf m).toNat)
        case atStart => exact ⟨0, rfl, Nat.zero_le _, ⟨fun j hj => by omega, hK, hB⟩⟩
        case round =>
          clear hK hB
          obtain ⟨k, rfl, hkl, hh⟩ := hrel
          by_cases hlt : k < p.length
          · obtain ⟨hM, hK, hB⟩ := hh.out
            have hki : (k : Int) < p.length := by omega
            obtain ⟨⟨av', cap', hv, hc⟩, -, -⟩ := HI.out wr hK
            cases hv
            obtain ⟨pg, po, rfl, d0, -, -, -, d4⟩ := hc k hlt
            have h5 : p[k]'hlt = at5 p k := by simp [at5, hlt]
            rw [h5] at d0 d4
            have hff := (formed_facts (i := at5 p k) (by simpa [formF] using HFm.out k hlt)).1
            have htk : tgtF p k = (tgtB (at5 p k).op && decide ((p.length : Int) ≤ (at5 p k).n)) := rfl
            generalize (at5 p k).op = op at *
            generalize (at5 p k).n = n at *
            obtain ⟨q0, q1⟩ := hff
            clear hc h5 hh
            by_cases hn : (p.length : Int) ≤ n
            · have hng : n ≥ (p.length : Int) := hn
              rw [decide_eq_true hn, Bool.and_true] at htk
              by_cases c8 : op = 8
              · subst c8
                have hv := verd_tgt hct HFm.out hlt htk hM
                clear hM htk
                go_wp2_with fail
                refine (RW (k) 202 _).mono ?_
                rintro e w9 ⟨rfl, k9⟩
                have K9 := hK.trans k9
                have B9 := (k9.block _ (lt_of_block hB) (fun f => f)).trans hB
                go_wp2_with (refine wpList_store_row rfl 40 _ _ rfl w.heap.size (wrV (k) 202) rfl rfl 40 _ B9 (wr_size _ _) rfl (wr_all _ _) ?_)
                refine bodyPost_ret (wrong_ret1 rfl _ _ w.heap.size (wrV (k) 202) (setRow_heap _ _ _ _ _ _ B9) rfl rfl) rfl ?_
                have hvv := hv
                exact ⟨by rw [hvv], K9.row (Nat.le_refl _) _⟩
              · have _u8 := trivial
                by_cases c9 : op = 9
                · subst c9
                  have hv := verd_tgt hct HFm.out hlt htk hM
                  clear hM htk
                  go_wp2_with fail
                  refine (RW (k) 202 _).mono ?_
                  rintro e w9 ⟨rfl, k9⟩
                  have K9 := hK.trans k9
                  have B9 := (k9.block _ (lt_of_block hB) (fun f => f)).trans hB
                  go_wp2_with (refine wpList_store_row rfl 40 _ _ rfl w.heap.size (wrV (k) 202) rfl rfl 40 _ B9 (wr_size _ _) rfl (wr_all _ _) ?_)
                  refine bodyPost_ret (wrong_ret1 rfl _ _ w.heap.size (wrV (k) 202) (setRow_heap _ _ _ _ _ _ B9) rfl rfl) rfl ?_
                  have hvv := hv
                  exact ⟨by rw [hvv], K9.row (Nat.le_refl _) _⟩
                · have _u9 := trivial
                  by_cases c16 : op = 16
                  · subst c16
                    have hv := verd_tgt hct HFm.out hlt htk hM
                    clear hM htk
                    go_wp2_with fail
                    refine (RW (k) 202 _).mono ?_
                    rintro e w9 ⟨rfl, k9⟩
                    have K9 := hK.trans k9
                    have B9 := (k9.block _ (lt_of_block hB) (fun f => f)).trans hB
                    go_wp2_with (refine wpList_store_row rfl 40 _ _ rfl w.heap.size (wrV (k) 202) rfl rfl 40 _ B9 (wr_size _ _) rfl (wr_all _ _) ?_)
                    refine bodyPost_ret (wrong_ret1 rfl _ _ w.heap.size (wrV (k) 202) (setRow_heap _ _ _ _ _ _ B9) rfl rfl) rfl ?_
                    have hvv := hv
                    exact ⟨by rw [hvv], K9.row (Nat.le_refl _) _⟩
                  · have _u16 := trivial
                    rw [tgt_no q0 q1 c8 c9 c16] at htk
                    have hM2 : Hid (∀ j, j < k + 1 → tgtF p j = false) := upto_more hM htk
                    clear hM htk
                    go_wp2_with fail
                    go_roundw
                    · exact ⟨k + 1, by simp, by omega, ⟨hM2.out, hK, hB⟩⟩
                    · simp [intOf]; omega
            · have hng : ¬ n ≥ (p.length : Int) := hn
              rw [decide_eq_false hn, Bool.and_false] at htk
              by_cases c8 : op = 8
              · subst c8
                have hM2 : Hid (∀ j, j < k + 1 → tgtF p j = false) := upto_more hM htk
                clear hM htk
                go_wp2_with fail
                go_roundw
                · exact ⟨k + 1, by simp, by omega, ⟨hM2.out, hK, hB⟩⟩
                · simp [intOf]; omega
              · have _u8 := trivial
                by_cases c9 : op = 9
                · subst c9
                  have hM2 : Hid (∀ j, j < k + 1 → tgtF p j = false) := upto_more hM htk
                  clear hM htk
                  go_wp2_with fail
                  go_roundw
                  · exact ⟨k + 1, by simp, by omega, ⟨hM2.out, hK, hB⟩⟩
                  · simp [intOf]; omega
                · have _u9 := trivial
                  by_cases c16 : op = 16
                  · subst c16
                    have hM2 : Hid (∀ j, j < k + 1 → tgtF p j = false) := upto_more hM htk
                    clear hM htk
                    go_wp2_with fail
                    go_roundw
                    · exact ⟨k + 1, by simp, by omega, ⟨hM2.out, hK, hB⟩⟩
                    · simp [intOf]; omega
                  · have _u16 := trivial
                    have hM2 : Hid (∀ j, j < k + 1 → tgtF p j = false) := upto_more hM htk
                    clear hM htk
                    go_wp2_with fail
                    go_roundw
                    · exact ⟨k + 1, by simp, by omega, ⟨hM2.out, hK, hB⟩⟩
                    · simp [intOf]; omega
          · have hki : ¬ (k : Int) < p.length := by omega
            obtain rfl : k = p.length := by omega
            obtain ⟨hT, hK, hB⟩ := hh.out
            have hv := verd_way hct HFm.out hT
            have WA := ways_any _ p wr (HI.out wr hK) (by omega) (by omega) HFm.out
            rw [← hv] at WA
            generalize hva : (verd p).1 = va at *
            generalize hvb : (verd p).2 = vb at *
            clear hh hT hv
            go_wp2_with fail
            refine WA.mono ?_
            rintro e w1 ⟨rfl, k1⟩
            have K1 := hK.trans k1
            have B1 := (k1.block _ (lt_of_block hB) (fun f => f)).trans hB
            go_wp2_with (refine wpList_store_row rfl 40 _ _ rfl w.heap.size (wrV va vb) rfl rfl 40 _ B1 (wr_size _ _) rfl (wr_all _ _) ?_)
            refine bodyPost_ret (wrong_ret1 rfl _ _ w.heap.size (wrV va vb) (setRow_heap _ _ _ _ _ _ B1) rfl rfl) rfl ?_
            exact ⟨by rw [hva, hvb], K1.row (Nat.le_refl _) _⟩
end Go.Proofs.YtljapgoeomedkaaDoor
