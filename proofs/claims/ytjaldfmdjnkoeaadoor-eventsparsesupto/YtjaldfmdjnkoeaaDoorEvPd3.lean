
/- A walk of the document's event (package parleyref13), lines of 3 words. No statement of the seat is proved here. -/
import Derived.Test.YtjaldfmdjnkoeaaDoorEvPd
namespace Go.Proofs.YtjaldfmdjnkoeaaDoor
open Go.RowKit Go.Shelf

set_option maxRecDepth 100000 in
set_option maxHeartbeats 16000000 in
theorem revent3 (s : List UInt8) (hs : s.length ≤ 1048576) (w : World) (hg : Gv w) (hlen : (wordsL s).length = 3) : Calls Tryd.prog 51 #[.string ⟨s.toArray⟩] w fun ex w' => ex = .returned (.tuple #[.agg ((readE s).getD ev0).cells, .bool (readE s).isSome]) ∧ Keeps (fun _ => False) w w' := by
  have WD := rwords_any s hs
  have HG : Hid (∀ X, Keeps (fun _ => False) w X → Gv X) := fun X k => hg.keeps k
  have NB : Hid (∀ X j, Keeps (fun _ => False) w X → Calls Tryd.prog 70 #[.string ⟨(nthW (wordsL s) j).toArray⟩] X fun ex w' => ex = .returned (.int .u64 ((parP (nthW (wordsL s) j)).1 : Int)) ∧ Keeps (fun _ => False) X w') := fun X j k => rnum_any _ (by have := nth_short s j; omega) X (HG.out X k)
  have LN : Hid (∀ X (k : Int) o, 1 ≤ k → k ≤ 12 → Keeps (fun _ => False) w X → Calls Tryd.prog 28 #[.agg (cand (wordsL s) k o).cells] X fun ex w' => ex = .returned (.tuple #[.string ⟨(lineR (cand (wordsL s) k o)).1.toArray⟩, .int .i64 (lineR (cand (wordsL s) k o)).2]) ∧ Keeps (fun _ => False) X w') := fun X k o h0 h1 q => rline_any _ (cand_wf _ o h0 h1) X (HG.out X q)
  have CY : Hid (∀ (k : Int) o, 1 ≤ k → k ≤ 12 → formedE (cand (wordsL s) k o) = true → lineL (cand (wordsL s) k o) = s → readE s = some (cand (wordsL s) k o)) := fun k o h0 h1 hf hl => cand_yes h0 h1 hf hl
  have CN : Hid (noM s 13 0 → readE s = none) := fun h => cand_no (fun k o h0 h1 => h k o h0 h1 (.inl (by omega)))
  have hb0 := parP_bound (nthW (wordsL s) 0)
  have hb2 := parP_bound (nthW (wordsL s) 2)
  have k0 := (Keeps.refl (fun _ => False) w).alloc (.cells (evV ev0) 44)
  have b0 := (MapKept.heap_alloc w (.cells (evV ev0) 44)).1
  clear hg
  go_enter Tryd.func51, Tryd.ntmps51
  go_wp2_with fail
  refine (WD _).mono ?_
  rintro ex w1 ⟨v, rfl, oW, k1⟩
  have B1 := (k1.block _ (lt_of_block b0) (fun f => f)).trans b0
  have K1 := k0.trans k1
  obtain ⟨g, cap, cur, rfl, hg, hbk, hcur⟩ := oW.at (by omega)
  have hxs : ∀ j, j < 3 → w1.cell? ⟨g, j, none⟩ = some (.string ⟨(nthW (wordsL s) j).toArray⟩) := fun j hj => by
    obtain ⟨g', off', hx, q⟩ := (oW.els sl_len).at j (by omega)
    simp only [Option.some.injEq, Addr.mk.injEq, and_true] at hx
    obtain ⟨rfl, rfl⟩ := hx
    have h1 := q 0 _ rfl
    have h2 : nthW (wordsL s) j = (wordsL s)[j]'(by omega) := by unfold nthW; rw [List.getElem?_eq_getElem (by omega)]; rfl
    rw [h2]
    simpa using h1
  have HXS : Hid (∀ X, Keeps (fun _ => False) w1 X → (∀ j, j < 3 → X.cell? ⟨g, j, none⟩ = some (.string ⟨(nthW (wordsL s) j).toArray⟩)) ∧ X.heap[w.heap.size]? = some (.cells (evV ev0) 44 (0, 0)) ∧ g < X.heap.size) := fun X k => by
    have hb := (k.block _ (lt_of_block hbk) (fun f => f))
    refine ⟨fun j hj => ?_, (k.block _ (lt_of_block B1) (fun f => f)).trans B1, Nat.lt_of_lt_of_le (lt_of_block hbk) k.size⟩
    rw [← hxs j hj]
    simp [World.cell?, hb]
  have kk := Keeps.refl (fun _ => False) w1
  rw [hlen]
  clear oW WD b0 k0 k1 hbk hcur hg hxs B1
  go_wp2_with fail
  go_loopw [5] (fun u wr => ∃ (k : Nat), u = .int .i64 k ∧ 1 ≤ k ∧ k ≤ 13 ∧ Hid (noM s k 0 ∧ Keeps (fun _ => False) w1 wr)) (fun u _ => 13 - (intOf u).toNat)
  case atStart => exact ⟨1, rfl, by omega, by omega, fun k' o h0 h1 hc => by omega, kk⟩
  case round =>
    clear kk
    obtain ⟨k, rfl, hk1, hk13, hh⟩ := hrel
    by_cases hlt : k < 13
    · have hki : (k : Int) ≤ 12 := by omega
      have hk1i : (1 : Int) ≤ k := by omega
      have HH : Hid (noM s k 0 ∧ Keeps (fun _ => False) w1 wr) := hh
      clear hh
      go_wp2_with fail
      go_loopw [6] (fun u X => ∃ (i : Nat), u = .int .i64 i ∧ i ≤ 2 ∧ Hid (noM s k i ∧ Keeps (fun _ => False) w1 X)) (fun u _ => 2 - (intOf u).toNat)
      case atStart => exact ⟨0, rfl, by omega, HH⟩
      case round =>
        clear HH
        obtain ⟨i, rfl, hi2, hh2⟩ := hrel
        by_cases hil : i < 2
        · obtain ⟨hno, kr⟩ := hh2.out
          obtain ⟨hx, hE, hgl⟩ := HXS.out _ kr
          have x0 := hx 0 (by decide)
          have hii : (i : Int) < 2 := by omega
          have Kr := K1.trans kr
          have N0 := NB.out _ 0 Kr
          obtain ⟨ob, hob⟩ : ∃ ob, ob = decide (i = 1) := ⟨_, rfl⟩
          have ho1 : ((i : Int) == 1) = ob := by rw [hob]; by_cases h : i = 1 <;> simp [h]; omega
          have ho2 : decide ((i : Int) = 1) = ob := by rw [hob]; by_cases h : i = 1 <;> simp [h]; omega
          have LN2 : Hid (∀ X, Keeps (fun _ => False) w X → _) := fun X q => LN.out X k ob hk1i hki q
          have HX0 : Hid (((lineR (cand (wordsL s) k ob)).2 = 0 → (lineR (cand (wordsL s) k ob)).1 = s → False) → Hid (∀ Z, Keeps (fun _ => False) w Z → Keeps (fun _ => False) w1 Z → Hid (noM s k (i + 1) ∧ Keeps (fun _ => False) w1 Z))) := fun hn Z _ q => ⟨hno.step hil (by
            rw [← hob]
            rintro ⟨q1, q2⟩
            refine hn ?_ ?_
            · unfold lineR; rw [q1]; rfl
            · unfold lineR; rw [q1]; exact q2), q⟩
          have HY0 : Hid ((lineR (cand (wordsL s) k ob)).2 = 0 → (lineR (cand (wordsL s) k ob)).1 = s → readE s = some (cand (wordsL s) k ob)) := fun q1 q2 => by
            unfold lineR at q1 q2
            cases hf : formedE (cand (wordsL s) k ob) with
            | false => rw [hf] at q1; simp at q1
            | true =>
              rw [hf] at q2
              exact CY.out k ob hk1i hki hf q2
          have HM0 : Hid (((lineR (cand (wordsL s) k ob)).2 = 0 ∧ (lineR (cand (wordsL s) k ob)).1 = s) ∨ ((lineR (cand (wordsL s) k ob)).2 = 0 ∧ (lineR (cand (wordsL s) k ob)).1 ≠ s) ∨ (lineR (cand (wordsL s) k ob)).2 ≠ 0) := by
            by_cases q1 : (lineR (cand (wordsL s) k ob)).2 = 0
            · by_cases q2 : (lineR (cand (wordsL s) k ob)).1 = s
              · exact .inl ⟨q1, q2⟩
              · exact .inr (.inl ⟨q1, q2⟩)
            · exact .inr (.inr q1)
          obtain ⟨t0, ht0⟩ : ∃ t0 : Int, t0 = (((parP (nthW (wordsL s) 0)).1 % 1000 : Nat) : Int) := ⟨_, rfl⟩
          obtain ⟨t5, ht5⟩ : ∃ t5 : Int, t5 = (((parP (nthW (wordsL s) 2)).1 % 100000 : Nat) : Int) := ⟨_, rfl⟩
          have hcd : cand (wordsL s) k ob = ⟨t0, (k : Int), 0, (if (k : Int) ≠ 9 then ((parP (nthW (wordsL s) 2)).1 : Int) else 0), ob, (if (k : Int) = 9 then t5 else 0)⟩ := by
            unfold cand
            rw [hlen, ht0]
            rw [ht5]; simp
          rw [hcd] at LN2 HX0 HY0 HM0
          have HX := HX0
          have HY := HY0
          have HM := HM0
          clear HX0 HY0 HM0 hcd hno hh2 hob LN CY
          generalize hlr : lineR _ = lr at LN2 HX HY HM
          clear hlr
          have tm0 : ((parP (nthW (wordsL s) 0)).1 : Int).tmod 1000 = t0 := by rw [Int.tmod_eq_emod_of_nonneg (by omega), ht0]; rfl
          have tm1 : ((parP (nthW (wordsL s) 0)).1 : Int) % 1000 = t0 := by rw [ht0]; rfl
          have wr0 : IntKind.i64.wrap t0 = t0 := by rw [IntKind.wrap_i64, ht0]; omega
          have wu0 : IntKind.u64.wrap t0 = t0 := by rw [IntKind.wrap_u64, ht0]; omega
          have tm2 : ((parP (nthW (wordsL s) 2)).1 : Int).tmod 100000 = t5 := by rw [Int.tmod_eq_emod_of_nonneg (by omega), ht5]; rfl
          have tm3 : ((parP (nthW (wordsL s) 2)).1 : Int) % 100000 = t5 := by rw [ht5]; rfl
          have wr2 : IntKind.i64.wrap t5 = t5 := by rw [IntKind.wrap_i64, ht5]; omega
          have wu2 : IntKind.u64.wrap t5 = t5 := by rw [IntKind.wrap_u64, ht5]; omega
          clear ht0 ht5
          by_cases h9 : (k : Int) = 9
          · rw [if_neg (fun q => q h9), if_pos h9] at LN2 HY
            have hd9 : ((k : Int) == 9) = true := by simpa using h9
            have hd8 : decide ((k : Int) = 9) = true := decide_eq_true h9
            have H9 : Hid ((k : Int) = 9) := h9
            clear h9
            go_wp2_with fail
            refine N0.mono ?_
            rintro ex w2 ⟨rfl, k2⟩
            have K2 := Kr.trans k2
            have ka := (Keeps.refl (fun _ => False) w2).alloc (.cells #[.int .i64 t0, .int .i64 (k : Int), .int .u64 0, .int .u64 0, .bool ob, .int .i64 0] 44)
            have ba := (MapKept.heap_alloc w2 (.cells #[.int .i64 t0, .int .i64 (k : Int), .int .u64 0, .int .u64 0, .bool ob, .int .i64 0] 44)).1
            have hE2 := (ka.block _ (lt_of_block ((k2.block _ (lt_of_block hE) (fun f => f)).trans hE)) (fun f => f)).trans ((k2.block _ (lt_of_block hE) (fun f => f)).trans hE)
            have hne : ¬ w.heap.size = w2.heap.size := by have := lt_of_block ((k2.block _ (lt_of_block hE) (fun f => f)).trans hE); omega
            have hgne : ¬ g = w2.heap.size := by have := k2.size; omega
            have KA := K2.trans ka
            have kA := (kr.trans k2).trans ka
            clear x0 N0 hE
            obtain ⟨d0, d1, d2, d3, d4, d5⟩ := blk6' ba
            have x2 := (HXS.out _ kA).1 2 (by decide)
            have N2 := NB.out _ 2 KA
            clear d0 d1 d2 d3 d4 d5
            go_wp2_with fail
            refine N2.mono ?_
            rintro ex w3 ⟨rfl, k3⟩
            have b3 := (k3.block _ (lt_of_block ba) (fun f => f)).trans ba
            have E3 := (k3.block _ (lt_of_block hE2) (fun f => f)).trans hE2
            obtain ⟨d0, d1, d2, d3, d4, d5⟩ := blk6' b3
            have fz : w3.frozen? ⟨w2.heap.size, 5, none⟩ = false := frozen_of_block b3 _
            have BX : (w3.setCell ⟨w2.heap.size, 5, none⟩ (.int .i64 t5)).heap[w2.heap.size]? = some (.cells #[.int .i64 t0, .int .i64 (k : Int), .int .u64 0, .int .u64 0, .bool ob, .int .i64 t5] 44 (0, 0)) := block_set b3 5 (.int .i64 t5)
            have EX : (w3.setCell ⟨w2.heap.size, 5, none⟩ (.int .i64 t5)).heap[w.heap.size]? = some (.cells (evV ev0) 44 (0, 0)) := ((Keeps.setCell (S := fun q => q = w2.heap.size) (Keeps.refl _ w3) (.inr rfl) (.int .i64 t5)).block _ (lt_of_block E3) (fun e => hne e)).trans E3
            have kB : Keeps (fun _ => False) w1 (w3.setCell ⟨w2.heap.size, 5, none⟩ (.int .i64 t5)) := (kA.trans k3).setCell (.inl (by have := (kr.trans k2).size; omega)) _
            have KX : Keeps (fun _ => False) w (w3.setCell ⟨w2.heap.size, 5, none⟩ (.int .i64 t5)) := K1.trans kB
            clear ba hE2 KA kA x2 N2 b3 E3
            obtain ⟨c0, c1, c2, c3, c4, c5⟩ := blk6' BX
            rcases HM.out with ⟨hle, hls⟩ | ⟨hle, hls⟩ | hle
            · have ee : lr.1 = s := hls
              have LN1 := LN2.out _ KX
              obtain ⟨ls, le⟩ := lr
              dsimp only at ee hle LN1
              have HF := HY.out hle ee
              rw [ee, hle] at LN1
              go_wp2_with fail
              refine LN1.mono ?_
              rintro ex w4 ⟨rfl, k4⟩
              have KY := KX.trans k4
              have BY := (k4.block _ (lt_of_block BX) (fun f => f)).trans BX
              have EY := (k4.block _ (lt_of_block EX) (fun f => f)).trans EX
              clear c0 c1 c2 c3 c4 c5
              obtain ⟨c0, c1, c2, c3, c4, c5⟩ := blk6' BY
              have HFH : Hid _ := HF
              clear HF
              go_wp2_with (refine wpList_store_row rfl 44 _ _ rfl w.heap.size (evV ⟨t0, (k : Int), 0, 0, ob, t5⟩) rfl rfl 44 _ EY (ev_size ⟨t0, (k : Int), 0, 0, ob, t5⟩) rfl (ev_all ⟨t0, (k : Int), 0, 0, ob, t5⟩) ?_)
              refine bodyPost_ret (ev_ret rfl _ _ w.heap.size (evV ⟨t0, (k : Int), 0, 0, ob, t5⟩) (setRow_heap _ _ _ _ _ _ EY) rfl rfl) rfl ?_
              exact ⟨by rw [HFH.out]; rfl, KY.row (Nat.le_refl _) _⟩
            · have LN1 := LN2.out _ KX
              obtain ⟨ls, le⟩ := lr
              dsimp only at hle hls LN1
              subst hle
              have hq3 : (ls == s) = false := by simpa using hls
              have HN := HX.out (fun _ h => hls h)
              go_wp2_with fail
              refine LN1.mono ?_
              rintro ex w4 ⟨rfl, k4⟩
              have FN := HN.out _ (KX.trans k4) ((kB.trans k4))
              go_wp2_with fail
              go_roundw
              · exact ⟨i + 1, by simp, by omega, FN⟩
              · simp [intOf]; omega
            · have LN1 := LN2.out _ KX
              obtain ⟨ls, le⟩ := lr
              dsimp only at hle LN1
              have hq : (le == 0) = false := by simpa using hle
              have HN := HX.out (fun h _ => absurd h hle)
              go_wp2_with fail
              refine LN1.mono ?_
              rintro ex w4 ⟨rfl, k4⟩
              have FN := HN.out _ (KX.trans k4) ((kB.trans k4))
              go_wp2_with fail
              go_roundw
              · exact ⟨i + 1, by simp, by omega, FN⟩
              · simp [intOf]; omega
          · rw [if_pos h9, if_neg h9] at LN2 HY
            have hd9 : ((k : Int) == 9) = false := by simpa using h9
            go_wp2_with fail
            refine N0.mono ?_
            rintro ex w2 ⟨rfl, k2⟩
            have K2 := Kr.trans k2
            have ka := (Keeps.refl (fun _ => False) w2).alloc (.cells #[.int .i64 t0, .int .i64 (k : Int), .int .u64 0, .int .u64 0, .bool ob, .int .i64 0] 44)
            have ba := (MapKept.heap_alloc w2 (.cells #[.int .i64 t0, .int .i64 (k : Int), .int .u64 0, .int .u64 0, .bool ob, .int .i64 0] 44)).1
            have hE2 := (ka.block _ (lt_of_block ((k2.block _ (lt_of_block hE) (fun f => f)).trans hE)) (fun f => f)).trans ((k2.block _ (lt_of_block hE) (fun f => f)).trans hE)
            have hne : ¬ w.heap.size = w2.heap.size := by have := lt_of_block ((k2.block _ (lt_of_block hE) (fun f => f)).trans hE); omega
            have hgne : ¬ g = w2.heap.size := by have := k2.size; omega
            have KA := K2.trans ka
            have kA := (kr.trans k2).trans ka
            clear x0 N0 hE
            obtain ⟨d0, d1, d2, d3, d4, d5⟩ := blk6' ba
            have x2 := (HXS.out _ kA).1 2 (by decide)
            have N2 := NB.out _ 2 KA
            clear d0 d1 d2 d3 d4 d5
            go_wp2_with fail
            refine N2.mono ?_
            rintro ex w3 ⟨rfl, k3⟩
            have b3 := (k3.block _ (lt_of_block ba) (fun f => f)).trans ba
            have E3 := (k3.block _ (lt_of_block hE2) (fun f => f)).trans hE2
            obtain ⟨d0, d1, d2, d3, d4, d5⟩ := blk6' b3
            have fz : w3.frozen? ⟨w2.heap.size, 3, none⟩ = false := frozen_of_block b3 _
            have BX : (w3.setCell ⟨w2.heap.size, 3, none⟩ (.int .u64 ((parP (nthW (wordsL s) 2)).1 : Int))).heap[w2.heap.size]? = some (.cells #[.int .i64 t0, .int .i64 (k : Int), .int .u64 0, .int .u64 ((parP (nthW (wordsL s) 2)).1 : Int), .bool ob, .int .i64 0] 44 (0, 0)) := block_set b3 3 (.int .u64 ((parP (nthW (wordsL s) 2)).1 : Int))
            have EX : (w3.setCell ⟨w2.heap.size, 3, none⟩ (.int .u64 ((parP (nthW (wordsL s) 2)).1 : Int))).heap[w.heap.size]? = some (.cells (evV ev0) 44 (0, 0)) := ((Keeps.setCell (S := fun q => q = w2.heap.size) (Keeps.refl _ w3) (.inr rfl) (.int .u64 ((parP (nthW (wordsL s) 2)).1 : Int))).block _ (lt_of_block E3) (fun e => hne e)).trans E3
            have kB : Keeps (fun _ => False) w1 (w3.setCell ⟨w2.heap.size, 3, none⟩ (.int .u64 ((parP (nthW (wordsL s) 2)).1 : Int))) := (kA.trans k3).setCell (.inl (by have := (kr.trans k2).size; omega)) _
            have KX : Keeps (fun _ => False) w (w3.setCell ⟨w2.heap.size, 3, none⟩ (.int .u64 ((parP (nthW (wordsL s) 2)).1 : Int))) := K1.trans kB
            clear ba hE2 KA kA x2 N2 b3 E3
            obtain ⟨c0, c1, c2, c3, c4, c5⟩ := blk6' BX
            rcases HM.out with ⟨hle, hls⟩ | ⟨hle, hls⟩ | hle
            · have ee : lr.1 = s := hls
              have LN1 := LN2.out _ KX
              obtain ⟨ls, le⟩ := lr
              dsimp only at ee hle LN1
              have HF := HY.out hle ee
              rw [ee, hle] at LN1
              go_wp2_with fail
              refine LN1.mono ?_
              rintro ex w4 ⟨rfl, k4⟩
              have KY := KX.trans k4
              have BY := (k4.block _ (lt_of_block BX) (fun f => f)).trans BX
              have EY := (k4.block _ (lt_of_block EX) (fun f => f)).trans EX
              clear c0 c1 c2 c3 c4 c5
              obtain ⟨c0, c1, c2, c3, c4, c5⟩ := blk6' BY
              have HFH : Hid _ := HF
              clear HF
              go_wp2_with (refine wpList_store_row rfl 44 _ _ rfl w.heap.size (evV ⟨t0, (k : Int), 0, ((parP (nthW (wordsL s) 2)).1 : Int), ob, 0⟩) rfl rfl 44 _ EY (ev_size ⟨t0, (k : Int), 0, ((parP (nthW (wordsL s) 2)).1 : Int), ob, 0⟩) rfl (ev_all ⟨t0, (k : Int), 0, ((parP (nthW (wordsL s) 2)).1 : Int), ob, 0⟩) ?_)
              refine bodyPost_ret (ev_ret rfl _ _ w.heap.size (evV ⟨t0, (k : Int), 0, ((parP (nthW (wordsL s) 2)).1 : Int), ob, 0⟩) (setRow_heap _ _ _ _ _ _ EY) rfl rfl) rfl ?_
              exact ⟨by rw [HFH.out]; rfl, KY.row (Nat.le_refl _) _⟩
            · have LN1 := LN2.out _ KX
              obtain ⟨ls, le⟩ := lr
              dsimp only at hle hls LN1
              subst hle
              have hq3 : (ls == s) = false := by simpa using hls
              have HN := HX.out (fun _ h => hls h)
              go_wp2_with fail
              refine LN1.mono ?_
              rintro ex w4 ⟨rfl, k4⟩
              have FN := HN.out _ (KX.trans k4) ((kB.trans k4))
              go_wp2_with fail
              go_roundw
              · exact ⟨i + 1, by simp, by omega, FN⟩
              · simp [intOf]; omega
            · have LN1 := LN2.out _ KX
              obtain ⟨ls, le⟩ := lr
              dsimp only at hle LN1
              have hq : (le == 0) = false := by simpa using hle
              have HN := HX.out (fun h _ => absurd h hle)
              go_wp2_with fail
              refine LN1.mono ?_
              rintro ex w4 ⟨rfl, k4⟩
              have FN := HN.out _ (KX.trans k4) ((kB.trans k4))
              go_wp2_with fail
              go_roundw
              · exact ⟨i + 1, by simp, by omega, FN⟩
              · simp [intOf]; omega
        · obtain rfl : i = 2 := by omega
          have HH2 : Hid (noM s (k + 1) 0 ∧ Keeps (fun _ => False) w1 _) := ⟨hh2.out.1.next, hh2.out.2⟩
          clear hh2
          go_wp2_with fail
          go_roundw
          · exact ⟨k + 1, by simp, by omega, by omega, HH2⟩
          · simp [intOf]; omega
    · obtain rfl : k = 13 := by omega
      obtain ⟨hno, kr⟩ := hh.out
      have B2 := (HXS.out _ kr).2.1
      have HN : readE s = none := CN.out hno
      have HNH : Hid (readE s = none) := HN
      have Kr := K1.trans kr
      clear hh hno HN
      go_wp2_with (refine wpList_store_row rfl 44 _ _ rfl w.heap.size (evV ev0) rfl rfl 44 _ B2 (ev_size _) rfl (ev_all _) ?_)
      refine bodyPost_ret (ev_ret rfl _ _ w.heap.size (evV ev0) (setRow_heap _ _ _ _ _ _ B2) rfl rfl) rfl ?_
      exact ⟨by rw [HNH.out]; rfl, Kr.row (Nat.le_refl _) _⟩
end Go.Proofs.YtjaldfmdjnkoeaaDoor
