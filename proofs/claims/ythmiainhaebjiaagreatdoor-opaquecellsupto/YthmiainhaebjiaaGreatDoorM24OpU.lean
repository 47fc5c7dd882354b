/-
  No statement of the seat is proved here. (Several texts in one: OpU, OpX.)
-/
import Derived.Test.YthmiainhaebjiaaGreatDoorM23OpS

/- A walk of Behind (layer 16) where a history is one here. No statement of the seat is proved here. -/
namespace Go.Proofs.YthmiainhaebjiaaGreatDoor
open Go.RowKit Go.Shelf

set_option maxRecDepth 100000 in
set_option maxHeartbeats 8000000 in
theorem behind_ok (va : Option Addr) (vc : Nat) (F : List Int) (v : Value) (L : List Ev) (hl : L.length ≤ 1050000) (w : World) (hv : EvsAt w v L) (hF : WsAt w (.slice va F.length vc) F) (hg : Gv w) (h8 : 2 ≤ w.heap.size) (hF0 : 0 < F.length) (hF1 : F.length ≤ 65536) (hz : (checkL L).2 = 0) (hp : idxF plainE L 0 = -1) (hm : idxF (missE F.length) L 0 = -1) (W : List Pt) (hW : WrOf (partsL L) W) (n : Nat) (hn : n ≤ W.length) :
    Calls Tryz.prog 6 #[.slice va F.length vc, v, .int .i64 (n : Int)] w fun ex w' => ∃ u, ex = .returned (.tuple #[u, .agg (odV (-1) 0)]) ∧ WR w' w.heap.size u (stN F W n) ∧ Keeps (fun _ => False) w w' := by
  have k0 := (Keeps.refl (fun _ => False) w).alloc (.cells (odV 0 0) 31)
  have b0 : (w.alloc (.cells (odV 0 0) 31)).heap[w.heap.size]? = some (.cells (odV 0 0) 31 (0, 0)) := (MapKept.heap_alloc w _).1
  have LK := look_ok va vc F v L hl (w.alloc (.cells (odV 0 0) 31)) (hv.keeps k0) (hF.keeps wC_ne k0) (hg.keeps k0) (by simp; omega) hF0 hF1 hz hp hm
  obtain ⟨a1, cap1, rfl, hcap⟩ := hv.els.shape
  have HFs : Hid (∀ X, Keeps (fun _ => False) w X → WsAt X (.slice va F.length vc) F) := fun X k => hF.keeps wC_ne k
  unfold odV at k0 b0 LK
  clear hv hF hg
  go_enter Tryz.func6, Tryz.ntmps6
  go_wp2_with fail
  refine LK.mono ?_
  rintro ex w1 ⟨pb, mb, b2, vT, vB, vW, X, Y, f, rfl, hPa, hX, hu, k1⟩
  clear LK
  have hYW := pua_wr hu hX hW
  have hYl : Y.length = W.length := by rw [← hYW, List.length_map]
  have kA := (Keeps.refl (fun _ => False) w1).alloc (.cells #[.int .i64 (-1), .int .i64 0] 31)
  have bA := (MapKept.heap_alloc w1 (.cells #[.int .i64 (-1), .int .i64 0] 31)).1
  have bO := ((k1.trans kA).block _ (lt_of_block b0) (fun f => f)).trans b0
  have K1 := (k0.trans k1).trans kA
  have hPA := hPa.keeps kA
  have hlt := lt_of_block ((k1.block _ (lt_of_block b0) (fun f => f)).trans b0)
  obtain ⟨wa, wc, hvW⟩ : ∃ a c, vW = .slice a W.length c := by
    obtain ⟨a, c, e, _⟩ := hPA.wr.shape
    exact ⟨a, c, by rw [e, hYl]⟩
  have p3 : (w1.alloc (.cells #[.int .i64 (-1), .int .i64 0] 31)).cell? ⟨pb, 3, none⟩ = some (.slice wa W.length wc) := by rw [cell_of_block hPA.blk, hvW]; rfl
  have hsA : (w1.alloc (.cells #[.int .i64 (-1), .int .i64 0] 31)).heap.size = w1.heap.size + 1 := by simp
  have p3' : w1.cell? ⟨pb, 3, none⟩ = some (.slice wa W.length wc) := by rw [cell_of_block hPa.blk, hvW]; rfl
  have hwc : W.length ≤ wc := by
    obtain ⟨a, c, e, hc⟩ := hPA.wr.shape
    rw [hvW] at e
    injection e with _ _ e
    omega
  have e0 : (w1.alloc (.cells #[.int .i64 (-1), .int .i64 0] 31)).cell? ⟨w1.heap.size, 1, none⟩ = some (.int .i64 0) := by rw [cell_of_block bA]; rfl
  have CL := clone_any va vc F hF0 hF1 _ (HFs.out _ K1)
  have hn0 : ¬ (n : Int) < 0 := by omega
  have hn1 : ¬ (n : Int) > (W.length : Int) := by omega
  have hsl : ∀ X : World, (Instr.slice 65 (.slice wa W.length wc) none (some (.int .i64 (n : Int))) none).run Tryz.prog X = .ok (.slice wa n wc) X := fun X => run_uptoT Tryz.underlying65 info_blk X _ _ _ _ (by omega)
  obtain ⟨A, hA⟩ : ∃ A, A = w1.alloc (.cells #[.int .i64 (-1), .int .i64 0] 31) := ⟨_, rfl⟩
  rw [← hA] at bA bO K1 hPA CL hsA
  have HA : Hid (A = _) := hA
  have HU : Hid (PuA F (triesL L) X Y ∧ Y.map (·.p) = W) := ⟨hu, hYW⟩
  rw [hvW] at hPA
  have HP : Hid (∀ Z, Keeps (fun _ => False) A Z → PaAt Z pb mb b2 (.slice va F.length vc) vT vB (.slice wa W.length wc) F (triesL L) X Y f) := fun Z k => hPA.keeps k
  have hWl : W.length ≤ 1050000 := by have := hu.yl; omega
  have HB7 : Hid (A.heap[w1.heap.size]? = some (.cells #[.int .i64 (-1), .int .i64 0] 31 (0, 0)) ∧ A.heap[w.heap.size]? = some (.cells #[.int .i64 0, .int .i64 0] 31 (0, 0)) ∧ Keeps (fun _ => False) w A) := ⟨bA, bO, K1⟩
  clear hPa hPA hu hX hYW k0 k1 b0 kA K1 bA bO
  unfold odV
  go_wp2_with fail
  rw [← hA]
  clear hA HA e0 p3' p3
  refine CL.mono ?_
  rintro ex A2 ⟨cv, rfl, hcv, k2⟩
  clear CL
  obtain ⟨gc, cc, cur, rfl, hbg, hgb, _⟩ := hcv.at hF0
  have HP2 : Hid (∀ Z, Keeps (fun q => q = gc) A2 Z → PaAt Z pb mb b2 (.slice va F.length vc) vT vB (.slice wa W.length wc) F (triesL L) X Y f) := fun Z k => HP.out Z (k2.young k (fun q e => by omega))
  have p3 : A2.cell? ⟨pb, 3, none⟩ = some (.slice wa W.length wc) := by rw [cell_of_block (HP.out A2 k2).blk]; rfl
  clear hgb
  go_wp2_with fail
  clear p3 hsl
  go_loopw [46] (fun u wr => ∃ (k : Nat), u = .int .i64 k ∧ k ≤ n ∧ Hid (WR wr A.heap.size (.slice (some ⟨gc, 0, none⟩) F.length cc) (stN F W k)) ∧ Keeps (fun q => q = gc) A2 wr) (fun u _ => n - (intOf u).toNat)
  case atStart => exact ⟨0, rfl, Nat.zero_le _, hcv, Keeps.refl _ _⟩
  case round =>
    clear hcv
    obtain ⟨W1, hW1⟩ : ∃ W1, W1 = wr := ⟨_, rfl⟩
    subst hW1
    obtain ⟨k, rfl, hk, hst, kk⟩ := hrel
    by_cases hltk : k < n
    · have hki : (k : Int) < n := by omega
      have hk0 : (0 : Int) ≤ k := by omega
      have hkW : k < W.length := by omega
      have hkY : k < Y.length := by omega
      obtain ⟨g, off, hwa, hc⟩ := (HP2.out W1 kk).wr.at k hkY
      subst hwa
      have hyX := HU.out.1.yX (List.getElem_mem hkY)
      have HWn : Hid (∀ Z, Keeps (fun q => q = gc) A2 Z → ElsAt enC 3 Z (Y[k]).s.v (Y[k]).p.ws) := fun Z kz => (HP2.out Z kz).wt _ hyX
      have hwn := (HU.out.1.rl _ hyX).2
      have HIn : Hid (∀ e ∈ (Y[k]).p.ws, 0 ≤ e.1 ∧ e.1 < (F.length : Int)) := (HU.out.1.inr _ hyX).2
      have HSn : Hid (stN F W (k + 1) = wrt (stN F W k) (Y[k]).p.ws) := by
        have h1 : W[k] = (Y[k]).p := by
          have h2 := HU.out.2
          subst h2
          rw [List.getElem_map]
        rw [← h1]
        exact stN_succ F W k hkW
      generalize hy : Y[k]'hkY = y at *
      clear hy hyX
      obtain ⟨⟨pth, pkd, pfi, pla, pnu, pwr, per, prs, pws, psi, plk⟩, ⟨ra, rn, rc⟩, ⟨sa, sn, sc⟩⟩ := y
      dsimp only [Sl.v] at HWn HIn HSn hwn
      obtain ⟨sa', cap', hsv, hcap'⟩ := (HWn.out W1 kk).shape
      injection hsv with e1 e2 e3
      subst e1 e2 e3
      have y0 := hc 0 _ rfl
      have y1 := hc 1 _ rfl
      have y2 := hc 2 _ rfl
      have y3 := hc 3 _ rfl
      have y4 := hc 4 _ rfl
      have y5 := hc 5 _ rfl
      have y6 := hc 6 _ rfl
      have y7 := hc 7 _ rfl
      have y8 := hc 8 _ rfl
      dsimp only at y0 y1 y2 y3 y4 y5 y6 y7 y8
      simp only [Nat.add_zero] at y0
      have kA := kk.trans (((Keeps.refl (fun _ => False) W1).alloc (.cells #[.int .i64 pth, .int .i64 pkd, .int .i64 pfi, .int .i64 pla, .int .u64 pnu, .bool pwr, .int .i64 per, .slice ra rn rc, .slice sa pws.length sc] 73)).mono fun _ _ f => f.elim)
      have ST1 : Hid (WR (W1.alloc (.cells #[.int .i64 pth, .int .i64 pkd, .int .i64 pfi, .int .i64 pla, .int .u64 pnu, .bool pwr, .int .i64 per, .slice ra rn rc, .slice sa pws.length sc] 73)) A.heap.size (.slice (some ⟨gc, 0, none⟩) F.length cc) (wrt (stN F W k) (pws.take 0))) := hst.out.keeps ((Keeps.refl (fun _ => False) W1).alloc (.cells #[.int .i64 pth, .int .i64 pkd, .int .i64 pfi, .int .i64 pla, .int .u64 pnu, .bool pwr, .int .i64 per, .slice ra rn rc, .slice sa pws.length sc] 73)) (fun _ _ f => f)
      clear hst hc
      go_wp2_with fail
      clear y0 y1 y2 y3 y4 y5 y6 y7 y8
      go_loopw [53] (fun u wr => ∃ (j : Nat), u = .int .i64 j ∧ j ≤ pws.length ∧ Hid (WR wr A.heap.size (.slice (some ⟨gc, 0, none⟩) F.length cc) (wrt (stN F W k) (pws.take j))) ∧ Keeps (fun q => q = gc) A2 wr) (fun u _ => pws.length - (intOf u).toNat)
      case atStart => exact ⟨0, rfl, Nat.zero_le _, ST1, kA⟩
      case round =>
        clear ST1 kA
        obtain ⟨j, rfl, hj, hst, kj⟩ := hrel
        by_cases hltj : j < pws.length
        · have hji : (j : Int) < pws.length := by omega
          have hj0 : (0 : Int) ≤ j := by omega
          obtain ⟨g2, off2, rfl, hc⟩ := (HWn.out wr kj).at j hltj
          have hine := HIn.out _ (List.getElem_mem hltj)
          have htk : pws.take (j + 1) = pws.take j ++ [pws[j]] := List.take_succ_eq_append_getElem hltj
          have hpu := wrt_push (stN F W k) (pws.take j) (pws[j])
          rw [← htk] at hpu
          have hlen : (wrt (stN F W k) (pws.take j)).length = F.length := by rw [wrt_len, stN_len]
          generalize hx : pws[j]'hltj = x at *
          clear hx
          obtain ⟨ad, wd⟩ := x
          dsimp only at hine hpu
          obtain ⟨an, han⟩ := Int.eq_ofNat_of_zero_le hine.1
          subst han
          rw [Int.toNat_natCast] at hpu
          have y0 := hc 0 _ rfl
          have y1 := hc 1 _ rfl
          have y2 := hc 2 _ rfl
          dsimp only at y0 y1 y2
          simp only [Nat.add_zero] at y0
          have kB := (Keeps.refl (fun _ => False) wr).alloc (.cells #[.int .u64 (an : Int), .int .u64 wd, .bool false] 75)
          have oB := hst.out.keeps kB (fun _ _ f => f)
          have r1 := oB.set wC_len an 0 wd (.int .u64 wd) (by omega) (by decide) rfl
          rw [Nat.mul_one, Nat.add_zero, ← hpu] at r1
          have kS := (Keeps.refl (fun q => q = gc) (wr.alloc (.cells #[.int .u64 (an : Int), .int .u64 wd, .bool false] 75))).setCell (p := ⟨gc, an, none⟩) (.inr rfl) (.int .u64 wd)
          obtain ⟨g', off', hgg, hcc⟩ := (hst.out.els wC_len).at an (by omega)
          simp only [Option.some.injEq, Addr.mk.injEq, and_true] at hgg
          obtain ⟨rfl, rfl⟩ := hgg
          have z0 := hcc 0 _ rfl
          rw [Nat.mul_one, Nat.add_zero, Nat.zero_add] at z0
          obtain ⟨cs, hcb⟩ := hst.out.cells (q := gc) rfl
          have fz : wr.frozen? ⟨gc, an, none⟩ = false := frozen_of_block hcb _
          have hgw : gc < wr.heap.size := lt_of_block hcb
          have HF : Hid (WR ((wr.setCell ⟨gc, an, none⟩ (.int .u64 wd)).alloc (.cells #[.int .u64 (an : Int), .int .u64 wd, .bool false] 75)) A.heap.size (.slice (some ⟨gc, 0, none⟩) F.length cc) (wrt (stN F W k) (pws.take (j + 1))) ∧ Keeps (fun q => q = gc) A2 ((wr.setCell ⟨gc, an, none⟩ (.int .u64 wd)).alloc (.cells #[.int .u64 (an : Int), .int .u64 wd, .bool false] 75))) := by
            have r0 := hst.out.set wC_len an 0 wd (.int .u64 wd) (by omega) (by decide) rfl
            rw [Nat.mul_one, Nat.add_zero, ← hpu] at r0
            have kS0 := (Keeps.refl (fun q => q = gc) wr).setCell (p := ⟨gc, an, none⟩) (.inr rfl) (.int .u64 wd)
            exact ⟨r0.keeps ((Keeps.refl (fun _ => False) _).alloc _) (fun _ _ f => f), (kj.trans kS0).trans (((Keeps.refl (fun _ => False) _).alloc _).mono fun _ _ f => f.elim)⟩
          obtain ⟨oldv, hov⟩ : ∃ x, x = (wrt (stN F W k) (pws.take j))[an]'(by omega) := ⟨_, rfl⟩
          rw [← hov] at z0
          have hai : (an : Int) < (F.length : Int) := hine.2
          have ha0 : (0 : Int) ≤ (an : Int) := hine.1
          clear hov hst hc hine htk hpu hlen kB oB r1 kS hcc hcb
          go_wp2_with fail
          go_roundw
          · exact ⟨j + 1, by simp, by omega, HF.out.1, HF.out.2⟩
          · simp [intOf]; omega
        · obtain rfl : j = pws.length := by omega
          have HF : Hid (WR wr A.heap.size (.slice (some ⟨gc, 0, none⟩) F.length cc) (stN F W (k + 1))) := by rw [HSn.out]; have := hst.out; rw [List.take_length] at this; exact this
          clear hst
          go_wp2_with fail
          go_roundw
          · exact ⟨k + 1, by simp, by omega, HF.out, kj⟩
          · simp [intOf]; omega
    · obtain rfl : k = n := by omega
      obtain ⟨b7, bO, K1⟩ := HB7.out
      have KAW : Keeps (fun q => q = gc) A W1 := (k2.mono fun _ _ f => f.elim).trans kk
      have b7' := (KAW.block _ (lt_of_block b7) (by have := lt_of_block b7; omega)).trans b7
      have bO' := (KAW.block _ (lt_of_block bO) (by have := lt_of_block bO; omega)).trans bO
      have hS0 : W1.cell? ⟨w1.heap.size, 0, none⟩ = some (.int .i64 (-1)) ∧ W1.cell? ⟨w1.heap.size, 1, none⟩ = some (.int .i64 0) := ⟨by rw [cell_of_block b7']; rfl, by rw [cell_of_block b7']; rfl⟩
      have c0 : W1.cell? ⟨w.heap.size, 0, none⟩ = some (.int .i64 0) := by rw [cell_of_block bO']; rfl
      have c1 : W1.cell? ⟨w.heap.size, 1, none⟩ = some (.int .i64 0) := by rw [cell_of_block bO']; rfl
      have f0 : W1.frozen? ⟨w.heap.size, 0, none⟩ = false := frozen_of_block bO' _
      have f1 : W1.frozen? ⟨w.heap.size, 1, none⟩ = false := frozen_of_block bO' _
      have hne : ¬ w.heap.size = w1.heap.size := by omega
      have BE : Hid (((W1.setCell ⟨w.heap.size, 0, none⟩ (.int .i64 (-1))).setCell ⟨w.heap.size, 1, none⟩ (.int .i64 0)).heap[w.heap.size]? = some (.cells #[.int .i64 (-1), .int .i64 0] 31 (0, 0))) := block_set (block_set bO' 0 (.int .i64 (-1))) 1 (.int .i64 0)
      have kE := (((Keeps.refl (fun q => q = w.heap.size) W1).setCell (p := ⟨w.heap.size, 0, none⟩) (.inr rfl) (.int .i64 (-1))).setCell (p := ⟨w.heap.size, 1, none⟩) (.inr rfl) (.int .i64 0)).drew
      have hAw := K1.size
      have HF : Hid (WR ((W1.setCell ⟨w.heap.size, 0, none⟩ (.int .i64 (-1))).setCell ⟨w.heap.size, 1, none⟩ (.int .i64 0)).drew w.heap.size (.slice (some ⟨gc, 0, none⟩) F.length cc) (stN F W k) ∧ Keeps (fun _ => False) w ((W1.setCell ⟨w.heap.size, 0, none⟩ (.int .i64 (-1))).setCell ⟨w.heap.size, 1, none⟩ (.int .i64 0)).drew) := ⟨(hst.out.keeps kE (fun q hq e => by simp only [Value.ownBlock, Option.some.injEq] at hq; omega)).low hAw, (K1.young KAW (fun q e => by omega)).young kE (fun q e => by omega)⟩
      clear hst b7 bO K1 KAW b7' bO' kE
      go_wp2_with fail
      go_region_held3 (fun W : World => W.cell? ⟨w1.heap.size, 0, none⟩ = some (.int .i64 (-1)) ∧ W.cell? ⟨w1.heap.size, 1, none⟩ = some (.int .i64 0)) (first | assumption | (exact hS0) | go_keep) (fail)
      go_wp2_with fail
      refine bodyPost_ret (odd_ret2 rfl _ _ w.heap.size #[.int .i64 (-1), .int .i64 0] BE.out rfl rfl) rfl ?_
      exact ⟨_, rfl, HF.out⟩
end Go.Proofs.YthmiainhaebjiaaGreatDoor


/- Walks of look (layer 16) where a history is none here. No statement of the seat is proved here. -/
namespace Go.Proofs.YthmiainhaebjiaaGreatDoor
open Go.RowKit Go.Shelf

set_option maxRecDepth 100000 in
set_option maxHeartbeats 8000000 in
theorem look_arg (va : Option Addr) (vc : Nat) (F : List Int) (v : Value) (L : List Ev) (w : World) (hv : EvsAt w v L) (_hF : WsAt w (.slice va F.length vc) F) (ha : F.length = 0 ∨ 65536 < F.length) :
    Calls Tryz.prog 21 #[.slice va F.length vc, v] w fun ex w' => ex = .returned (.tuple #[.pointer none, .agg (odV (-1) 2)]) ∧ Keeps (fun _ => False) w w' := by
  have k0 := (Keeps.refl (fun _ => False) w).alloc (.cells #[.int .i64 (-1), .int .i64 2] 31)
  have b0 := (MapKept.heap_alloc w (.cells #[.int .i64 (-1), .int .i64 2] 31)).1
  obtain ⟨a1, cap1, rfl, hcap⟩ := hv.els.shape
  unfold odV
  clear hv
  by_cases h0 : F.length = 0
  · rw [h0]
    clear ha h0
    go_enter Tryz.func21, Tryz.ntmps21
    go_wp2_with fail
    refine bodyPost_ret (odd_ret2 rfl _ _ w.heap.size #[.int .i64 (-1), .int .i64 2] b0 rfl rfl) rfl ?_
    exact ⟨rfl, k0⟩
  · have h1 : ((F.length : Int) == 0) = false := by rw [beq_eq_false_iff_ne]; omega
    have h2 : (F.length : Int) > 65536 := by omega
    clear ha h0
    go_enter Tryz.func21, Tryz.ntmps21
    go_wp2_with fail
    refine bodyPost_ret (odd_ret2 rfl _ _ w.heap.size #[.int .i64 (-1), .int .i64 2] b0 rfl rfl) rfl ?_
    exact ⟨rfl, k0⟩
set_option maxRecDepth 100000 in
set_option maxHeartbeats 8000000 in
theorem look_odd (va : Option Addr) (vc : Nat) (F : List Int) (v : Value) (L : List Ev) (w : World) (hv : EvsAt w v L) (_hF : WsAt w (.slice va F.length vc) F) (hg : Gv w) (h8 : 2 ≤ w.heap.size) (hl : L.length ≤ 1050000) (hF0 : 0 < F.length) (hF1 : F.length ≤ 65536) (hz : (checkL L).2 ≠ 0) :
    Calls Tryz.prog 21 #[.slice va F.length vc, v] w fun ex w' => ex = .returned (.tuple #[.pointer none, .agg (odV (checkL L).1 (checkL L).2)]) ∧ Keeps (fun _ => False) w w' := by
  have k0 := (Keeps.refl (fun _ => False) w).alloc (.cells (odV 0 0) 31)
  have b0 : (w.alloc (.cells (odV 0 0) 31)).heap[w.heap.size]? = some (.cells (odV 0 0) 31 (0, 0)) := (MapKept.heap_alloc w _).1
  have hs0 : (w.alloc (.cells (odV 0 0) 31)).heap.size = w.heap.size + 1 := by simp
  have TR := tries_any v L (w.alloc (.cells (odV 0 0) 31)) (hv.keeps k0) (hg.keeps k0) (by omega) (fun hz => tries_bound hl hz)
  rw [if_neg hz] at TR
  obtain ⟨a1, cap1, rfl, hcap⟩ := hv.els.shape
  unfold odV at TR k0 b0 ⊢
  generalize checkL L = cl at *
  obtain ⟨ca, ce⟩ := cl
  dsimp only at hz TR ⊢
  have hzb : (ce == 0) = false := by rw [beq_eq_false_iff_ne]; exact hz
  have hzn : (ce != 0) = true := by rw [bne_iff_ne]; exact hz
  have hFn : ¬ ((F.length : Int) = 0) := by omega
  have hFb2 : ((F.length : Int) == 0) = false := by rw [beq_eq_false_iff_ne]; exact hFn
  have hFg : ¬ ((F.length : Int) > 65536) := by omega
  clear hv hg hs0
  go_enter Tryz.func21, Tryz.ntmps21
  go_wp2_with fail
  refine TR.mono ?_
  rintro ex w1 ⟨tv, rfl, hT, k1⟩
  clear TR
  obtain ⟨ta, tc, rfl⟩ := hT.form
  have K1 := k0.trans k1
  have B1 := (k1.block _ (lt_of_block b0) (fun f => f)).trans b0
  have kA := (Keeps.refl (fun _ => False) w1).alloc (.cells #[.int .i64 ca, .int .i64 ce] 31)
  have bA := (MapKept.heap_alloc w1 (.cells #[.int .i64 ca, .int .i64 ce] 31)).1
  have B2 := (kA.block _ (lt_of_block B1) (fun f => f)).trans B1
  have hlt1 := lt_of_block B1
  go_wp2_with fail
  generalize hW : w1.alloc (.cells #[.int .i64 ca, .int .i64 ce] 31) = W at *
  have c0 : W.cell? ⟨w.heap.size, 0, none⟩ = some (.int .i64 0) := by rw [cell_of_block B2]; rfl
  have c1 : W.cell? ⟨w.heap.size, 1, none⟩ = some (.int .i64 0) := by rw [cell_of_block B2]; rfl
  have f0 : W.frozen? ⟨w.heap.size, 0, none⟩ = false := frozen_of_block B2 _
  have f1 : W.frozen? ⟨w.heap.size, 1, none⟩ = false := frozen_of_block B2 _
  have hS0 : W.cell? ⟨w1.heap.size, 0, none⟩ = some (.int .i64 ca) ∧ W.cell? ⟨w1.heap.size, 1, none⟩ = some (.int .i64 ce) := ⟨by rw [cell_of_block bA]; rfl, by rw [cell_of_block bA]; rfl⟩
  have hne : ¬ w.heap.size = w1.heap.size := by omega
  have BE : Hid (∀ X : World, X.heap = W.heap → ((X.setCell ⟨w.heap.size, 0, none⟩ (.int .i64 ca)).setCell ⟨w.heap.size, 1, none⟩ (.int .i64 ce)).heap[w.heap.size]? = some (.cells #[.int .i64 ca, .int .i64 ce] 31 (0, 0))) := fun X hX => block_set (block_set (w := X) (by rw [hX]; exact B2) 0 (.int .i64 ca)) 1 (.int .i64 ce)
  have KE := K1.trans kA
  clear hW kA bA B2 K1 hT
  go_region_held3 (fun W : World => W.cell? ⟨w1.heap.size, 0, none⟩ = some (.int .i64 ca) ∧ W.cell? ⟨w1.heap.size, 1, none⟩ = some (.int .i64 ce)) (first | assumption | (exact hS0) | go_keep) (fail)
  go_wp2_with fail
  refine bodyPost_ret (odd_ret2 rfl _ _ w.heap.size #[.int .i64 ca, .int .i64 ce] (BE.out W rfl) rfl rfl) rfl ?_
  exact ⟨rfl, (((KE.setCell (.inl (Nat.le_refl _)) _).setCell (.inl (Nat.le_refl _)) _).drew)⟩
set_option maxRecDepth 100000 in
set_option maxHeartbeats 8000000 in
theorem look_plain (va : Option Addr) (vc : Nat) (F : List Int) (v : Value) (L : List Ev) (w : World) (hv : EvsAt w v L) (hF : WsAt w (.slice va F.length vc) F) (hg : Gv w) (h8 : 2 ≤ w.heap.size) (hl : L.length ≤ 1050000) (hF0 : 0 < F.length) (hF1 : F.length ≤ 65536) (hz : (checkL L).2 = 0) (j : Nat) (hp : idxF plainE L 0 = (j : Int)) :
    Calls Tryz.prog 21 #[.slice va F.length vc, v] w fun ex w' => ex = .returned (.tuple #[.pointer none, .agg (odV (j : Int) 260)]) ∧ Keeps (fun _ => False) w w' := by
  have hck : checkL L = (-1, 0) := chk_yes L st0 0 hz
  have k0 := (Keeps.refl (fun _ => False) w).alloc (.cells (odV 0 0) 31)
  have b0 : (w.alloc (.cells (odV 0 0) 31)).heap[w.heap.size]? = some (.cells (odV 0 0) 31 (0, 0)) := (MapKept.heap_alloc w _).1
  have hs0 : (w.alloc (.cells (odV 0 0) 31)).heap.size = w.heap.size + 1 := by simp
  have TR := tries_any v L (w.alloc (.cells (odV 0 0) 31)) (hv.keeps k0) (hg.keeps k0) (by omega) (fun hz => tries_bound hl hz)
  rw [hck] at TR
  dsimp only at TR
  rw [if_pos rfl, hs0] at TR
  unfold odV at TR k0 b0 ⊢
  have HV : Hid (∀ X, Keeps (fun _ => False) w X → EvsAt X v L ∧ Gv X ∧ WsAt X (.slice va F.length vc) F) := fun X k => ⟨hv.keeps k, hg.keeps k, hF.keeps wC_ne k⟩
  obtain ⟨a1, cap1, rfl, hcap⟩ := hv.els.shape
  have hFn : ¬ ((F.length : Int) = 0) := by omega
  have hFb2 : ((F.length : Int) == 0) = false := by rw [beq_eq_false_iff_ne]; exact hFn
  have hFg : ¬ ((F.length : Int) > 65536) := by omega
  clear hv hF hg hck hs0
  go_enter Tryz.func21, Tryz.ntmps21
  go_wp2_with fail
  refine TR.mono ?_
  rintro ex w1 ⟨tv, rfl, hT, k1⟩
  clear TR
  obtain ⟨ta, tc, rfl⟩ := hT.form
  have K1 := k0.trans k1
  have B1 := (k1.block _ (lt_of_block b0) (fun f => f)).trans b0
  have kA := (Keeps.refl (fun _ => False) w1).alloc (.cells #[.int .i64 (-1), .int .i64 0] 31)
  have hsA : (w1.alloc (.cells #[.int .i64 (-1), .int .i64 0] 31)).heap.size = w1.heap.size + 1 := by simp
  have kM := (Keeps.refl (fun _ => False) (w1.alloc (.cells #[.int .i64 (-1), .int .i64 0] 31))).alloc (.map #[] 0)
  have hsM : ((w1.alloc (.cells #[.int .i64 (-1), .int .i64 0] 31)).alloc (.map #[] 0)).heap.size = w1.heap.size + 2 := by simp
  have kP := (Keeps.refl (fun _ => False) ((w1.alloc (.cells #[.int .i64 (-1), .int .i64 0] 31)).alloc (.map #[] 0))).alloc (.cells #[.slice va F.length vc, .slice ta (triesL L).length tc, .slice none 0 0, .slice none 0 0, .map (some (w1.heap.size + 1))] 68)
  have bP := (MapKept.heap_alloc ((w1.alloc (.cells #[.int .i64 (-1), .int .i64 0] 31)).alloc (.map #[] 0)) (.cells #[.slice va F.length vc, .slice ta (triesL L).length tc, .slice none 0 0, .slice none 0 0, .map (some (w1.heap.size + 1))] 68)).1
  rw [hsM] at bP
  have KZ := ((K1.trans kA).trans kM).trans kP
  have B0Z := ((((kA.trans kM).trans kP).block _ (lt_of_block B1) (fun f => f)).trans B1)
  have hw1 : w.heap.size < w1.heap.size := lt_of_block B1
  have IPx := idx_plain (.slice a1 L.length cap1) L _ (HV.out _ KZ).1
  rw [hp] at IPx
  obtain ⟨Z, hZ⟩ : ∃ Z, Z = ((w1.alloc (.cells #[.int .i64 (-1), .int .i64 0] 31)).alloc (.map #[] 0)).alloc (.cells #[.slice va F.length vc, .slice ta (triesL L).length tc, .slice none 0 0, .slice none 0 0, .map (some (w1.heap.size + 1))] 68) := ⟨_, rfl⟩
  rw [← hZ] at bP KZ B0Z IPx
  have HZ : Hid (Z = _) := hZ
  have HBP : Hid (Z.heap[w1.heap.size + 2]? = _) := bP
  clear kA hsA kM hsM kP hT k0 k1 b0 K1 B1 bP
  go_wp2_with fail
  rw [← hZ]
  clear hZ HZ
  refine IPx.mono ?_
  rintro ex Z2 ⟨rfl, kz2⟩
  clear IPx
  have hj0 : (j : Int) ≥ 0 := by omega
  have bO := (kz2.block _ (lt_of_block B0Z) (fun f => f)).trans B0Z
  have c0 : Z2.cell? ⟨w.heap.size, 0, none⟩ = some (.int .i64 0) := by rw [cell_of_block bO]; rfl
  have c1 : Z2.cell? ⟨w.heap.size, 1, none⟩ = some (.int .i64 0) := by rw [cell_of_block bO]; rfl
  have f0 : Z2.frozen? ⟨w.heap.size, 0, none⟩ = false := frozen_of_block bO _
  have f1 : Z2.frozen? ⟨w.heap.size, 1, none⟩ = false := frozen_of_block bO _
  have BE := block_set (block_set bO 0 (.int .i64 (j : Int))) 1 (.int .i64 260)
  have KE := ((KZ.trans kz2).setCell (p := ⟨w.heap.size, 0, none⟩) (.inl (Nat.le_refl _)) (.int .i64 (j : Int))).setCell (p := ⟨w.heap.size, 1, none⟩) (.inl (Nat.le_refl _)) (.int .i64 260)
  clear bO B0Z
  go_wp2_with fail
  refine bodyPost_ret (odd_ret2 rfl _ _ w.heap.size #[.int .i64 (j : Int), .int .i64 260] BE rfl rfl) rfl ?_
  exact ⟨rfl, KE⟩
set_option maxRecDepth 100000 in
set_option maxHeartbeats 8000000 in
theorem look_miss (va : Option Addr) (vc : Nat) (F : List Int) (v : Value) (L : List Ev) (w : World) (hv : EvsAt w v L) (hF : WsAt w (.slice va F.length vc) F) (hg : Gv w) (h8 : 2 ≤ w.heap.size) (hl : L.length ≤ 1050000) (hF0 : 0 < F.length) (hF1 : F.length ≤ 65536) (hz : (checkL L).2 = 0) (hp : idxF plainE L 0 = -1) (j : Nat) (hm : idxF (missE F.length) L 0 = (j : Int)) :
    Calls Tryz.prog 21 #[.slice va F.length vc, v] w fun ex w' => ex = .returned (.tuple #[.pointer none, .agg (odV (j : Int) 4)]) ∧ Keeps (fun _ => False) w w' := by
  have hck : checkL L = (-1, 0) := chk_yes L st0 0 hz
  have k0 := (Keeps.refl (fun _ => False) w).alloc (.cells (odV 0 0) 31)
  have b0 : (w.alloc (.cells (odV 0 0) 31)).heap[w.heap.size]? = some (.cells (odV 0 0) 31 (0, 0)) := (MapKept.heap_alloc w _).1
  have hs0 : (w.alloc (.cells (odV 0 0) 31)).heap.size = w.heap.size + 1 := by simp
  have TR := tries_any v L (w.alloc (.cells (odV 0 0) 31)) (hv.keeps k0) (hg.keeps k0) (by omega) (fun hz => tries_bound hl hz)
  rw [hck] at TR
  dsimp only at TR
  rw [if_pos rfl, hs0] at TR
  unfold odV at TR k0 b0 ⊢
  have HV : Hid (∀ X, Keeps (fun _ => False) w X → EvsAt X v L ∧ Gv X ∧ WsAt X (.slice va F.length vc) F) := fun X k => ⟨hv.keeps k, hg.keeps k, hF.keeps wC_ne k⟩
  obtain ⟨a1, cap1, rfl, hcap⟩ := hv.els.shape
  have hFn : ¬ ((F.length : Int) = 0) := by omega
  have hFb2 : ((F.length : Int) == 0) = false := by rw [beq_eq_false_iff_ne]; exact hFn
  have hFg : ¬ ((F.length : Int) > 65536) := by omega
  clear hv hF hg hck hs0
  go_enter Tryz.func21, Tryz.ntmps21
  go_wp2_with fail
  refine TR.mono ?_
  rintro ex w1 ⟨tv, rfl, hT, k1⟩
  clear TR
  obtain ⟨ta, tc, rfl⟩ := hT.form
  have K1 := k0.trans k1
  have B1 := (k1.block _ (lt_of_block b0) (fun f => f)).trans b0
  have kA := (Keeps.refl (fun _ => False) w1).alloc (.cells #[.int .i64 (-1), .int .i64 0] 31)
  have hsA : (w1.alloc (.cells #[.int .i64 (-1), .int .i64 0] 31)).heap.size = w1.heap.size + 1 := by simp
  have kM := (Keeps.refl (fun _ => False) (w1.alloc (.cells #[.int .i64 (-1), .int .i64 0] 31))).alloc (.map #[] 0)
  have hsM : ((w1.alloc (.cells #[.int .i64 (-1), .int .i64 0] 31)).alloc (.map #[] 0)).heap.size = w1.heap.size + 2 := by simp
  have kP := (Keeps.refl (fun _ => False) ((w1.alloc (.cells #[.int .i64 (-1), .int .i64 0] 31)).alloc (.map #[] 0))).alloc (.cells #[.slice va F.length vc, .slice ta (triesL L).length tc, .slice none 0 0, .slice none 0 0, .map (some (w1.heap.size + 1))] 68)
  have bP := (MapKept.heap_alloc ((w1.alloc (.cells #[.int .i64 (-1), .int .i64 0] 31)).alloc (.map #[] 0)) (.cells #[.slice va F.length vc, .slice ta (triesL L).length tc, .slice none 0 0, .slice none 0 0, .map (some (w1.heap.size + 1))] 68)).1
  rw [hsM] at bP
  have KZ := ((K1.trans kA).trans kM).trans kP
  have B0Z := ((((kA.trans kM).trans kP).block _ (lt_of_block B1) (fun f => f)).trans B1)
  have hw1 : w.heap.size < w1.heap.size := lt_of_block B1
  have IPx := idx_plain (.slice a1 L.length cap1) L _ (HV.out _ KZ).1
  rw [hp] at IPx
  obtain ⟨Z, hZ⟩ : ∃ Z, Z = ((w1.alloc (.cells #[.int .i64 (-1), .int .i64 0] 31)).alloc (.map #[] 0)).alloc (.cells #[.slice va F.length vc, .slice ta (triesL L).length tc, .slice none 0 0, .slice none 0 0, .map (some (w1.heap.size + 1))] 68) := ⟨_, rfl⟩
  rw [← hZ] at bP KZ B0Z IPx
  have HZ : Hid (Z = _) := hZ
  have HBP : Hid (Z.heap[w1.heap.size + 2]? = _) := bP
  clear kA hsA kM hsM kP hT k0 k1 b0 K1 B1 bP
  go_wp2_with fail
  rw [← hZ]
  clear hZ HZ
  refine IPx.mono ?_
  rintro ex Z2 ⟨rfl, kz2⟩
  clear IPx
  have p0 : Z.cell? ⟨w1.heap.size + 2, 0, none⟩ = some (.slice va F.length vc) := by rw [cell_of_block HBP.out]; rfl
  have IMx := idx_miss (.slice a1 L.length cap1) L (w1.heap.size + 2) F.length vc va Z2 (HV.out _ (KZ.trans kz2)).1 (kz2.cellB (fun f => f) p0) hF1
  rw [hm] at IMx
  go_wp2_with fail
  refine IMx.mono ?_
  rintro ex Z3 ⟨rfl, kz3⟩
  clear IMx p0
  have K23 := kz2.trans kz3
  have hj0 : (j : Int) ≥ 0 := by omega
  have bO := (K23.block _ (lt_of_block B0Z) (fun f => f)).trans B0Z
  have c0 : Z3.cell? ⟨w.heap.size, 0, none⟩ = some (.int .i64 0) := by rw [cell_of_block bO]; rfl
  have c1 : Z3.cell? ⟨w.heap.size, 1, none⟩ = some (.int .i64 0) := by rw [cell_of_block bO]; rfl
  have f0 : Z3.frozen? ⟨w.heap.size, 0, none⟩ = false := frozen_of_block bO _
  have f1 : Z3.frozen? ⟨w.heap.size, 1, none⟩ = false := frozen_of_block bO _
  have BE := block_set (block_set bO 0 (.int .i64 (j : Int))) 1 (.int .i64 4)
  have KE := ((KZ.trans K23).setCell (p := ⟨w.heap.size, 0, none⟩) (.inl (Nat.le_refl _)) (.int .i64 (j : Int))).setCell (p := ⟨w.heap.size, 1, none⟩) (.inl (Nat.le_refl _)) (.int .i64 4)
  clear bO B0Z
  go_wp2_with fail
  refine bodyPost_ret (odd_ret2 rfl _ _ w.heap.size #[.int .i64 (j : Int), .int .i64 4] BE rfl rfl) rfl ?_
  exact ⟨rfl, KE⟩
end Go.Proofs.YthmiainhaebjiaaGreatDoor
