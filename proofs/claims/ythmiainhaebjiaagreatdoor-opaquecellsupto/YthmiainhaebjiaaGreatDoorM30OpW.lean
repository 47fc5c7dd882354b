/-
  No statement of the seat is proved here. (Several texts in one: OpW.)
-/
import Derived.Test.YthmiainhaebjiaaGreatDoorM29OpV

/- A walk of known (package parleylaw16). No statement of the seat is proved here. -/
namespace Go.Proofs.YthmiainhaebjiaaGreatDoor
open Go.RowKit Go.Shelf

def e1 : Ev := ⟨1, 1, 0, 0, false, 0⟩
def e67 : List Ev := [⟨1, 2, 0, 7, false, 0⟩, ⟨1, 2, 1, 6, false, 0⟩]
abbrev ER (w : World) (base : Nat) (v : Value) (L : List Ev) : Prop := OwnR Ev.cl 6 60 w base v L
theorem evs_of {w : World} {v : Value} {L : List Ev} (h : ElsAt Ev.cl 6 w v L) (hw : ∀ e ∈ L, e.wf) (hl : L.length ≤ 100) : EvsAt w v L := ⟨h, hw, by omega⟩
set_option maxRecDepth 100000 in
set_option maxHeartbeats 8000000 in
theorem known_any (w : World) (hg : Gv w) (h8 : 2 ≤ w.heap.size) : Calls Tryz.prog 16 #[] w fun ex w' => ex = .returned (.bool true) ∧ Keeps (fun _ => False) w w' := by
  have kF := (Keeps.refl (fun _ => False) w).alloc (.cells #[.int .u64 5, .int .u64 6] 26)
  have bF := (MapKept.heap_alloc w (.cells #[.int .u64 5, .int .u64 6] 26)).1
  have kE := (Keeps.refl (fun _ => False) (w.alloc (.cells #[.int .u64 5, .int .u64 6] 26))).alloc (.cells #[.int .i64 1, .int .i64 1, .int .u64 0, .int .u64 0, .bool false, .int .i64 0] 60)
  have bE := (MapKept.heap_alloc (w.alloc (.cells #[.int .u64 5, .int .u64 6] 26)) (.cells #[.int .i64 1, .int .i64 1, .int .u64 0, .int .u64 0, .bool false, .int .i64 0] 60)).1
  have hs1 : (w.alloc (.cells #[.int .u64 5, .int .u64 6] 26)).heap.size = w.heap.size + 1 := by simp
  rw [hs1] at bE
  have WT := wrote_any ((w.alloc (.cells #[.int .u64 5, .int .u64 6] 26)).alloc (.cells #[.int .i64 1, .int .i64 1, .int .u64 0, .int .u64 0, .bool false, .int .i64 0] 60))
  have hs2 : ((w.alloc (.cells #[.int .u64 5, .int .u64 6] 26)).alloc (.cells #[.int .i64 1, .int .i64 1, .int .u64 0, .int .u64 0, .bool false, .int .i64 0] 60)).heap.size = w.heap.size + 2 := by simp
  rw [hs2] at WT
  obtain ⟨A2, hA2⟩ : ∃ A2, A2 = (w.alloc (.cells #[.int .u64 5, .int .u64 6] 26)).alloc (.cells #[.int .i64 1, .int .i64 1, .int .u64 0, .int .u64 0, .bool false, .int .i64 0] 60) := ⟨_, rfl⟩
  rw [← hA2] at kE bE WT hs2
  have kW := (Keeps.refl (fun _ => False) A2).alloc (.cells cellsW 60)
  have bW := (MapKept.heap_alloc A2 (.cells cellsW 60)).1
  rw [hs2] at bW
  obtain ⟨A3, hA3⟩ : ∃ A3, A3 = A2.alloc (.cells cellsW 60) := ⟨_, rfl⟩
  rw [← hA3] at kW bW WT
  have K3 := (kF.trans kE).trans kW
  have o1 : ER A3 (w.heap.size + 1) (.slice (some ⟨w.heap.size + 1, 0, none⟩) 1 1) [e1] := OwnR.ofBlock (L := [e1]) ev_len ((kW.block _ (lt_of_block bE) (fun f => f)).trans bE) rfl (Nat.le_refl _) (by simp [maxLen])
  have o2 : ER A3 (w.heap.size + 2) (.slice (some ⟨w.heap.size + 2, 0, none⟩) 5 5) hW := OwnR.ofBlock (L := hW) ev_len bW (by simp [cellsW]) (Nat.le_refl _) (by simp [maxLen, hW])
  obtain ⟨v4, A4, r1, r2, r3⟩ := o1.app ev_len ev_one (by decide) Tryz.underlying23 info_ev rfl (by decide) (ty := 23) _ hW (o2.els ev_len) (by simp [hW])
  have K4 : Keeps (fun _ => False) w A4 := K3.young r3.keeps (fun q hq => by simp only [Value.ownBlock, Option.some.injEq] at hq; omega)
  have kC := (Keeps.refl (fun _ => False) A4).alloc (.cells #[.int .i64 1, .int .i64 2, .int .u64 0, .int .u64 7, .bool false, .int .i64 0, .int .i64 1, .int .i64 2, .int .u64 1, .int .u64 6, .bool false, .int .i64 0] 60)
  have bC := (MapKept.heap_alloc A4 (.cells #[.int .i64 1, .int .i64 2, .int .u64 0, .int .u64 7, .bool false, .int .i64 0, .int .i64 1, .int .i64 2, .int .u64 1, .int .u64 6, .bool false, .int .i64 0] 60)).1
  obtain ⟨A5, hA5⟩ : ∃ A5, A5 = A4.alloc (.cells #[.int .i64 1, .int .i64 2, .int .u64 0, .int .u64 7, .bool false, .int .i64 0, .int .i64 1, .int .i64 2, .int .u64 1, .int .u64 6, .bool false, .int .i64 0] 60) := ⟨_, rfl⟩
  rw [← hA5] at kC bC
  have o5 : ER A5 A4.heap.size (.slice (some ⟨A4.heap.size, 0, none⟩) 2 2) e67 := OwnR.ofBlock (L := e67) ev_len bC rfl (Nat.le_refl _) (by simp [maxLen, e67])
  have o4 := r2.keeps kC (fun _ _ f => f)
  obtain ⟨v6, A6, t1, t2, t3⟩ := o4.app ev_len ev_one (by decide) Tryz.underlying23 info_ev rfl (by decide) (ty := 23) _ e67 (o5.els ev_len) (by simp [hW, e67])
  have K6 : Keeps (fun _ => False) w A6 := (K4.trans kC).young t3.keeps (fun q hq => by have := (own_block o4.own hq).2; omega)
  obtain ⟨⟨va4, vn4, vc4⟩, rfl, hvn4⟩ := sl_of r2
  obtain ⟨⟨va6, vn6, vc6⟩, rfl, hvn6⟩ := sl_of t2
  dsimp only [Sl.v] at r1 t1
  have HA1 : Hid (_ = _) := r1
  rw [hA5] at t1
  have HA2 : Hid (_ = _) := t1
  have hFw : ∀ X, Keeps (fun _ => False) w X → X.heap[w.heap.size]? = some (.cells #[.int .u64 5, .int .u64 6] 26 (0, 0)) → WsAt X (.slice (some ⟨w.heap.size, 0, none⟩) 2 2) [5, 6] := fun X _ hb => (OwnR.ofBlock (c := wC) (sz := 1) (L := [5, 6]) (base := w.heap.size) wC_len hb rfl (Nat.le_refl _) (by simp [maxLen])).els wC_len
  have bF3 := ((kE.trans kW).block _ (lt_of_block bF) (fun f => f)).trans bF
  have bF4 := (r3.keeps.block _ (lt_of_block bF3) (fun e => by simp only [Value.ownBlock, Option.some.injEq] at e; omega)).trans bF3
  have bF5 := (kC.block _ (lt_of_block bF4) (fun f => f)).trans bF4
  have bF6 := (t3.keeps.block _ (lt_of_block bF5) (fun e => by have := (own_block o4.own e).2; omega)).trans bF5
  have HG : Hid (∀ X, Keeps (fun _ => False) w X → Gv X ∧ 2 ≤ X.heap.size) := fun X k => ⟨hg.keeps k, Nat.le_trans h8 k.size⟩
  have HFw : Hid (∀ X, Keeps (fun _ => False) A6 X → WsAt X (.slice (some ⟨w.heap.size, 0, none⟩) 2 2) [5, 6]) := fun X k => hFw X (K6.trans k) ((k.block _ (lt_of_block bF6) (fun f => f)).trans bF6)
  have hE6 : ElsAt Ev.cl 6 A6 (.slice va6 vn6 vc6) hE := t2.els ev_len
  have CK := check_ok (some ⟨w.heap.size, 0, none⟩) 2 [5, 6] (.slice va6 vn6 vc6) hE (by decide) A6 (evs_of hE6 hE_wf (by decide)) (HFw.out A6 (Keeps.refl _ _)) (HG.out _ K6).1 (HG.out _ K6).2 (by decide) (by decide) hE_ck hE_pl hE_ms [pE] hE_wr
  rw [hE_at] at CK
  have HK6 : Hid (Keeps (fun _ => False) w A6) := K6
  have HWR : Hid (∀ X, (X.alloc (.cells cellsW 60)).heap.size = X.heap.size + 1 ∧ Keeps (fun _ => False) X (X.alloc (.cells cellsW 60)) ∧ EvsAt (X.alloc (.cells cellsW 60)) (.slice (some ⟨X.heap.size, 0, none⟩) 5 5) hW) := fun X => ⟨by simp, (Keeps.refl _ X).alloc _, evs_of ((OwnR.ofBlock (c := Ev.cl) (sz := 6) (L := hW) (base := X.heap.size) ev_len (MapKept.heap_alloc X (.cells cellsW 60)).1 (by simp [cellsW]) (Nat.le_refl _) (by simp [maxLen, hW])).els ev_len) hW_wf (by decide)⟩
  clear hvn4 hvn6 hE6 hFw bF3 bF4 bF5 bF6 bF o1 o2 o4 o5 r1 r2 r3 t1 t2 t3 kC bC kW bW kE bE kF K3 K4 K6 hg
  clear hA5
  have H3 : Hid (A3 = _) := hA3
  have H2 : Hid (A2 = _) := hA2
  go_enter Tryz.func16, Tryz.ntmps16
  go_wp2_with fail
  rw [← hA2]
  clear hA2
  refine WT.mono ?_
  rintro ex wz ⟨rfl, hwz⟩
  subst wz
  clear WT hA3
  go_wp2_with (at_builtin; first | (refine wpList_append_run rfl _ _ 23 rfl rfl rfl HA1.out ?_) | (refine wpList_append_run rfl _ _ 23 rfl rfl rfl HA2.out ?_))
  clear HA1 HA2
  refine CK.mono ?_
  rintro ex B1 ⟨rfl, k1⟩
  clear CK
  have WT1 := fun X => wrote_any X
  have kO1 := (Keeps.refl (fun _ => False) B1).alloc (.cells #[.int .i64 (-1), .int .i64 0] 31)
  have bO1 := (MapKept.heap_alloc B1 (.cells #[.int .i64 (-1), .int .i64 0] 31)).1
  have KB1 := k1.trans kO1
  obtain ⟨C1, hC1⟩ : ∃ C1, C1 = B1.alloc (.cells #[.int .i64 (-1), .int .i64 0] 31) := ⟨_, rfl⟩
  rw [← hC1] at kO1 bO1 KB1
  obtain ⟨hsc, kwc, evc⟩ := HWR.out C1
  have BH := behind_ok (some ⟨w.heap.size, 0, none⟩) 2 [5, 6] (.slice (some ⟨C1.heap.size, 0, none⟩) 5 5) hW (by decide) _ evc (HFw.out _ (KB1.trans kwc)) (HG.out _ ((HK6.out.trans KB1).trans kwc)).1 (HG.out _ ((HK6.out.trans KB1).trans kwc)).2 (by decide) (by decide) hW_ck hW_pl hW_ms [pW] hW_wr 1 (by decide)
  rw [hW_st] at BH
  unfold odV at BH
  unfold odV
  go_wp2_with fail
  rw [← hC1]
  clear hC1
  refine (WT1 C1).mono ?_
  rintro ex wz ⟨rfl, hwz⟩
  subst wz
  go_wp2_with fail
  refine BH.mono ?_
  rintro ex B2 ⟨uv, rfl, hu, k2⟩
  clear BH evc hsc
  have KA2 := (KB1.trans kwc).trans k2
  have bO12 := ((kwc.trans k2).block _ (lt_of_block bO1) (fun f => f)).trans bO1
  obtain ⟨ua, uc, hvu⟩ := hu.form
  subst hvu
  clear kwc k2 kO1 bO1 k1 KB1
  have kO2 := (Keeps.refl (fun _ => False) B2).alloc (.cells #[.int .i64 (-1), .int .i64 0] 31)
  have bO2 := (MapKept.heap_alloc B2 (.cells #[.int .i64 (-1), .int .i64 0] 31)).1
  have KB2 := KA2.trans kO2
  have bP1 := (kO2.block _ (lt_of_block bO12) (fun f => f)).trans bO12
  have hu2 := hu.keeps kO2 (fun _ _ f => f)
  obtain ⟨C2, hC2⟩ : ∃ C2, C2 = B2.alloc (.cells #[.int .i64 (-1), .int .i64 0] 31) := ⟨_, rfl⟩
  rw [← hC2] at kO2 bO2 KB2 bP1 hu2
  obtain ⟨-, kwc, evc⟩ := HWR.out C2
  have BN := behind_no (some ⟨w.heap.size, 0, none⟩) 2 [5, 6] (.slice (some ⟨C2.heap.size, 0, none⟩) 5 5) hW (by decide) _ evc (HFw.out _ (KB2.trans kwc)) (HG.out _ ((HK6.out.trans KB2).trans kwc)).1 (HG.out _ ((HK6.out.trans KB2).trans kwc)).2 (by decide) (by decide) hW_ck hW_pl hW_ms [pW] hW_wr 2 (.inr (by decide))
  unfold odV at BN
  go_wp2_with fail
  rw [← hC2]
  clear hC2
  refine (WT1 C2).mono ?_
  rintro ex wz ⟨rfl, hwz⟩
  subst wz
  go_wp2_with fail
  refine BN.mono ?_
  rintro ex B3 ⟨rfl, k3⟩
  clear BN evc
  have KA3 := (KB2.trans kwc).trans k3
  have kk3 := kwc.trans k3
  have bP13 := (kk3.block _ (lt_of_block bP1) (fun f => f)).trans bP1
  have bP23 := (kk3.block _ (lt_of_block bO2) (fun f => f)).trans bO2
  have hu3 := hu2.keeps kk3 (fun _ _ f => f)
  clear kwc k3 kk3 bP1 bO2 hu2 KB2 kO2 hu bO12 KA2
  have kO3 := (Keeps.refl (fun _ => False) B3).alloc (.cells #[.int .i64 (-1), .int .i64 2] 31)
  have bO3 := (MapKept.heap_alloc B3 (.cells #[.int .i64 (-1), .int .i64 2] 31)).1
  have KB3 := KA3.trans kO3
  have bQ1 := (kO3.block _ (lt_of_block bP13) (fun f => f)).trans bP13
  have bQ2 := (kO3.block _ (lt_of_block bP23) (fun f => f)).trans bP23
  have hu4 := hu3.keeps kO3 (fun _ _ f => f)
  obtain ⟨C3, hC3⟩ : ∃ C3, C3 = B3.alloc (.cells #[.int .i64 (-1), .int .i64 2] 31) := ⟨_, rfl⟩
  rw [← hC3] at kO3 bO3 KB3 bQ1 bQ2 hu4
  obtain ⟨-, kwc, evc⟩ := HWR.out C3
  have CW := check_ok (some ⟨w.heap.size, 0, none⟩) 2 [5, 6] (.slice (some ⟨C3.heap.size, 0, none⟩) 5 5) hW (by decide) _ evc (HFw.out _ (KB3.trans kwc)) (HG.out _ ((HK6.out.trans KB3).trans kwc)).1 (HG.out _ ((HK6.out.trans KB3).trans kwc)).2 (by decide) (by decide) hW_ck hW_pl hW_ms [pW] hW_wr
  rw [hW_at] at CW
  unfold odV at CW
  go_wp2_with fail
  rw [← hC3]
  clear hC3
  refine (WT1 C3).mono ?_
  rintro ex wz ⟨rfl, hwz⟩
  subst wz
  go_wp2_with fail
  refine CW.mono ?_
  rintro ex B4 ⟨rfl, k4⟩
  clear CW evc
  have KA4 := (KB3.trans kwc).trans k4
  have kk4 := kwc.trans k4
  have bR1 := (kk4.block _ (lt_of_block bQ1) (fun f => f)).trans bQ1
  have bR2 := (kk4.block _ (lt_of_block bQ2) (fun f => f)).trans bQ2
  have bR3 := (kk4.block _ (lt_of_block bO3) (fun f => f)).trans bO3
  have hu5 := hu4.keeps kk4 (fun _ _ f => f)
  clear kwc k4 kk4 bQ1 bQ2 bO3 hu4 KB3 kO3 bP13 bP23 hu3 KA3
  have kO4 := (Keeps.refl (fun _ => False) B4).alloc (.cells #[.int .i64 (-1), .int .i64 0] 31)
  have kL := (Keeps.refl (fun _ => False) (B4.alloc (.cells #[.int .i64 (-1), .int .i64 0] 31))).alloc (.cells #[.int .u64 7, .int .u64 8] 26)
  have bL := (MapKept.heap_alloc (B4.alloc (.cells #[.int .i64 (-1), .int .i64 0] 31)) (.cells #[.int .u64 7, .int .u64 8] 26)).1
  have hsL : (B4.alloc (.cells #[.int .i64 (-1), .int .i64 0] 31)).heap.size = B4.heap.size + 1 := by simp
  rw [hsL] at bL
  have kOL := kO4.trans kL
  have SWc := rsamew_any (.slice ua 2 uc) (.slice (some ⟨B4.heap.size + 1, 0, none⟩) 2 2) [7, 8] (by decide) _ ((hu5.keeps kOL (fun _ _ f => f)).els wC_len) ((OwnR.ofBlock (c := wC) (sz := 1) (L := [7, 8]) (base := B4.heap.size + 1) wC_len bL rfl (Nat.le_refl _) (by simp [maxLen])).els wC_len)
  have KF := (HK6.out.trans KA4).trans kOL
  have q10 : B4.cell? ⟨B1.heap.size, 0, none⟩ = some (.int .i64 (-1)) := by rw [cell_of_block bR1]; rfl
  have q11 : B4.cell? ⟨B1.heap.size, 1, none⟩ = some (.int .i64 0) := by rw [cell_of_block bR1]; rfl
  have q20 : B4.cell? ⟨B2.heap.size, 0, none⟩ = some (.int .i64 (-1)) := by rw [cell_of_block bR2]; rfl
  have q21 : B4.cell? ⟨B2.heap.size, 1, none⟩ = some (.int .i64 0) := by rw [cell_of_block bR2]; rfl
  have q30 : B4.cell? ⟨B3.heap.size, 0, none⟩ = some (.int .i64 (-1)) := by rw [cell_of_block bR3]; rfl
  have q31 : B4.cell? ⟨B3.heap.size, 1, none⟩ = some (.int .i64 2) := by rw [cell_of_block bR3]; rfl
  have l1 := lt_of_block bR1
  have l2 := lt_of_block bR2
  have l3 := lt_of_block bR3
  have HCs : Hid (∀ Z, Keeps (fun _ => False) B4 Z → Z.cell? ⟨B3.heap.size, 0, none⟩ = some (.int .i64 (-1)) ∧ Z.cell? ⟨B3.heap.size, 1, none⟩ = some (.int .i64 2)) := fun Z kz => ⟨kz.cellB (fun f => f) q30, kz.cellB (fun f => f) q31⟩
  have HKO : Hid (Keeps (fun _ => False) B4 ((B4.alloc (.cells #[.int .i64 (-1), .int .i64 0] 31)).alloc (.cells #[.int .u64 7, .int .u64 8] 26))) := kOL
  have hul : ([7, 8] : List Int).length = 2 := rfl
  clear bR1 bR2 bR3 hu5 kO4 kL bL kOL KA4 HFw HG HK6 HWR WT1
  go_wp2_with fail
  refine SWc.mono ?_
  rintro ex B5 ⟨rfl, k5⟩
  obtain ⟨z0, z1⟩ := HCs.out B5 (HKO.out.trans k5)
  have KE := KF.trans k5
  clear SWc KF k5 q10 q11 q20 q21 q30 q31 HCs HKO
  go_wp2_with fail
  go_ret
  exact ⟨rfl, KE⟩
end Go.Proofs.YthmiainhaebjiaaGreatDoor
