import Derived.Test.YthmiainhaebjiaaGreatDoorNgOq
import Derived.Test.YthmiainhaebjiaaGreatDoorM33OqL
import Derived.Test.YthmiainhaebjiaaGreatDoorM35OqM0
import Derived.Test.YthmiainhaebjiaaGreatDoorM28OrI

/- The document's Behind, Together and Never where something is wrong; Behind (layer 16). No statement of the seat is proved here. -/
namespace Go.Proofs.YthmiainhaebjiaaGreatDoor
open Go.RowKit Go.Shelf

set_option maxRecDepth 100000 in
set_option maxHeartbeats 8000000 in
theorem rbehind_no (va : Option Addr) (vc n : Nat) (v : Value) (hv : ∃ a m c, v = .slice a m c) (m : Int) (a e : Int) (he : e ≠ 0) (w : World)
    (LK : Calls Tryz.prog 23 #[.slice va n vc, v] (w.alloc (.cells (odV 0 0) 31)) fun ex w' => ex = .returned (.agg (odV a e)) ∧ Keeps (fun _ => False) (w.alloc (.cells (odV 0 0) 31)) w') :
    Calls Tryz.prog 7 #[.slice va n vc, v, .int .i64 m] w fun ex w' => ex = .returned (.tuple #[.slice none 0 0, .agg (odV a e)]) ∧ Keeps (fun _ => False) w w' := by
  have k0 := (Keeps.refl (fun _ => False) w).alloc (.cells (odV 0 0) 31)
  have b0 : (w.alloc (.cells (odV 0 0) 31)).heap[w.heap.size]? = some (.cells (odV 0 0) 31 (0, 0)) := (MapKept.heap_alloc w _).1
  obtain ⟨a1, m1, cap1, rfl⟩ := hv
  unfold odV at LK k0 b0 ⊢
  have hzb : (e == 0) = false := by rw [beq_eq_false_iff_ne]; exact he
  have hzn : (e != 0) = true := by rw [bne_iff_ne]; exact he
  go_enter Tryz.func7, Tryz.ntmps7
  go_wp2_with fail
  refine LK.mono ?_
  rintro ex w1 ⟨rfl, k1⟩
  clear LK
  have K1 := k0.trans k1
  have B1 := (k1.block _ (lt_of_block b0) (fun f => f)).trans b0
  have kA := (Keeps.refl (fun _ => False) w1).alloc (.cells #[.int .i64 a, .int .i64 e] 31)
  have bA := (MapKept.heap_alloc w1 (.cells #[.int .i64 a, .int .i64 e] 31)).1
  have B2 := (kA.block _ (lt_of_block B1) (fun f => f)).trans B1
  have hlt1 := lt_of_block B1
  go_wp2_with fail
  obtain ⟨ob7, hob⟩ : ∃ b, b = w1.heap.size := ⟨_, rfl⟩
  rw [← hob] at bA hlt1 ⊢
  generalize hW : w1.alloc (.cells #[.int .i64 a, .int .i64 e] 31) = W at *
  have c0 : W.cell? ⟨w.heap.size, 0, none⟩ = some (.int .i64 0) := by rw [cell_of_block B2]; rfl
  have c1 : W.cell? ⟨w.heap.size, 1, none⟩ = some (.int .i64 0) := by rw [cell_of_block B2]; rfl
  have f0 : W.frozen? ⟨w.heap.size, 0, none⟩ = false := frozen_of_block B2 _
  have f1 : W.frozen? ⟨w.heap.size, 1, none⟩ = false := frozen_of_block B2 _
  have hS0 : W.cell? ⟨ob7, 0, none⟩ = some (.int .i64 a) ∧ W.cell? ⟨ob7, 1, none⟩ = some (.int .i64 e) := ⟨by rw [cell_of_block bA]; rfl, by rw [cell_of_block bA]; rfl⟩
  have hne : ¬ w.heap.size = ob7 := by omega
  have BE : Hid (∀ X : World, X.heap = W.heap → ((X.setCell ⟨w.heap.size, 0, none⟩ (.int .i64 a)).setCell ⟨w.heap.size, 1, none⟩ (.int .i64 e)).heap[w.heap.size]? = some (.cells #[.int .i64 a, .int .i64 e] 31 (0, 0))) := fun X hX => block_set (block_set (w := X) (by rw [hX]; exact B2) 0 (.int .i64 a)) 1 (.int .i64 e)
  have KE := K1.trans kA
  clear hW kA bA B2 K1 hob
  go_region_held3 (fun W : World => W.cell? ⟨ob7, 0, none⟩ = some (.int .i64 a) ∧ W.cell? ⟨ob7, 1, none⟩ = some (.int .i64 e)) (first | assumption | (exact hS0) | go_keep) (fail)
  go_wp2_with fail
  refine bodyPost_ret (odd_ret2 rfl _ _ w.heap.size #[.int .i64 a, .int .i64 e] (BE.out W rfl) rfl rfl) rfl ?_
  exact ⟨rfl, (((KE.setCell (.inl (Nat.le_refl _)) _).setCell (.inl (Nat.le_refl _)) _).drew)⟩
set_option maxRecDepth 100000 in
set_option maxHeartbeats 8000000 in
theorem rtog_no (va : Option Addr) (vc n : Nat) (v : Value) (hv : ∃ a m c, v = .slice a m c) (sa : Option Addr) (sn sc : Nat) (a e : Int) (he : e ≠ 0) (w : World)
    (LK : Calls Tryz.prog 23 #[.slice va n vc, v] (w.alloc (.cells (odV 0 0) 31)) fun ex w' => ex = .returned (.agg (odV a e)) ∧ Keeps (fun _ => False) (w.alloc (.cells (odV 0 0) 31)) w') :
    Calls Tryz.prog 9 #[.slice va n vc, v, .slice sa sn sc] w fun ex w' => ex = .returned (.tuple #[.slice none 0 0, .agg (odV a e)]) ∧ Keeps (fun _ => False) w w' := by
  have k0 := (Keeps.refl (fun _ => False) w).alloc (.cells (odV 0 0) 31)
  have b0 : (w.alloc (.cells (odV 0 0) 31)).heap[w.heap.size]? = some (.cells (odV 0 0) 31 (0, 0)) := (MapKept.heap_alloc w _).1
  obtain ⟨a1, m1, cap1, rfl⟩ := hv
  unfold odV at LK k0 b0 ⊢
  have hzb : (e == 0) = false := by rw [beq_eq_false_iff_ne]; exact he
  have hzn : (e != 0) = true := by rw [bne_iff_ne]; exact he
  go_enter Tryz.func9, Tryz.ntmps9
  go_wp2_with fail
  refine LK.mono ?_
  rintro ex w1 ⟨rfl, k1⟩
  clear LK
  have K1 := k0.trans k1
  have B1 := (k1.block _ (lt_of_block b0) (fun f => f)).trans b0
  have kA := (Keeps.refl (fun _ => False) w1).alloc (.cells #[.int .i64 a, .int .i64 e] 31)
  have bA := (MapKept.heap_alloc w1 (.cells #[.int .i64 a, .int .i64 e] 31)).1
  have B2 := (kA.block _ (lt_of_block B1) (fun f => f)).trans B1
  have hlt1 := lt_of_block B1
  go_wp2_with fail
  obtain ⟨ob7, hob⟩ : ∃ b, b = w1.heap.size := ⟨_, rfl⟩
  rw [← hob] at bA hlt1 ⊢
  generalize hW : w1.alloc (.cells #[.int .i64 a, .int .i64 e] 31) = W at *
  have c0 : W.cell? ⟨w.heap.size, 0, none⟩ = some (.int .i64 0) := by rw [cell_of_block B2]; rfl
  have c1 : W.cell? ⟨w.heap.size, 1, none⟩ = some (.int .i64 0) := by rw [cell_of_block B2]; rfl
  have f0 : W.frozen? ⟨w.heap.size, 0, none⟩ = false := frozen_of_block B2 _
  have f1 : W.frozen? ⟨w.heap.size, 1, none⟩ = false := frozen_of_block B2 _
  have hS0 : W.cell? ⟨ob7, 0, none⟩ = some (.int .i64 a) ∧ W.cell? ⟨ob7, 1, none⟩ = some (.int .i64 e) := ⟨by rw [cell_of_block bA]; rfl, by rw [cell_of_block bA]; rfl⟩
  have hne : ¬ w.heap.size = ob7 := by omega
  have BE : Hid (∀ X : World, X.heap = W.heap → ((X.setCell ⟨w.heap.size, 0, none⟩ (.int .i64 a)).setCell ⟨w.heap.size, 1, none⟩ (.int .i64 e)).heap[w.heap.size]? = some (.cells #[.int .i64 a, .int .i64 e] 31 (0, 0))) := fun X hX => block_set (block_set (w := X) (by rw [hX]; exact B2) 0 (.int .i64 a)) 1 (.int .i64 e)
  have KE := K1.trans kA
  clear hW kA bA B2 K1 hob
  go_region_held3 (fun W : World => W.cell? ⟨ob7, 0, none⟩ = some (.int .i64 a) ∧ W.cell? ⟨ob7, 1, none⟩ = some (.int .i64 e)) (first | assumption | (exact hS0) | go_keep) (fail)
  go_wp2_with fail
  refine bodyPost_ret (odd_ret2 rfl _ _ w.heap.size #[.int .i64 a, .int .i64 e] (BE.out W rfl) rfl rfl) rfl ?_
  exact ⟨rfl, (((KE.setCell (.inl (Nat.le_refl _)) _).setCell (.inl (Nat.le_refl _)) _).drew)⟩
set_option maxRecDepth 100000 in
set_option maxHeartbeats 8000000 in
theorem rnever_no (va : Option Addr) (vc n : Nat) (v : Value) (hv : ∃ a m c, v = .slice a m c) (a e : Int) (he : e ≠ 0) (w : World)
    (LK : Calls Tryz.prog 23 #[.slice va n vc, v] (w.alloc (.cells (odV 0 0) 31)) fun ex w' => ex = .returned (.agg (odV a e)) ∧ Keeps (fun _ => False) (w.alloc (.cells (odV 0 0) 31)) w') :
    Calls Tryz.prog 11 #[.slice va n vc, v] w fun ex w' => ex = .returned (.tuple #[.slice none 0 0, .agg (odV a e)]) ∧ Keeps (fun _ => False) w w' := by
  have k0 := (Keeps.refl (fun _ => False) w).alloc (.cells (odV 0 0) 31)
  have b0 : (w.alloc (.cells (odV 0 0) 31)).heap[w.heap.size]? = some (.cells (odV 0 0) 31 (0, 0)) := (MapKept.heap_alloc w _).1
  obtain ⟨a1, m1, cap1, rfl⟩ := hv
  unfold odV at LK k0 b0 ⊢
  have hzb : (e == 0) = false := by rw [beq_eq_false_iff_ne]; exact he
  have hzn : (e != 0) = true := by rw [bne_iff_ne]; exact he
  go_enter Tryz.func11, Tryz.ntmps11
  go_wp2_with fail
  refine LK.mono ?_
  rintro ex w1 ⟨rfl, k1⟩
  clear LK
  have K1 := k0.trans k1
  have B1 := (k1.block _ (lt_of_block b0) (fun f => f)).trans b0
  have kA := (Keeps.refl (fun _ => False) w1).alloc (.cells #[.int .i64 a, .int .i64 e] 31)
  have bA := (MapKept.heap_alloc w1 (.cells #[.int .i64 a, .int .i64 e] 31)).1
  have B2 := (kA.block _ (lt_of_block B1) (fun f => f)).trans B1
  have hlt1 := lt_of_block B1
  go_wp2_with fail
  obtain ⟨ob7, hob⟩ : ∃ b, b = w1.heap.size := ⟨_, rfl⟩
  rw [← hob] at bA hlt1 ⊢
  generalize hW : w1.alloc (.cells #[.int .i64 a, .int .i64 e] 31) = W at *
  have c0 : W.cell? ⟨w.heap.size, 0, none⟩ = some (.int .i64 0) := by rw [cell_of_block B2]; rfl
  have c1 : W.cell? ⟨w.heap.size, 1, none⟩ = some (.int .i64 0) := by rw [cell_of_block B2]; rfl
  have f0 : W.frozen? ⟨w.heap.size, 0, none⟩ = false := frozen_of_block B2 _
  have f1 : W.frozen? ⟨w.heap.size, 1, none⟩ = false := frozen_of_block B2 _
  have hS0 : W.cell? ⟨ob7, 0, none⟩ = some (.int .i64 a) ∧ W.cell? ⟨ob7, 1, none⟩ = some (.int .i64 e) := ⟨by rw [cell_of_block bA]; rfl, by rw [cell_of_block bA]; rfl⟩
  have hne : ¬ w.heap.size = ob7 := by omega
  have BE : Hid (∀ X : World, X.heap = W.heap → ((X.setCell ⟨w.heap.size, 0, none⟩ (.int .i64 a)).setCell ⟨w.heap.size, 1, none⟩ (.int .i64 e)).heap[w.heap.size]? = some (.cells #[.int .i64 a, .int .i64 e] 31 (0, 0))) := fun X hX => block_set (block_set (w := X) (by rw [hX]; exact B2) 0 (.int .i64 a)) 1 (.int .i64 e)
  have KE := K1.trans kA
  clear hW kA bA B2 K1 hob
  go_region_held3 (fun W : World => W.cell? ⟨ob7, 0, none⟩ = some (.int .i64 a) ∧ W.cell? ⟨ob7, 1, none⟩ = some (.int .i64 e)) (first | assumption | (exact hS0) | go_keep) (fail)
  go_wp2_with fail
  refine bodyPost_ret (odd_ret2 rfl _ _ w.heap.size #[.int .i64 a, .int .i64 e] (BE.out W rfl) rfl rfl) rfl ?_
  exact ⟨rfl, (((KE.setCell (.inl (Nat.le_refl _)) _).setCell (.inl (Nat.le_refl _)) _).drew)⟩
set_option maxRecDepth 100000 in
set_option maxHeartbeats 8000000 in
theorem rbehind_ok (va : Option Addr) (vc : Nat) (F : List Int) (v : Value) (L : List Ev) (hl : L.length ≤ 1050000) (w : World) (hv : EvsAt w v L) (hF : WsAt w (.slice va F.length vc) F) (hF0 : 0 < F.length) (hF1 : F.length ≤ 65536) (hz : checkL L = (-1, 0)) (hp : idxF plainE L 0 = -1) (hm : idxF (missE F.length) L 0 = -1) (W : List Pt) (hW : WrOf (partsL L) W) (m : Nat) (hmW : m ≤ W.length) :
    Calls Tryz.prog 7 #[.slice va F.length vc, v, .int .i64 (m : Int)] w fun ex w' => ∃ u, ex = .returned (.tuple #[u, .agg (odV (-1) 0)]) ∧ OwnR wC 1 26 w' w.heap.size u (stN F W m) ∧ Keeps (fun _ => False) w w' := by
  have hin := in_all hv.wf hm
  have hz2 : (checkL L).2 = 0 := by rw [hz]
  have hWl : W.length ≤ 1050000 := by
    have h1 := hW.perm.length_eq
    have h2 := List.length_filter_le (fun p : Pt => p.wr) (partsL L)
    have h3 := (pinv_parts L).len
    change (partsL L).length ≤ L.length at h3
    omega
  have hwrg : wrgA F.length L = (-1, 0) := by unfold wrgA wrgB; rw [if_pos hp, if_pos hm]
  have k0 := (Keeps.refl (fun _ => False) w).alloc (.cells (odV 0 0) 31)
  have b0 : (w.alloc (.cells (odV 0 0) 31)).heap[w.heap.size]? = some (.cells (odV 0 0) 31 (0, 0)) := (MapKept.heap_alloc w _).1
  have WR := rwrg_ok va vc F.length hF0 hF1 v L (by omega) hz (w.alloc (.cells (odV 0 0) 31)) (hv.keeps k0)
  rw [hwrg] at WR
  have HST : Hid (∀ X, Keeps (fun _ => False) w X → Calls Tryz.prog 24 #[.slice va F.length vc, v] X fun ex w' => ∃ (u : Value) (R : List Sl), ex = .returned u ∧ R.length = W.length + 1 ∧ OwnR sC 1 22 w' X.heap.size u R ∧ (∀ j (hj : j < R.length), OwnR wC 1 26 w' X.heap.size (R[j]).v (stN F W j)) ∧ Keeps (fun _ => False) X w') := fun X kx => rstates_any (.slice va F.length vc) F hF1 hF0 v L (by omega) hz2 hin W hW hWl X (hF.keeps wC_ne kx) (hv.els.keeps ev_ne kx)
  have HV : Hid (∀ X, Keeps (fun _ => False) w X → ElsAt Ev.cl 6 X v L) := fun X kx => hv.els.keeps ev_ne kx
  obtain ⟨ha, hc, rfl, hcap⟩ := hv.els.shape
  unfold odV at k0 b0 WR ⊢
  clear hv hF hz hp hm hW hin hz2 hwrg
  go_enter Tryz.func7, Tryz.ntmps7
  go_wp2_with fail
  refine WR.mono ?_
  rintro ex w1 ⟨rfl, k1⟩
  clear WR
  have K1 := k0.trans k1
  have B1 := (k1.block _ (lt_of_block b0) (fun f => f)).trans b0
  have kA := (Keeps.refl (fun _ => False) w1).alloc (.cells #[.int .i64 (-1), .int .i64 0] 31)
  have bA := (MapKept.heap_alloc w1 (.cells #[.int .i64 (-1), .int .i64 0] 31)).1
  have B2 := (kA.block _ (lt_of_block B1) (fun f => f)).trans B1
  have hlt1 := lt_of_block B1
  have KA := K1.trans kA
  obtain ⟨ob7, hob⟩ : ∃ b, b = w1.heap.size := ⟨_, rfl⟩
  rw [← hob] at bA hlt1
  obtain ⟨A, hA⟩ : ∃ A, A = w1.alloc (.cells #[.int .i64 (-1), .int .i64 0] 31) := ⟨_, rfl⟩
  rw [← hA] at bA B2 KA
  have HAA : Hid (A = _) := hA
  have HOB : Hid (ob7 = _) := hob
  clear K1 B1 kA k0 b0 k1 hA hob
  have ST := HST.out _ KA
  clear HST
  go_wp2_with fail
  rw [← HAA.out]
  try rw [← HOB.out]
  clear HAA HOB
  refine ST.mono ?_
  rintro ex E ⟨vS, R, rfl, hRl, hR, hRe, k2⟩
  clear ST
  have KE := KA.trans k2
  obtain ⟨sa, sc, rfl⟩ := hR.form
  obtain ⟨rn, hrn⟩ : ∃ rn, rn = R.length := ⟨_, rfl⟩
  rw [← hrn] at hR ⊢
  have HR2 : Hid (rn = R.length ∧ R.length = W.length + 1) := ⟨hrn, hRl⟩
  have hrnW : rn = W.length + 1 := by rw [hrn, hRl]
  have HB : Hid (∀ X, Keeps (fun _ => False) E X → X.heap[w.heap.size]? = some (.cells #[.int .i64 0, .int .i64 0] 31 (0, 0)) ∧ X.heap[ob7]? = some (.cells #[.int .i64 (-1), .int .i64 0] 31 (0, 0))) := fun X q => ⟨((k2.trans q).block _ (lt_of_block B2) (fun f => f)).trans B2, ((k2.trans q).block _ (lt_of_block bA) (fun f => f)).trans bA⟩
  have hm0 : ¬ (m : Int) < 0 := by omega
  have hm00 : (0 : Int) ≤ m := by omega
  have hm1 : ¬ (m : Int) ≥ (rn : Int) := by omega
  have hm2 : (m : Int) < (rn : Int) := by omega
  have hmR : m < R.length := by omega
  obtain ⟨gs, sc', hgs, hgb, hgsE, hcs⟩ := own_cellS hR hrn (by omega)
  simp only [Value.slice.injEq] at hgs
  obtain ⟨rfl, -, rfl⟩ := hgs
  have xs := hcs E (Keeps.refl _ _) m hmR
  have HW : Hid (OwnR wC 1 26 E A.heap.size (R[m]'hmR).v (stN F W m)) := hRe m hmR
  have hAw := KA.size
  have hgw : ¬ gs = w.heap.size := by have := lt_of_block B2; omega
  have hgw2 : ¬ w.heap.size = gs := fun e => hgw e.symm
  generalize R[m]'hmR = s at *
  obtain ⟨s1, s2, s3⟩ := s
  dsimp only [Sl.v] at xs HW
  generalize hWo : E = Wo at *
  have kr := Keeps.refl (fun _ => False) Wo
  obtain ⟨B3, bA3⟩ := HB.out Wo kr
  have c0 : Wo.cell? ⟨w.heap.size, 0, none⟩ = some (.int .i64 0) := by rw [cell_of_block B3]; rfl
  have c1 : Wo.cell? ⟨w.heap.size, 1, none⟩ = some (.int .i64 0) := by rw [cell_of_block B3]; rfl
  have f0 : Wo.frozen? ⟨w.heap.size, 0, none⟩ = false := frozen_of_block B3 _
  have f1 : Wo.frozen? ⟨w.heap.size, 1, none⟩ = false := frozen_of_block B3 _
  have o0 : Wo.cell? ⟨ob7, 0, none⟩ = some (.int .i64 (-1)) := by rw [cell_of_block bA3]; rfl
  have o1 : Wo.cell? ⟨ob7, 1, none⟩ = some (.int .i64 0) := by rw [cell_of_block bA3]; rfl
  have hne : ¬ w.heap.size = ob7 := by omega
  have BE : Hid (∀ X : World, X.heap = Wo.heap → ((X.setCell ⟨w.heap.size, 0, none⟩ (.int .i64 (-1))).setCell ⟨w.heap.size, 1, none⟩ (.int .i64 0)).heap[w.heap.size]? = some (.cells #[.int .i64 (-1), .int .i64 0] 31 (0, 0))) := fun X hX => block_set (block_set (w := X) (by rw [hX]; exact B3) 0 (.int .i64 (-1))) 1 (.int .i64 0)
  have kF := ((Keeps.refl (fun q => q = w.heap.size) Wo).setCell (p := ⟨w.heap.size, 0, none⟩) (.inr rfl) (.int .i64 (-1))).setCell (p := ⟨w.heap.size, 1, none⟩) (.inr rfl) (.int .i64 0)
  have hEs := KE.size
  have KF : Keeps (fun _ => False) w ((Wo.setCell ⟨w.heap.size, 0, none⟩ (.int .i64 (-1))).setCell ⟨w.heap.size, 1, none⟩ (.int .i64 0)) := (KE.trans kr).young kF (fun q e => by omega)
  have HF : Hid (OwnR wC 1 26 ((Wo.setCell ⟨w.heap.size, 0, none⟩ (.int .i64 (-1))).setCell ⟨w.heap.size, 1, none⟩ (.int .i64 0)) w.heap.size (.slice s1 s2 s3) (stN F W m)) := (HW.out.lowE hAw).keeps kF (fun g hg e => by have := (own_block HW.out.own hg).2; have := lt_of_block B2; omega)
  have hS0 : Wo.cell? ⟨ob7, 0, none⟩ = some (.int .i64 (-1)) ∧ Wo.cell? ⟨ob7, 1, none⟩ = some (.int .i64 0) ∧ Wo.cell? ⟨gs, m, none⟩ = some (.slice s1 s2 s3) := ⟨o0, o1, xs⟩
  clear hcs hR hRe HW HB kF B2 bA B3 bA3 k2 KE hWo
  go_wp2_with fail
  go_region_held3 (fun W : World => W.cell? ⟨ob7, 0, none⟩ = some (.int .i64 (-1)) ∧ W.cell? ⟨ob7, 1, none⟩ = some (.int .i64 0) ∧ W.cell? ⟨gs, m, none⟩ = some (.slice s1 s2 s3)) (first | assumption | (exact hS0) | go_keep) (fail)
  go_wp2_with fail
  refine bodyPost_ret (odd_ret2 rfl _ _ w.heap.size #[.int .i64 (-1), .int .i64 0] (BE.out Wo rfl) rfl rfl) rfl ?_
  exact ⟨_, rfl, HF.out.keeps ((Keeps.refl _ _).drew) (fun _ _ f => f), KF.drew⟩
end Go.Proofs.YthmiainhaebjiaaGreatDoor

/- The document's Behind out of range, and Together (layer 16). No statement of the seat is proved here. -/
namespace Go.Proofs.YthmiainhaebjiaaGreatDoor
open Go.RowKit Go.Shelf

set_option maxRecDepth 100000 in
set_option maxHeartbeats 8000000 in
theorem rbehind_arg (va : Option Addr) (vc : Nat) (F : List Int) (v : Value) (L : List Ev) (hl : L.length ≤ 1050000) (w : World) (hv : EvsAt w v L) (hF : WsAt w (.slice va F.length vc) F) (hF0 : 0 < F.length) (hF1 : F.length ≤ 65536) (hz : checkL L = (-1, 0)) (hp : idxF plainE L 0 = -1) (hm : idxF (missE F.length) L 0 = -1) (W : List Pt) (hW : WrOf (partsL L) W) (m : Int) (hmW : m < 0 ∨ (W.length : Int) < m) :
    Calls Tryz.prog 7 #[.slice va F.length vc, v, .int .i64 m] w fun ex w' => ex = .returned (.tuple #[.slice none 0 0, .agg (odV (-1) 2)]) ∧ Keeps (fun _ => False) w w' := by
  have hin := in_all hv.wf hm
  have hz2 : (checkL L).2 = 0 := by rw [hz]
  have hWl : W.length ≤ 1050000 := by
    have h1 := hW.perm.length_eq
    have h2 := List.length_filter_le (fun p : Pt => p.wr) (partsL L)
    have h3 := (pinv_parts L).len
    change (partsL L).length ≤ L.length at h3
    omega
  have hwrg : wrgA F.length L = (-1, 0) := by unfold wrgA wrgB; rw [if_pos hp, if_pos hm]
  have k0 := (Keeps.refl (fun _ => False) w).alloc (.cells (odV 0 0) 31)
  have b0 : (w.alloc (.cells (odV 0 0) 31)).heap[w.heap.size]? = some (.cells (odV 0 0) 31 (0, 0)) := (MapKept.heap_alloc w _).1
  have WR := rwrg_ok va vc F.length hF0 hF1 v L (by omega) hz (w.alloc (.cells (odV 0 0) 31)) (hv.keeps k0)
  rw [hwrg] at WR
  have HST : Hid (∀ X, Keeps (fun _ => False) w X → Calls Tryz.prog 24 #[.slice va F.length vc, v] X fun ex w' => ∃ (u : Value) (R : List Sl), ex = .returned u ∧ R.length = W.length + 1 ∧ OwnR sC 1 22 w' X.heap.size u R ∧ (∀ j (hj : j < R.length), OwnR wC 1 26 w' X.heap.size (R[j]).v (stN F W j)) ∧ Keeps (fun _ => False) X w') := fun X kx => rstates_any (.slice va F.length vc) F hF1 hF0 v L (by omega) hz2 hin W hW hWl X (hF.keeps wC_ne kx) (hv.els.keeps ev_ne kx)
  have HV : Hid (∀ X, Keeps (fun _ => False) w X → ElsAt Ev.cl 6 X v L) := fun X kx => hv.els.keeps ev_ne kx
  obtain ⟨ha, hc, rfl, hcap⟩ := hv.els.shape
  unfold odV at k0 b0 WR ⊢
  clear hv hF hz hp hm hW hin hz2 hwrg
  go_enter Tryz.func7, Tryz.ntmps7
  go_wp2_with fail
  refine WR.mono ?_
  rintro ex w1 ⟨rfl, k1⟩
  clear WR
  have K1 := k0.trans k1
  have B1 := (k1.block _ (lt_of_block b0) (fun f => f)).trans b0
  have kA := (Keeps.refl (fun _ => False) w1).alloc (.cells #[.int .i64 (-1), .int .i64 0] 31)
  have bA := (MapKept.heap_alloc w1 (.cells #[.int .i64 (-1), .int .i64 0] 31)).1
  have B2 := (kA.block _ (lt_of_block B1) (fun f => f)).trans B1
  have hlt1 := lt_of_block B1
  have KA := K1.trans kA
  obtain ⟨ob7, hob⟩ : ∃ b, b = w1.heap.size := ⟨_, rfl⟩
  rw [← hob] at bA hlt1
  obtain ⟨A, hA⟩ : ∃ A, A = w1.alloc (.cells #[.int .i64 (-1), .int .i64 0] 31) := ⟨_, rfl⟩
  rw [← hA] at bA B2 KA
  have HAA : Hid (A = _) := hA
  have HOB : Hid (ob7 = _) := hob
  clear K1 B1 kA k0 b0 k1 hA hob
  have ST := HST.out _ KA
  clear HST
  go_wp2_with fail
  rw [← HAA.out]
  try rw [← HOB.out]
  clear HAA HOB
  refine ST.mono ?_
  rintro ex E ⟨vS, R, rfl, hRl, hR, hRe, k2⟩
  clear ST
  have KE := KA.trans k2
  obtain ⟨sa, sc, rfl⟩ := hR.form
  obtain ⟨rn, hrn⟩ : ∃ rn, rn = R.length := ⟨_, rfl⟩
  rw [← hrn] at hR ⊢
  have HR2 : Hid (rn = R.length ∧ R.length = W.length + 1) := ⟨hrn, hRl⟩
  have hrnW : rn = W.length + 1 := by rw [hrn, hRl]
  have HB : Hid (∀ X, Keeps (fun _ => False) E X → X.heap[w.heap.size]? = some (.cells #[.int .i64 0, .int .i64 0] 31 (0, 0)) ∧ X.heap[ob7]? = some (.cells #[.int .i64 (-1), .int .i64 0] 31 (0, 0))) := fun X q => ⟨((k2.trans q).block _ (lt_of_block B2) (fun f => f)).trans B2, ((k2.trans q).block _ (lt_of_block bA) (fun f => f)).trans bA⟩
  have WG := rwrong_any (-1) 2 E
  clear hR hRe B2 bA k2 hrn hRl
  by_cases h0 : m < 0
  · clear hmW hrnW
    go_wp2_with fail
    refine WG.mono ?_
    rintro ex Wz ⟨rfl, kz⟩
    clear WG
    have kr := (Keeps.refl (fun _ => False) E).trans kz
    obtain ⟨B3, -⟩ := HB.out Wz kr
    have c0 : Wz.cell? ⟨w.heap.size, 0, none⟩ = some (.int .i64 0) := by rw [cell_of_block B3]; rfl
    have c1 : Wz.cell? ⟨w.heap.size, 1, none⟩ = some (.int .i64 0) := by rw [cell_of_block B3]; rfl
    have f0 : Wz.frozen? ⟨w.heap.size, 0, none⟩ = false := frozen_of_block B3 _
    have f1 : Wz.frozen? ⟨w.heap.size, 1, none⟩ = false := frozen_of_block B3 _
    have BE := block_set (block_set B3 0 (.int .i64 (-1))) 1 (.int .i64 2)
    have KF := ((KE.trans kr).setCell (p := ⟨w.heap.size, 0, none⟩) (.inl (Nat.le_refl _)) (.int .i64 (-1))).setCell (p := ⟨w.heap.size, 1, none⟩) (.inl (Nat.le_refl _)) (.int .i64 2)
    clear B3 HB kr kz
    go_wp2_with fail
    refine bodyPost_ret (odd_ret2 rfl _ _ w.heap.size #[.int .i64 (-1), .int .i64 2] BE rfl rfl) rfl ?_
    exact ⟨rfl, KF⟩
  · have h1 : m ≥ (rn : Int) := by omega
    clear hmW hrnW
    go_wp2_with fail
    refine WG.mono ?_
    rintro ex Wz ⟨rfl, kz⟩
    clear WG
    have kr := (Keeps.refl (fun _ => False) E).trans kz
    obtain ⟨B3, -⟩ := HB.out Wz kr
    have c0 : Wz.cell? ⟨w.heap.size, 0, none⟩ = some (.int .i64 0) := by rw [cell_of_block B3]; rfl
    have c1 : Wz.cell? ⟨w.heap.size, 1, none⟩ = some (.int .i64 0) := by rw [cell_of_block B3]; rfl
    have f0 : Wz.frozen? ⟨w.heap.size, 0, none⟩ = false := frozen_of_block B3 _
    have f1 : Wz.frozen? ⟨w.heap.size, 1, none⟩ = false := frozen_of_block B3 _
    have BE := block_set (block_set B3 0 (.int .i64 (-1))) 1 (.int .i64 2)
    have KF := ((KE.trans kr).setCell (p := ⟨w.heap.size, 0, none⟩) (.inl (Nat.le_refl _)) (.int .i64 (-1))).setCell (p := ⟨w.heap.size, 1, none⟩) (.inl (Nat.le_refl _)) (.int .i64 2)
    clear B3 HB kr kz
    go_wp2_with fail
    refine bodyPost_ret (odd_ret2 rfl _ _ w.heap.size #[.int .i64 (-1), .int .i64 2] BE rfl rfl) rfl ?_
    exact ⟨rfl, KF⟩

set_option maxRecDepth 100000 in
set_option maxHeartbeats 8000000 in
theorem rtog_far (va : Option Addr) (vc : Nat) (F : List Int) (v : Value) (L : List Ev) (hl : L.length ≤ 1050000) (vs : Value) (ws : List (Int × Int)) (hwl : ws.length ≤ 1100000) (w : World) (hv : EvsAt w v L) (hF : WsAt w (.slice va F.length vc) F) (hs : ElsAt clC 2 w vs ws) (hF0 : 0 < F.length) (hF1 : F.length ≤ 65536) (hz : checkL L = (-1, 0)) (hp : idxF plainE L 0 = -1) (hm : idxF (missE F.length) L 0 = -1) (W : List Pt) (hW : WrOf (partsL L) W) (hex : ∃ e ∈ ws, (F.length : Int) ≤ e.1) :
    Calls Tryz.prog 9 #[.slice va F.length vc, v, vs] w fun ex w' => ex = .returned (.tuple #[.slice none 0 0, .agg (odV (-1) 4)]) ∧ Keeps (fun _ => False) w w' := by
  have hin := in_all hv.wf hm
  have hz2 : (checkL L).2 = 0 := by rw [hz]
  have hWl : W.length ≤ 1050000 := by
    have h1 := hW.perm.length_eq
    have h2 := List.length_filter_le (fun p : Pt => p.wr) (partsL L)
    have h3 := (pinv_parts L).len
    change (partsL L).length ≤ L.length at h3
    omega
  have hwrg : wrgA F.length L = (-1, 0) := by unfold wrgA wrgB; rw [if_pos hp, if_pos hm]
  have k0 := (Keeps.refl (fun _ => False) w).alloc (.cells (odV 0 0) 31)
  have b0 : (w.alloc (.cells (odV 0 0) 31)).heap[w.heap.size]? = some (.cells (odV 0 0) 31 (0, 0)) := (MapKept.heap_alloc w _).1
  have WR := rwrg_ok va vc F.length hF0 hF1 v L (by omega) hz (w.alloc (.cells (odV 0 0) 31)) (hv.keeps k0)
  rw [hwrg] at WR
  have HST : Hid (∀ X, Keeps (fun _ => False) w X → Calls Tryz.prog 24 #[.slice va F.length vc, v] X fun ex w' => ∃ (u : Value) (R : List Sl), ex = .returned u ∧ R.length = W.length + 1 ∧ OwnR sC 1 22 w' X.heap.size u R ∧ (∀ j (hj : j < R.length), OwnR wC 1 26 w' X.heap.size (R[j]).v (stN F W j)) ∧ Keeps (fun _ => False) X w') := fun X kx => rstates_any (.slice va F.length vc) F hF1 hF0 v L (by omega) hz2 hin W hW hWl X (hF.keeps wC_ne kx) (hv.els.keeps ev_ne kx)
  have HV : Hid (∀ X, Keeps (fun _ => False) w X → ElsAt Ev.cl 6 X v L) := fun X kx => hv.els.keeps ev_ne kx
  obtain ⟨ha, hc, rfl, hcap⟩ := hv.els.shape
  unfold odV at k0 b0 WR ⊢
  have HS : Hid (∀ X, Keeps (fun _ => False) w X → ElsAt clC 2 X vs ws) := fun X k => hs.keeps cl_ne k
  obtain ⟨wa, wc, rfl, hwc⟩ := hs.shape
  clear hv hF hz hp hm hW hin hz2 hwrg hs
  go_enter Tryz.func9, Tryz.ntmps9
  go_wp2_with fail
  refine WR.mono ?_
  rintro ex w1 ⟨rfl, k1⟩
  clear WR
  have K1 := k0.trans k1
  have B1 := (k1.block _ (lt_of_block b0) (fun f => f)).trans b0
  have kA := (Keeps.refl (fun _ => False) w1).alloc (.cells #[.int .i64 (-1), .int .i64 0] 31)
  have bA := (MapKept.heap_alloc w1 (.cells #[.int .i64 (-1), .int .i64 0] 31)).1
  have B2 := (kA.block _ (lt_of_block B1) (fun f => f)).trans B1
  have hlt1 := lt_of_block B1
  have KA := K1.trans kA
  obtain ⟨ob7, hob⟩ : ∃ b, b = w1.heap.size := ⟨_, rfl⟩
  rw [← hob] at bA hlt1
  obtain ⟨A, hA⟩ : ∃ A, A = w1.alloc (.cells #[.int .i64 (-1), .int .i64 0] 31) := ⟨_, rfl⟩
  rw [← hA] at bA B2 KA
  have HAA : Hid (A = _) := hA
  have HOB : Hid (ob7 = _) := hob
  clear K1 B1 kA k0 b0 k1 hA hob
  go_wp2_with fail
  rw [← HAA.out]
  try rw [← HOB.out]
  clear HAA HOB
  go_loopw [9] (fun u wr => ∃ i : Nat, u = .int .i64 i ∧ i ≤ ws.length ∧ Hid (∀ j (hj : j < ws.length), j < i → (ws[j]).1 < (F.length : Int)) ∧ Keeps (fun _ => False) A wr) (fun u _ => ws.length - (intOf u).toNat)
  case atStart => exact ⟨0, rfl, Nat.zero_le _, fun j hj h => by omega, Keeps.refl _ _⟩
  case round =>
    obtain ⟨i, rfl, hi, hh, kr⟩ := hrel
    have hwi : IntKind.i64.wrap ((i : Int) + 1) = (i : Int) + 1 := by rw [IntKind.wrap_i64]; omega
    have hcv : IntKind.u64.wrap (F.length : Int) = (F.length : Int) := by rw [IntKind.wrap_u64]; omega
    by_cases hlt : i < ws.length
    · have hii : (i : Int) < ws.length := by omega
      have hi0 : (0 : Int) ≤ i := by omega
      obtain ⟨gw, ow, e1, hc⟩ := (HS.out wr (KA.trans kr)).at i hlt
      subst e1
      have y0 := hc 0 _ rfl
      simp only [Nat.add_zero] at y0
      by_cases hfar : (ws[i]'hlt).1 < (F.length : Int)
      · have HF : Hid (∀ j (hj : j < ws.length), j < i + 1 → (ws[j]).1 < (F.length : Int)) := fun j hj h => by
          by_cases hji : j = i
          · subst hji; exact hfar
          · exact hh.out j hj (by omega)
        have hge : ¬ (ws[i]'hlt).1 ≥ (F.length : Int) := by omega
        generalize (ws[i]'hlt).1 = ad at *
        clear hh hc
        go_wp2_with fail
        go_roundw
        · exact ⟨i + 1, by simp, by omega, HF, kr⟩
        · simp [intOf]; omega
      · have hge : (ws[i]'hlt).1 ≥ (F.length : Int) := by omega
        generalize (ws[i]'hlt).1 = ad at *
        have WG := rwrong_any (-1) 4 wr
        have HB : Hid (∀ X, Keeps (fun _ => False) A X → X.heap[w.heap.size]? = some (.cells #[.int .i64 0, .int .i64 0] 31 (0, 0)) ∧ True) := fun X q => ⟨(q.block _ (lt_of_block B2) (fun f => f)).trans B2, trivial⟩
        have KE := KA
        clear hh hc HST
        go_wp2_with fail
        refine WG.mono ?_
        rintro ex Wz ⟨rfl, kz⟩
        clear WG
        have kr := (kr).trans kz
        obtain ⟨B3, -⟩ := HB.out Wz kr
        have c0 : Wz.cell? ⟨w.heap.size, 0, none⟩ = some (.int .i64 0) := by rw [cell_of_block B3]; rfl
        have c1 : Wz.cell? ⟨w.heap.size, 1, none⟩ = some (.int .i64 0) := by rw [cell_of_block B3]; rfl
        have f0 : Wz.frozen? ⟨w.heap.size, 0, none⟩ = false := frozen_of_block B3 _
        have f1 : Wz.frozen? ⟨w.heap.size, 1, none⟩ = false := frozen_of_block B3 _
        have BE := block_set (block_set B3 0 (.int .i64 (-1))) 1 (.int .i64 4)
        have KF := ((KE.trans kr).setCell (p := ⟨w.heap.size, 0, none⟩) (.inl (Nat.le_refl _)) (.int .i64 (-1))).setCell (p := ⟨w.heap.size, 1, none⟩) (.inl (Nat.le_refl _)) (.int .i64 4)
        clear B3 HB kr kz
        go_wp2_with fail
        refine bodyPost_ret (odd_ret2 rfl _ _ w.heap.size #[.int .i64 (-1), .int .i64 4] BE rfl rfl) rfl ?_
        exact ⟨rfl, KF⟩
    · have hii : ¬ (i : Int) < ws.length := by omega
      obtain ⟨e, he, hle⟩ := hex
      obtain ⟨j, hj, rfl⟩ := List.getElem_of_mem he
      have := hh.out j hj (by omega)
      omega
set_option maxRecDepth 100000 in
set_option maxHeartbeats 8000000 in
theorem rtog_ok (va : Option Addr) (vc : Nat) (F : List Int) (v : Value) (L : List Ev) (hl : L.length ≤ 1050000) (vs : Value) (ws : List (Int × Int)) (hwl : ws.length ≤ 1100000) (w : World) (hv : EvsAt w v L) (hF : WsAt w (.slice va F.length vc) F) (hs : ElsAt clC 2 w vs ws) (hF0 : 0 < F.length) (hF1 : F.length ≤ 65536) (hz : checkL L = (-1, 0)) (hp : idxF plainE L 0 = -1) (hm : idxF (missE F.length) L 0 = -1) (W : List Pt) (hW : WrOf (partsL L) W) (hall : ∀ e ∈ ws, 0 ≤ e.1 ∧ e.1 < (F.length : Int)) :
    Calls Tryz.prog 9 #[.slice va F.length vc, v, vs] w fun ex w' => ∃ u, ex = .returned (.tuple #[u, .agg (odV (-1) 0)]) ∧ NR w' w.heap.size u (togL F W 0 W.length ws) ∧ Keeps (fun _ => False) w w' := by
  have hin := in_all hv.wf hm
  have hz2 : (checkL L).2 = 0 := by rw [hz]
  have hWl : W.length ≤ 1050000 := by
    have h1 := hW.perm.length_eq
    have h2 := List.length_filter_le (fun p : Pt => p.wr) (partsL L)
    have h3 := (pinv_parts L).len
    change (partsL L).length ≤ L.length at h3
    omega
  have hwrg : wrgA F.length L = (-1, 0) := by unfold wrgA wrgB; rw [if_pos hp, if_pos hm]
  have k0 := (Keeps.refl (fun _ => False) w).alloc (.cells (odV 0 0) 31)
  have b0 : (w.alloc (.cells (odV 0 0) 31)).heap[w.heap.size]? = some (.cells (odV 0 0) 31 (0, 0)) := (MapKept.heap_alloc w _).1
  have WR := rwrg_ok va vc F.length hF0 hF1 v L (by omega) hz (w.alloc (.cells (odV 0 0) 31)) (hv.keeps k0)
  rw [hwrg] at WR
  have HST : Hid (∀ X, Keeps (fun _ => False) w X → Calls Tryz.prog 24 #[.slice va F.length vc, v] X fun ex w' => ∃ (u : Value) (R : List Sl), ex = .returned u ∧ R.length = W.length + 1 ∧ OwnR sC 1 22 w' X.heap.size u R ∧ (∀ j (hj : j < R.length), OwnR wC 1 26 w' X.heap.size (R[j]).v (stN F W j)) ∧ Keeps (fun _ => False) X w') := fun X kx => rstates_any (.slice va F.length vc) F hF1 hF0 v L (by omega) hz2 hin W hW hWl X (hF.keeps wC_ne kx) (hv.els.keeps ev_ne kx)
  have HV : Hid (∀ X, Keeps (fun _ => False) w X → ElsAt Ev.cl 6 X v L) := fun X kx => hv.els.keeps ev_ne kx
  obtain ⟨ha, hc, rfl, hcap⟩ := hv.els.shape
  unfold odV at k0 b0 WR ⊢
  have HS : Hid (∀ X, Keeps (fun _ => False) w X → ElsAt clC 2 X vs ws) := fun X k => hs.keeps cl_ne k
  obtain ⟨wa, wc, rfl, hwc⟩ := hs.shape
  clear hv hF hz hp hm hW hin hz2 hwrg hs
  go_enter Tryz.func9, Tryz.ntmps9
  go_wp2_with fail
  refine WR.mono ?_
  rintro ex w1 ⟨rfl, k1⟩
  clear WR
  have K1 := k0.trans k1
  have B1 := (k1.block _ (lt_of_block b0) (fun f => f)).trans b0
  have kA := (Keeps.refl (fun _ => False) w1).alloc (.cells #[.int .i64 (-1), .int .i64 0] 31)
  have bA := (MapKept.heap_alloc w1 (.cells #[.int .i64 (-1), .int .i64 0] 31)).1
  have B2 := (kA.block _ (lt_of_block B1) (fun f => f)).trans B1
  have hlt1 := lt_of_block B1
  have KA := K1.trans kA
  obtain ⟨ob7, hob⟩ : ∃ b, b = w1.heap.size := ⟨_, rfl⟩
  rw [← hob] at bA hlt1
  obtain ⟨A, hA⟩ : ∃ A, A = w1.alloc (.cells #[.int .i64 (-1), .int .i64 0] 31) := ⟨_, rfl⟩
  rw [← hA] at bA B2 KA
  have HAA : Hid (A = _) := hA
  have HOB : Hid (ob7 = _) := hob
  clear K1 B1 kA k0 b0 k1 hA hob
  go_wp2_with fail
  rw [← HAA.out]
  try rw [← HOB.out]
  clear HAA HOB
  go_loopw [9] (fun u wr => ∃ i : Nat, u = .int .i64 i ∧ i ≤ ws.length ∧ Hid (∀ j (hj : j < ws.length), j < i → (ws[j]).1 < (F.length : Int)) ∧ Keeps (fun _ => False) A wr) (fun u _ => ws.length - (intOf u).toNat)
  case atStart => exact ⟨0, rfl, Nat.zero_le _, fun j hj h => by omega, Keeps.refl _ _⟩
  case round =>
    obtain ⟨i, rfl, hi, hh, kr⟩ := hrel
    have hwi : IntKind.i64.wrap ((i : Int) + 1) = (i : Int) + 1 := by rw [IntKind.wrap_i64]; omega
    have hcv : IntKind.u64.wrap (F.length : Int) = (F.length : Int) := by rw [IntKind.wrap_u64]; omega
    by_cases hlt : i < ws.length
    · have hii : (i : Int) < ws.length := by omega
      have hi0 : (0 : Int) ≤ i := by omega
      obtain ⟨gw, ow, e1, hc⟩ := (HS.out wr (KA.trans kr)).at i hlt
      subst e1
      have y0 := hc 0 _ rfl
      simp only [Nat.add_zero] at y0
      by_cases hfar : (ws[i]'hlt).1 < (F.length : Int)
      · have HF : Hid (∀ j (hj : j < ws.length), j < i + 1 → (ws[j]).1 < (F.length : Int)) := fun j hj h => by
          by_cases hji : j = i
          · subst hji; exact hfar
          · exact hh.out j hj (by omega)
        have hge : ¬ (ws[i]'hlt).1 ≥ (F.length : Int) := by omega
        generalize (ws[i]'hlt).1 = ad at *
        clear hh hc
        go_wp2_with fail
        go_roundw
        · exact ⟨i + 1, by simp, by omega, HF, kr⟩
        · simp [intOf]; omega
      · have hge : (ws[i]'hlt).1 ≥ (F.length : Int) := by omega
        have := (hall _ (List.getElem_mem hlt)).2
        omega
    · have hii : ¬ (i : Int) < ws.length := by omega
      have ST := HST.out wr (KA.trans kr)
      have kA0 := kr
      clear HST hh
      go_wp2_with fail
      refine ST.mono ?_
      rintro ex E ⟨vS, R, rfl, hRl, hR, hRe, k2⟩
      clear ST
      have KE := (KA.trans kA0).trans k2
      obtain ⟨sa, sc, rfl⟩ := hR.form
      obtain ⟨rn, hrn⟩ : ∃ rn, rn = R.length := ⟨_, rfl⟩
      rw [← hrn] at hR ⊢
      have HR2 : Hid (rn = R.length ∧ R.length = W.length + 1) := ⟨hrn, hRl⟩
      have hrnW : rn = W.length + 1 := by rw [hrn, hRl]
      have HB : Hid (∀ X, Keeps (fun _ => False) E X → X.heap[w.heap.size]? = some (.cells #[.int .i64 0, .int .i64 0] 31 (0, 0)) ∧ X.heap[ob7]? = some (.cells #[.int .i64 (-1), .int .i64 0] 31 (0, 0))) := fun X q => ⟨(((kA0.trans k2).trans q).block _ (lt_of_block B2) (fun f => f)).trans B2, (((kA0.trans k2).trans q).block _ (lt_of_block bA) (fun f => f)).trans bA⟩
      have HX : Hid (∀ X, Keeps (fun _ => False) E X → OwnR sC 1 22 X wr.heap.size (.slice sa rn sc) R ∧ ∀ j (hj : j < R.length), WsAt X (R[j]).v (stN F W j)) := fun X k => ⟨hR.keeps k (fun _ _ f => f), fun j hj => ((hRe j hj).keeps k (fun _ _ f => f)).els wC_len⟩
      have O0 : Hid (NR E E.heap.size (.slice none 0 0) (togU F W 0 0 ws)) := OwnR.nil _ _ _ _
      clear hR hRe hrn hRl B2 bA kr
      go_wp2_with fail
      go_loopw [11, 12] (fun u11 u12 wr => ∃ n : Nat, u12 = .int .i64 n ∧ n ≤ rn ∧ Hid (NR wr E.heap.size u11 (togU F W 0 n ws)) ∧ Keeps (fun _ => False) E wr) (fun _ u12 _ => rn - (intOf u12).toNat)
      case atStart => exact ⟨0, rfl, Nat.zero_le _, O0, Keeps.refl _ _⟩
      case round =>
        clear O0
        obtain ⟨n, rfl, hn, hO, kr⟩ := hrel
        generalize wr = Wo at *
        have hwn : IntKind.i64.wrap ((n : Int) + 1) = (n : Int) + 1 := by rw [IntKind.wrap_i64]; omega
        obtain ⟨oa, oc, rfl⟩ := hO.out.form
        obtain ⟨ol, hol⟩ : ∃ q, q = (togU F W 0 n ws).length := ⟨_, rfl⟩
        have hol6 : ol ≤ n := by
          rw [hol]
          unfold togU
          rw [List.length_map]
          exact Nat.le_trans (List.length_filter_le _ _) (by simp)
        rw [← hol] at hO ⊢
        by_cases hln : n < rn
        · have hni : (n : Int) < rn := by omega
          have hn0 : (0 : Int) ≤ n := by omega
          have hnR : n < R.length := by have := HR2.out.1; omega
          obtain ⟨gs, sc', hgs, -, -, hcs⟩ := own_cellS (HX.out Wo kr).1 HR2.out.1 (by omega)
          simp only [Value.slice.injEq] at hgs
          obtain ⟨rfl, -, rfl⟩ := hgs
          have x0 := hcs Wo (Keeps.refl _ _) n hnR
          have hws := (HX.out Wo kr).2 n hnR
          generalize R[n]'hnR = s at *
          obtain ⟨s1, s2, s3⟩ := s
          dsimp only [Sl.v] at x0 hws
          have SD := rstood_any (.slice s1 s2 s3) (.slice wa ws.length wc) (stN F W n) ws (by omega) (by rw [stN_len]; exact hall) Wo hws (HS.out Wo (KE.trans kr))
          have hsuc : togU F W 0 (n + 1) ws = if stdL (stN F W n) ws = true then togU F W 0 n ws ++ [(n : Int)] else togU F W 0 n ws := by
            unfold togU
            rw [List.range_succ, List.filter_append, List.map_append]
            simp only [Nat.zero_add]
            by_cases q : stdL (stN F W n) ws = true
            · rw [if_pos q]
              have : List.filter (fun k => stdL (stN F W k) ws) [n] = [n] := by simp [q]
              rw [this]
              simp
            · rw [if_neg q]
              have : List.filter (fun k => stdL (stN F W k) ws) [n] = [] := by simp [q]
              rw [this]
              simp
          generalize stdL (stN F W n) ws = zb at *
          clear hcs hws
          cases zb with
          | true =>
            rw [if_pos rfl] at hsuc
            have HSU : Hid (_ = _) := hsuc
            clear hsuc
            go_wp2_with fail
            refine SD.mono ?_
            rintro ex w6 ⟨rfl, k6⟩
            clear SD
            have O6 := hO.out.keeps k6 (fun _ _ f => f)
            obtain ⟨v', w7, r1, r2, r3⟩ := O6.push (P := Tryz.prog) nC_len nC_one (by decide) Tryz.underlying34 info_nC rfl (by decide) (ty := 34) (n : Int) (cs := #[.int .i64 (n : Int)]) rfl (by rw [← hol]; omega)
            rw [← HSU.out] at r2
            have K7 : Keeps (fun _ => False) E w7 := OwnR.kept r3 (kr.trans k6) O6
            obtain ⟨⟨za, zn, zc⟩, rfl, -⟩ := sl_of r2
            dsimp only [Sl.v] at r1
            have HA : Hid (_ = _) := r1
            have HF : Hid (NR w7 E.heap.size (.slice za zn zc) (togU F W 0 (n + 1) ws)) := r2
            clear r1 r2 r3 O6 hO HSU x0 hol
            go_wp2_with (at_builtin; refine wpList_append_run rfl _ _ 34 rfl rfl rfl HA.out ?_)
            go_roundw
            · exact ⟨n + 1, by simp, by omega, HF, K7⟩
            · simp [intOf]; omega
          | false =>
            rw [if_neg (by decide)] at hsuc
            go_wp2_with fail
            refine SD.mono ?_
            rintro ex w6 ⟨rfl, k6⟩
            clear SD
            have HF : Hid (NR w6 E.heap.size (.slice oa ol oc) (togU F W 0 (n + 1) ws)) := by unfold Hid; rw [hsuc]; exact hO.out.keeps k6 (fun _ _ f => f)
            have K7 := kr.trans k6
            clear hsuc hO x0 hol
            go_wp2_with fail
            go_roundw
            · exact ⟨n + 1, by simp, by omega, HF, K7⟩
            · simp [intOf]; omega
        · have hni : ¬ (n : Int) < rn := by omega
          have hnW : n = W.length + 1 := by omega
          obtain ⟨B3, bA3⟩ := HB.out Wo kr
          have c0 : Wo.cell? ⟨w.heap.size, 0, none⟩ = some (.int .i64 0) := by rw [cell_of_block B3]; rfl
          have c1 : Wo.cell? ⟨w.heap.size, 1, none⟩ = some (.int .i64 0) := by rw [cell_of_block B3]; rfl
          have f0 : Wo.frozen? ⟨w.heap.size, 0, none⟩ = false := frozen_of_block B3 _
          have f1 : Wo.frozen? ⟨w.heap.size, 1, none⟩ = false := frozen_of_block B3 _
          have o0 : Wo.cell? ⟨ob7, 0, none⟩ = some (.int .i64 (-1)) := by rw [cell_of_block bA3]; rfl
          have o1 : Wo.cell? ⟨ob7, 1, none⟩ = some (.int .i64 0) := by rw [cell_of_block bA3]; rfl
          have hne : ¬ w.heap.size = ob7 := by omega
          have BE : Hid (∀ X : World, X.heap = Wo.heap → ((X.setCell ⟨w.heap.size, 0, none⟩ (.int .i64 (-1))).setCell ⟨w.heap.size, 1, none⟩ (.int .i64 0)).heap[w.heap.size]? = some (.cells #[.int .i64 (-1), .int .i64 0] 31 (0, 0))) := fun X hX => block_set (block_set (w := X) (by rw [hX]; exact B3) 0 (.int .i64 (-1))) 1 (.int .i64 0)
          have kF := ((Keeps.refl (fun q => q = w.heap.size) Wo).setCell (p := ⟨w.heap.size, 0, none⟩) (.inr rfl) (.int .i64 (-1))).setCell (p := ⟨w.heap.size, 1, none⟩) (.inr rfl) (.int .i64 0)
          have hEs := KE.size
          have KF : Keeps (fun _ => False) w ((Wo.setCell ⟨w.heap.size, 0, none⟩ (.int .i64 (-1))).setCell ⟨w.heap.size, 1, none⟩ (.int .i64 0)) := (KE.trans kr).young kF (fun q e => by omega)
          have hEs2 : w.heap.size < E.heap.size := lt_of_block (HB.out E (Keeps.refl _ _)).1
          have HF : Hid (NR ((Wo.setCell ⟨w.heap.size, 0, none⟩ (.int .i64 (-1))).setCell ⟨w.heap.size, 1, none⟩ (.int .i64 0)) w.heap.size (.slice oa ol oc) (togL F W 0 W.length ws)) := by
            unfold Hid
            rw [← togU_all, Nat.sub_zero, ← hnW]
            exact (hO.out.lowE hEs).keeps kF (fun g hg e => by have := (own_block hO.out.own hg).2; omega)
          have hS0 : Wo.cell? ⟨ob7, 0, none⟩ = some (.int .i64 (-1)) ∧ Wo.cell? ⟨ob7, 1, none⟩ = some (.int .i64 0) := ⟨o0, o1⟩
          clear B3 bA3 hO kF hnW hol
          go_wp2_with fail
          go_region_held3 (fun W : World => W.cell? ⟨ob7, 0, none⟩ = some (.int .i64 (-1)) ∧ W.cell? ⟨ob7, 1, none⟩ = some (.int .i64 0)) (first | assumption | (exact hS0) | go_keep) (fail)
          go_wp2_with fail
          refine bodyPost_ret (odd_ret2 rfl _ _ w.heap.size #[.int .i64 (-1), .int .i64 0] (BE.out Wo rfl) rfl rfl) rfl ?_
          exact ⟨_, rfl, HF.out.keeps ((Keeps.refl _ _).drew) (fun _ _ f => f), KF.drew⟩
end Go.Proofs.YthmiainhaebjiaaGreatDoor
