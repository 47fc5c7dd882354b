/-
  No statement of the seat is proved here. (Several texts in one: OpY, OqC.)
-/
import Derived.Test.YthmiainhaebjiaaGreatDoorM23OpS
import Derived.Test.YthmiainhaebjiaaGreatDoorM25OqA

/- Walks of Sights (layer 16). No statement of the seat is proved here. -/
namespace Go.Proofs.YthmiainhaebjiaaGreatDoor
open Go.RowKit Go.Shelf

set_option maxRecDepth 100000 in
set_option maxHeartbeats 8000000 in
theorem sights_ok (va : Option Addr) (vc : Nat) (F : List Int) (v : Value) (L : List Ev) (hl : L.length ≤ 1050000) (w : World) (hv : EvsAt w v L) (hF : WsAt w (.slice va F.length vc) F) (hg : Gv w) (h8 : 2 ≤ w.heap.size) (hF0 : 0 < F.length) (hF1 : F.length ≤ 65536) (hz : (checkL L).2 = 0) (hp : idxF plainE L 0 = -1) (hm : idxF (missE F.length) L 0 = -1) (W : List Pt) (hW : WrOf (partsL L) W) :
    Calls Tryz.prog 17 #[.slice va F.length vc, v] w fun ex w' => ∃ sv, ex = .returned (.tuple #[sv, .agg (odV (-1) 0)]) ∧ SR w' w.heap.size sv (sgK F W (triesL L) (partsL L) (triesL L).length) ∧ Keeps (fun _ => False) w w' := by
  have k0 := (Keeps.refl (fun _ => False) w).alloc (.cells (odV 0 0) 31)
  have b0 : (w.alloc (.cells (odV 0 0) 31)).heap[w.heap.size]? = some (.cells (odV 0 0) 31 (0, 0)) := (MapKept.heap_alloc w _).1
  have LK := look_ok va vc F v L hl (w.alloc (.cells (odV 0 0) 31)) (hv.keeps k0) (hF.keeps wC_ne k0) (hg.keeps k0) (by simp; omega) hF0 hF1 hz hp hm
  obtain ⟨a1, cap1, rfl, hcap⟩ := hv.els.shape
  unfold odV at k0 b0 LK
  clear hv hF hg
  go_enter Tryz.func17, Tryz.ntmps17
  go_wp2_with fail
  refine LK.mono ?_
  rintro ex w1 ⟨pb, mb, b2, vT, vB, vW, X, Y, f, rfl, hPa, hX, hu, k1⟩
  clear LK
  have hYW := pua_wr hu hX hW
  have kA := (Keeps.refl (fun _ => False) w1).alloc (.cells #[.int .i64 (-1), .int .i64 0] 31)
  have bA := (MapKept.heap_alloc w1 (.cells #[.int .i64 (-1), .int .i64 0] 31)).1
  have bO := ((k1.trans kA).block _ (lt_of_block b0) (fun f => f)).trans b0
  have K1 := (k0.trans k1).trans kA
  have hPA := hPa.keeps kA
  have hlt := lt_of_block ((k1.block _ (lt_of_block b0) (fun f => f)).trans b0)
  unfold odV
  go_wp2_with fail
  obtain ⟨ob7, hob⟩ : ∃ b, b = w1.heap.size := ⟨_, rfl⟩
  rw [← hob] at bA ⊢
  rw [← hob] at hlt
  generalize w1.alloc (.cells #[.int .i64 (-1), .int .i64 0] 31) = A at *
  clear hob kA k0 k1 b0 hPa
  have SG := sights_any pb mb b2 (.slice va F.length vc) vT vB vW F (triesL L) X Y f A.drew (hPA.keeps (Keeps.refl _ A).drew) hu
  have S0 : Keeps (fun q => q = w.heap.size) A (A.drew) ∧ (A.drew).cell? ⟨ob7, 0, none⟩ = some (.int .i64 (-1)) ∧ (A.drew).cell? ⟨ob7, 1, none⟩ = some (.int .i64 0) := ⟨(Keeps.refl _ A).drew, by rw [cell_of_block (w := A.drew) bA]; rfl, by rw [cell_of_block (w := A.drew) bA]; rfl⟩
  refine wp_held_end (S := fun W => Keeps (fun q => q = w.heap.size) A W ∧ W.cell? ⟨ob7, 0, none⟩ = some (.int .i64 (-1)) ∧ W.cell? ⟨ob7, 1, none⟩ = some (.int .i64 0)) 5 rfl hmxp ?_
  simp only [Array.replicate_succ, Array.replicate_zero, List.push_toArray, List.nil_append, List.cons_append]
  refine held_take (i := 0) (v := (.pointer (some ⟨pb, 0, none⟩))) 18 rfl rfl (by kernel_rfl) (by kernel_rfl) (by kernel_rfl) rfl (fun w' hw' => by obtain ⟨q0, q1, q2⟩ := hw'; go_simp) S0 ?_
  simp only [Act.put, List.setIfInBounds_toArray, List.set_cons_zero, List.set_cons_succ]
  refine held_take (i := 2) (v := (.agg #[.int .i64 (-1), .int .i64 0])) 20 rfl rfl (by kernel_rfl) (by kernel_rfl) (by kernel_rfl) rfl (fun w' hw' => by obtain ⟨q0, q1, q2⟩ := hw'; go_simp) S0 ?_
  simp only [Act.put, List.setIfInBounds_toArray, List.set_cons_zero, List.set_cons_succ]
  refine held_call (i := 1) (f := 35) (args := #[.pointer (some ⟨pb, 0, none⟩)]) 19 (by kernel_rfl) rfl rfl rfl (by go_simp) (SG.mono ?_)
  rintro ex w2 ⟨sv, rfl, hsv, k2⟩
  rw [hYW, hX] at hsv
  have S1 : Keeps (fun q => q = w.heap.size) A (w2) ∧ (w2).cell? ⟨ob7, 0, none⟩ = some (.int .i64 (-1)) ∧ (w2).cell? ⟨ob7, 1, none⟩ = some (.int .i64 0) := ⟨S0.1.trans (k2.mono fun _ _ f => f.elim), k2.cellB (fun f => f) S0.2.1, k2.cellB (fun f => f) S0.2.2⟩
  refine ⟨_, rfl, S1, ?_⟩
  simp only [Act.put, List.setIfInBounds_toArray, List.set_cons_zero, List.set_cons_succ]
  refine held_take (i := 3) (v := sv) 4 rfl rfl (by kernel_rfl) (by kernel_rfl) (by kernel_rfl) rfl (fun w' hw' => by obtain ⟨q0, q1, q2⟩ := hw'; go_simp) S1 ?_
  simp only [Act.put, List.setIfInBounds_toArray, List.set_cons_zero, List.set_cons_succ]
  have hlA : w.heap.size < A.drew.heap.size := lt_of_block bO
  have S3 : Keeps (fun _ => False) A w2 := (Keeps.refl (fun _ => False) A).drew.trans k2
  have bO3 := (S3.block _ (lt_of_block bO) (fun f => f)).trans bO
  have c0 : w2.cell? ⟨w.heap.size, 0, none⟩ = some (.int .i64 0) := by rw [cell_of_block bO3]; rfl
  have c1 : w2.cell? ⟨w.heap.size, 1, none⟩ = some (.int .i64 0) := by rw [cell_of_block bO3]; rfl
  have f0 : w2.frozen? ⟨w.heap.size, 0, none⟩ = false := frozen_of_block bO3 _
  have f1 : w2.frozen? ⟨w.heap.size, 1, none⟩ = false := frozen_of_block bO3 _
  have BE := block_set (block_set bO3 0 (.int .i64 (-1))) 1 (.int .i64 0)
  have hne : ¬ w.heap.size = ob7 := by omega
  have kE := ((Keeps.refl (fun q => q = w.heap.size) w2).setCell (p := ⟨w.heap.size, 0, none⟩) (.inr rfl) (.int .i64 (-1))).setCell (p := ⟨w.heap.size, 1, none⟩) (.inr rfl) (.int .i64 0)
  have hob7 : ob7 ≠ w.heap.size := by omega
  have KF : Keeps (fun _ => False) w ((w2.setCell ⟨w.heap.size, 0, none⟩ (.int .i64 (-1))).setCell ⟨w.heap.size, 1, none⟩ (.int .i64 0)) := (K1.trans S3).young kE (fun q e => by omega)
  have S4 : Keeps (fun q => q = w.heap.size) A ((w2.setCell ⟨w.heap.size, 0, none⟩ (.int .i64 (-1))).setCell ⟨w.heap.size, 1, none⟩ (.int .i64 0)) ∧ ((w2.setCell ⟨w.heap.size, 0, none⟩ (.int .i64 (-1))).setCell ⟨w.heap.size, 1, none⟩ (.int .i64 0)).cell? ⟨ob7, 0, none⟩ = some (.int .i64 (-1)) ∧ ((w2.setCell ⟨w.heap.size, 0, none⟩ (.int .i64 (-1))).setCell ⟨w.heap.size, 1, none⟩ (.int .i64 0)).cell? ⟨ob7, 1, none⟩ = some (.int .i64 0) := ⟨S1.1.trans kE, cell_keep kE S1.2.1 hob7, cell_keep kE S1.2.2 hob7⟩
  refine held_none (i := 4) (w' := (w2.setCell ⟨w.heap.size, 0, none⟩ (.int .i64 (-1))).setCell ⟨w.heap.size, 1, none⟩ (.int .i64 0)) (by kernel_rfl) rfl rfl rfl (by go_simp) S4 ?_
  refine held_end (by kernel_rfl) ?_ _
  clear S0 S1 S3 S4 c0 c1 f0 f1 k2
  go_wp2_with fail
  refine bodyPost_ret (odd_ret2 rfl _ _ w.heap.size #[.int .i64 (-1), .int .i64 0] BE rfl rfl) rfl ?_
  exact ⟨sv, rfl, (hsv.lowE (Nat.le_of_lt hlA)).keeps kE (fun g hg e => absurd hlA (Nat.not_lt.mpr (e ▸ (own_block hsv.own hg).2))), KF⟩
set_option maxRecDepth 100000 in
set_option maxHeartbeats 8000000 in
theorem sights_no (va : Option Addr) (vc n : Nat) (v : Value) (hv : ∃ a m c, v = .slice a m c) (a e : Int) (he : e ≠ 0) (w : World)
    (LK : Calls Tryz.prog 21 #[.slice va n vc, v] (w.alloc (.cells (odV 0 0) 31)) fun ex w' => ex = .returned (.tuple #[.pointer none, .agg (odV a e)]) ∧ Keeps (fun _ => False) (w.alloc (.cells (odV 0 0) 31)) w') :
    Calls Tryz.prog 17 #[.slice va n vc, v] w fun ex w' => ex = .returned (.tuple #[.slice none 0 0, .agg (odV a e)]) ∧ Keeps (fun _ => False) w w' := by
  have k0 := (Keeps.refl (fun _ => False) w).alloc (.cells (odV 0 0) 31)
  have b0 : (w.alloc (.cells (odV 0 0) 31)).heap[w.heap.size]? = some (.cells (odV 0 0) 31 (0, 0)) := (MapKept.heap_alloc w _).1
  obtain ⟨a1, m1, cap1, rfl⟩ := hv
  unfold odV at LK k0 b0 ⊢
  have hzb : (e == 0) = false := by rw [beq_eq_false_iff_ne]; exact he
  have hzn : (e != 0) = true := by rw [bne_iff_ne]; exact he
  go_enter Tryz.func17, Tryz.ntmps17
  go_wp2_with fail
  refine LK.mono ?_
  rintro ex w1 ⟨rfl, k1⟩
  clear LK
  have K1 := k0.trans k1
  have B1 := (k1.block _ (lt_of_block b0) (fun f => f)).trans b0
  have kA := (Keeps.refl (fun _ => False) w1).alloc (.cells #[.int .i64 a, .int .i64 e] 31)
  have bA := (MapKept.heap_alloc w1 (.cells #[.int .i64 a, .int .i64 e] 31)).1
  have B2 := (kA.block _ (lt_of_block B1) (fun f => f)).trans B1
  have hlt1 := lt_of_block B1
  go_wp2_with fail
  generalize hW : w1.alloc (.cells #[.int .i64 a, .int .i64 e] 31) = W at *
  have c0 : W.cell? ⟨w.heap.size, 0, none⟩ = some (.int .i64 0) := by rw [cell_of_block B2]; rfl
  have c1 : W.cell? ⟨w.heap.size, 1, none⟩ = some (.int .i64 0) := by rw [cell_of_block B2]; rfl
  have f0 : W.frozen? ⟨w.heap.size, 0, none⟩ = false := frozen_of_block B2 _
  have f1 : W.frozen? ⟨w.heap.size, 1, none⟩ = false := frozen_of_block B2 _
  have hS0 : W.cell? ⟨w1.heap.size, 0, none⟩ = some (.int .i64 a) ∧ W.cell? ⟨w1.heap.size, 1, none⟩ = some (.int .i64 e) := ⟨by rw [cell_of_block bA]; rfl, by rw [cell_of_block bA]; rfl⟩
  have hne : ¬ w.heap.size = w1.heap.size := by omega
  have BE : Hid (∀ X : World, X.heap = W.heap → ((X.setCell ⟨w.heap.size, 0, none⟩ (.int .i64 a)).setCell ⟨w.heap.size, 1, none⟩ (.int .i64 e)).heap[w.heap.size]? = some (.cells #[.int .i64 a, .int .i64 e] 31 (0, 0))) := fun X hX => block_set (block_set (w := X) (by rw [hX]; exact B2) 0 (.int .i64 a)) 1 (.int .i64 e)
  have KE := K1.trans kA
  clear hW kA bA B2 K1
  go_region_held3 (fun W : World => W.cell? ⟨w1.heap.size, 0, none⟩ = some (.int .i64 a) ∧ W.cell? ⟨w1.heap.size, 1, none⟩ = some (.int .i64 e)) (first | assumption | (exact hS0) | go_keep) (fail)
  go_wp2_with fail
  refine bodyPost_ret (odd_ret2 rfl _ _ w.heap.size #[.int .i64 a, .int .i64 e] (BE.out W rfl) rfl rfl) rfl ?_
  exact ⟨rfl, (((KE.setCell (.inl (Nat.le_refl _)) _).setCell (.inl (Nat.le_refl _)) _).drew)⟩
set_option maxRecDepth 100000 in
set_option maxHeartbeats 8000000 in
theorem check_no (va : Option Addr) (vc n : Nat) (v : Value) (hv : ∃ a m c, v = .slice a m c) (a e : Int) (he : e ≠ 0) (w : World)
    (LK : Calls Tryz.prog 21 #[.slice va n vc, v] (w.alloc (.cells (odV 0 0) 31)) fun ex w' => ex = .returned (.tuple #[.pointer none, .agg (odV a e)]) ∧ Keeps (fun _ => False) (w.alloc (.cells (odV 0 0) 31)) w') :
    Calls Tryz.prog 19 #[.slice va n vc, v] w fun ex w' => ex = .returned (.tuple #[.int .i64 0, .agg (odV a e)]) ∧ Keeps (fun _ => False) w w' := by
  have k0 := (Keeps.refl (fun _ => False) w).alloc (.cells (odV 0 0) 31)
  have b0 : (w.alloc (.cells (odV 0 0) 31)).heap[w.heap.size]? = some (.cells (odV 0 0) 31 (0, 0)) := (MapKept.heap_alloc w _).1
  obtain ⟨a1, m1, cap1, rfl⟩ := hv
  unfold odV at LK k0 b0 ⊢
  have hzb : (e == 0) = false := by rw [beq_eq_false_iff_ne]; exact he
  have hzn : (e != 0) = true := by rw [bne_iff_ne]; exact he
  go_enter Tryz.func19, Tryz.ntmps19
  go_wp2_with fail
  refine LK.mono ?_
  rintro ex w1 ⟨rfl, k1⟩
  clear LK
  have K1 := k0.trans k1
  have B1 := (k1.block _ (lt_of_block b0) (fun f => f)).trans b0
  have kA := (Keeps.refl (fun _ => False) w1).alloc (.cells #[.int .i64 a, .int .i64 e] 31)
  have bA := (MapKept.heap_alloc w1 (.cells #[.int .i64 a, .int .i64 e] 31)).1
  have B2 := (kA.block _ (lt_of_block B1) (fun f => f)).trans B1
  have hlt1 := lt_of_block B1
  go_wp2_with fail
  generalize hW : w1.alloc (.cells #[.int .i64 a, .int .i64 e] 31) = W at *
  have c0 : W.cell? ⟨w.heap.size, 0, none⟩ = some (.int .i64 0) := by rw [cell_of_block B2]; rfl
  have c1 : W.cell? ⟨w.heap.size, 1, none⟩ = some (.int .i64 0) := by rw [cell_of_block B2]; rfl
  have f0 : W.frozen? ⟨w.heap.size, 0, none⟩ = false := frozen_of_block B2 _
  have f1 : W.frozen? ⟨w.heap.size, 1, none⟩ = false := frozen_of_block B2 _
  have hS0 : W.cell? ⟨w1.heap.size, 0, none⟩ = some (.int .i64 a) ∧ W.cell? ⟨w1.heap.size, 1, none⟩ = some (.int .i64 e) := ⟨by rw [cell_of_block bA]; rfl, by rw [cell_of_block bA]; rfl⟩
  have hne : ¬ w.heap.size = w1.heap.size := by omega
  have BE : Hid (∀ X : World, X.heap = W.heap → ((X.setCell ⟨w.heap.size, 0, none⟩ (.int .i64 a)).setCell ⟨w.heap.size, 1, none⟩ (.int .i64 e)).heap[w.heap.size]? = some (.cells #[.int .i64 a, .int .i64 e] 31 (0, 0))) := fun X hX => block_set (block_set (w := X) (by rw [hX]; exact B2) 0 (.int .i64 a)) 1 (.int .i64 e)
  have KE := K1.trans kA
  clear hW kA bA B2 K1
  go_region_held3 (fun W : World => W.cell? ⟨w1.heap.size, 0, none⟩ = some (.int .i64 a) ∧ W.cell? ⟨w1.heap.size, 1, none⟩ = some (.int .i64 e)) (first | assumption | (exact hS0) | go_keep) (fail)
  go_wp2_with fail
  refine bodyPost_ret (odd_ret2 rfl _ _ w.heap.size #[.int .i64 a, .int .i64 e] (BE.out W rfl) rfl rfl) rfl ?_
  exact ⟨rfl, (((KE.setCell (.inl (Nat.le_refl _)) _).setCell (.inl (Nat.le_refl _)) _).drew)⟩
end Go.Proofs.YthmiainhaebjiaaGreatDoor


/- A walk of the document's Reads (layer 16). No statement of the seat is proved here. -/
namespace Go.Proofs.YthmiainhaebjiaaGreatDoor
open Go.RowKit Go.Shelf

/-- What is read from a place up to another. -/
def rdsU (L : List Ev) (th : Int) (a k : Nat) : List (Int × Int) := ((L.drop a).take (k - a)).filterMap (rdE th)
theorem rdsU_succ {L : List Ev} {th : Int} {a k : Nat} (h : a ≤ k) (hk : k < L.length) : rdsU L th a (k + 1) = rdsU L th a k ++ (rdE th (L[k])).toList := by
  unfold rdsU
  rw [show k + 1 - a = (k - a) + 1 by omega, List.take_add_one, List.getElem?_drop, show a + (k - a) = k by omega, List.getElem?_eq_getElem hk, List.filterMap_append]
  congr 1
theorem rdsU_len (L : List Ev) (th : Int) (a k : Nat) : (rdsU L th a k).length ≤ k := by
  unfold rdsU
  refine Nat.le_trans (List.length_filterMap_le _ _) ?_
  rw [List.length_take]; omega
theorem rdsU_seg (L : List Ev) (th : Int) (a b : Nat) : rdsU L th a (b + 1) = (seg L a b).filterMap (rdE th) := by
  unfold rdsU seg
  rw [Int.toNat_natCast, show ((b : Int) + 1 - a).toNat = b + 1 - a by omega]
set_option maxRecDepth 100000 in
set_option maxHeartbeats 8000000 in
theorem rreads_any (v : Value) (L : List Ev) (hL : L.length ≤ 1100000) (th sn how rd wn : Int) (a b : Nat) (hab : a ≤ b) (hbL : b < L.length) (w : World) (hv : ElsAt Ev.cl 6 w v L) : Calls Tryz.prog 20 #[v, .agg #[.int .i64 th, .int .i64 (a : Int), .int .i64 (b : Int), .int .u64 sn, .int .i64 how, .int .i64 rd, .int .i64 wn]] w fun ex w' => ∃ u, ex = .returned u ∧ CR w' w.heap.size u ((seg L a b).filterMap (rdE th)) ∧ Keeps (fun _ => False) w w' := by
  have HV : Hid (∀ X, Keeps (fun _ => False) w X → ElsAt Ev.cl 6 X v L) := fun X q => hv.keeps ev_ne q
  obtain ⟨aa, ac, rfl, hac⟩ := hv.shape
  have k0 := (Keeps.refl (fun _ => False) w).alloc (.cells #[.int .i64 th, .int .i64 (a : Int), .int .i64 (b : Int), .int .u64 sn, .int .i64 how, .int .i64 rd, .int .i64 wn] 54)
  have b0 := (MapKept.heap_alloc w (.cells #[.int .i64 th, .int .i64 (a : Int), .int .i64 (b : Int), .int .u64 sn, .int .i64 how, .int .i64 rd, .int .i64 wn] 54)).1
  have hs0 : (w.alloc (.cells #[.int .i64 th, .int .i64 (a : Int), .int .i64 (b : Int), .int .u64 sn, .int .i64 how, .int .i64 rd, .int .i64 wn] 54)).heap.size = w.heap.size + 1 := by simp
  have O0 : CR (w.alloc (.cells #[.int .i64 th, .int .i64 (a : Int), .int .i64 (b : Int), .int .u64 sn, .int .i64 how, .int .i64 rd, .int .i64 wn] 54)) (w.heap.size + 1) (.slice none 0 0) (rdsU L th a a) := by
    have : rdsU L th a a = [] := by unfold rdsU; rw [Nat.sub_self]; rfl
    rw [this]; exact OwnR.nilB clC 2 28 _ _ (by omega)
  rw [← rdsU_seg]
  have HB0 : Hid (_ = _) := b0
  clear hv b0 hs0
  go_enter Tryz.func20, Tryz.ntmps20
  go_wp2_with fail
  go_loopw [5, 6] (fun u5 u wr => ∃ (k : Nat), u = .int .i64 k ∧ a ≤ k ∧ k ≤ b + 1 ∧ Hid (CR wr (w.heap.size + 1) u5 (rdsU L th a k)) ∧ Hid (wr.heap[w.heap.size]? = some (.cells #[.int .i64 th, .int .i64 (a : Int), .int .i64 (b : Int), .int .u64 sn, .int .i64 how, .int .i64 rd, .int .i64 wn] 54 (0, 0))) ∧ Keeps (fun _ => False) w wr) (fun _ u _ => b + 1 - (intOf u).toNat)
  case atStart => exact ⟨a, rfl, Nat.le_refl _, by omega, O0, HB0, k0⟩
  case round =>
    clear O0 HB0 k0
    obtain ⟨k, rfl, hka, hk, hO, hB, kr⟩ := hrel
    have c0 : wr.cell? ⟨w.heap.size, 0, none⟩ = some (.int .i64 th) := by rw [cell_of_block hB.out]; rfl
    have c2 : wr.cell? ⟨w.heap.size, 2, none⟩ = some (.int .i64 (b : Int)) := by rw [cell_of_block hB.out]; rfl
    have hbl : w.heap.size < wr.heap.size := lt_of_block hB.out
    by_cases hlt : k ≤ b
    · have hkb : (k : Int) ≤ b := by omega
      have hkl : k < L.length := by omega
      have hki : (k : Int) < L.length := by omega
      have hk0 : (0 : Int) ≤ k := by omega
      obtain ⟨g, off, rfl, hc⟩ := (HV.out wr kr).at k hkl
      have hsu := rdsU_succ (th := th) hka hkl
      have hln := rdsU_len L th a k
      have HX : Hid (∀ X, Keeps (fun _ => False) w X → X.cell? ⟨w.heap.size, 0, none⟩ = some (.int .i64 th) → X.cell? ⟨g, off + k * 6, none⟩ = some (.int .i64 (L[k]'hkl).th) ∧ X.cell? ⟨g, off + k * 6 + 1, none⟩ = some (.int .i64 (L[k]'hkl).kd) ∧ X.cell? ⟨g, off + k * 6 + 2, none⟩ = some (.int .u64 (L[k]'hkl).ad) ∧ X.cell? ⟨g, off + k * 6 + 3, none⟩ = some (.int .u64 (L[k]'hkl).wd) ∧ X.cell? ⟨g, off + k * 6 + 4, none⟩ = some (.bool (L[k]'hkl).own) ∧ X.cell? ⟨w.heap.size, 0, none⟩ = some (.int .i64 th)) := fun X q c => by
        obtain ⟨g', off', e', hc'⟩ := (HV.out X q).at k hkl
        injection e' with e'
        injection e' with e1 e2
        subst e1 e2
        exact ⟨hc' 0 _ rfl, hc' 1 _ rfl, hc' 2 _ rfl, hc' 3 _ rfl, hc' 4 _ rfl, c⟩
      generalize L[k]'hkl = e at *
      obtain ⟨eth, ekd, ead, ewd, eow, eer⟩ := e
      have x0 := hc 0 _ rfl
      have x1 := hc 1 _ rfl
      have x2 := hc 2 _ rfl
      have x3 := hc 3 _ rfl
      have x4 := hc 4 _ rfl
      dsimp only at x0 x1 x2 x3 x4
      simp only [Nat.add_zero] at x0
      unfold rdE at hsu
      dsimp only at hsu
      clear hc
      by_cases hth : eth = th
      · subst hth
        by_cases hkd : ekd = 2
        · subst hkd
          cases eow
          · have htk : rdsU L eth a (k + 1) = rdsU L eth a k ++ [(ead, ewd)] := by rw [hsu, if_pos ⟨rfl, rfl, rfl⟩]; rfl
            have hD := hO.out.keeps (((Keeps.refl (fun _ => False) wr).drew).drew) (fun _ _ f => f)
            obtain ⟨v', w3, r1, r2, r3⟩ := hD.push (P := Tryz.prog) cl_len cl_one (by decide) Tryz.underlying24 info_cl rfl (by decide) (ty := 24) (ead, ewd) (cs := #[.int .u64 ead, .int .u64 ewd]) rfl (by omega)
            rw [← htk] at r2
            have hown : ∀ q, u5.ownBlock = some q → w.heap.size + 1 ≤ q := fun q hq => (own_block hO.out.own hq).2
            have K3 : Keeps (fun q => w.heap.size + 1 ≤ q) wr.drew.drew w3 := r3.keeps.mono (fun q _ hq => hown q hq)
            have KR3 : Keeps (fun _ => False) w w3 := (kr.drew.drew).young K3 (fun q hq => by omega)
            have HB3 : Hid (w3.heap[w.heap.size]? = some (.cells #[.int .i64 eth, .int .i64 (a : Int), .int .i64 (b : Int), .int .u64 sn, .int .i64 how, .int .i64 rd, .int .i64 wn] 54 (0, 0))) := (K3.block _ hbl (by omega)).trans hB.out
            have HO : Hid (CR w3 (w.heap.size + 1) v' (rdsU L eth a (k + 1))) := r2
            have HVx : Hid (∀ X, Keeps (fun _ => False) w X → X.heap[w.heap.size]? = some (.cells #[.int .i64 eth, .int .i64 (a : Int), .int .i64 (b : Int), .int .u64 sn, .int .i64 how, .int .i64 rd, .int .i64 wn] 54 (0, 0)) → X.cell? ⟨g, off + k * 6, none⟩ = some (.int .i64 eth) ∧ X.cell? ⟨g, off + k * 6 + 1, none⟩ = some (.int .i64 2) ∧ X.cell? ⟨g, off + k * 6 + 2, none⟩ = some (.int .u64 ead) ∧ X.cell? ⟨g, off + k * 6 + 3, none⟩ = some (.int .u64 ewd) ∧ X.cell? ⟨g, off + k * 6 + 4, none⟩ = some (.bool false) ∧ X.cell? ⟨w.heap.size, 0, none⟩ = some (.int .i64 eth)) := fun X q hb => by
              have c := hb
              exact HX.out X q (by rw [cell_of_block c]; rfl)
            have kA := (Keeps.refl (fun _ => False) wr.drew.drew).alloc (.cells #[.int .u64 ead, .int .u64 ewd] 28)
            have S7 : (wr.drew.drew.alloc (.cells #[.int .u64 ead, .int .u64 ewd] 28)).cell? ⟨g, off + k * 6, none⟩ = some (.int .i64 eth) ∧ (wr.drew.drew.alloc (.cells #[.int .u64 ead, .int .u64 ewd] 28)).cell? ⟨g, off + k * 6 + 1, none⟩ = some (.int .i64 2) ∧ (wr.drew.drew.alloc (.cells #[.int .u64 ead, .int .u64 ewd] 28)).cell? ⟨g, off + k * 6 + 2, none⟩ = some (.int .u64 ead) ∧ (wr.drew.drew.alloc (.cells #[.int .u64 ead, .int .u64 ewd] 28)).cell? ⟨g, off + k * 6 + 3, none⟩ = some (.int .u64 ewd) ∧ (wr.drew.drew.alloc (.cells #[.int .u64 ead, .int .u64 ewd] 28)).cell? ⟨g, off + k * 6 + 4, none⟩ = some (.bool false) ∧ (wr.drew.drew.alloc (.cells #[.int .u64 ead, .int .u64 ewd] 28)).cell? ⟨w.heap.size, 0, none⟩ = some (.int .i64 eth) := HVx.out _ ((kr.drew.drew).trans kA) ((kA.block _ hbl (fun f => f)).trans hB.out)
            have S8 : w3.cell? ⟨g, off + k * 6, none⟩ = some (.int .i64 eth) ∧ w3.cell? ⟨g, off + k * 6 + 1, none⟩ = some (.int .i64 2) ∧ w3.cell? ⟨g, off + k * 6 + 2, none⟩ = some (.int .u64 ead) ∧ w3.cell? ⟨g, off + k * 6 + 3, none⟩ = some (.int .u64 ewd) ∧ w3.cell? ⟨g, off + k * 6 + 4, none⟩ = some (.bool false) ∧ w3.cell? ⟨w.heap.size, 0, none⟩ = some (.int .i64 eth) := HVx.out _ KR3 HB3.out
            have S0 : wr.drew.cell? ⟨g, off + k * 6, none⟩ = some (.int .i64 eth) ∧ wr.drew.cell? ⟨g, off + k * 6 + 1, none⟩ = some (.int .i64 2) ∧ wr.drew.cell? ⟨g, off + k * 6 + 2, none⟩ = some (.int .u64 ead) ∧ wr.drew.cell? ⟨g, off + k * 6 + 3, none⟩ = some (.int .u64 ewd) ∧ wr.drew.cell? ⟨g, off + k * 6 + 4, none⟩ = some (.bool false) ∧ wr.drew.cell? ⟨w.heap.size, 0, none⟩ = some (.int .i64 eth) := ⟨x0, x1, x2, x3, x4, c0⟩
            have S6 : wr.drew.drew.cell? ⟨g, off + k * 6, none⟩ = some (.int .i64 eth) ∧ wr.drew.drew.cell? ⟨g, off + k * 6 + 1, none⟩ = some (.int .i64 2) ∧ wr.drew.drew.cell? ⟨g, off + k * 6 + 2, none⟩ = some (.int .u64 ead) ∧ wr.drew.drew.cell? ⟨g, off + k * 6 + 3, none⟩ = some (.int .u64 ewd) ∧ wr.drew.drew.cell? ⟨g, off + k * 6 + 4, none⟩ = some (.bool false) ∧ wr.drew.drew.cell? ⟨w.heap.size, 0, none⟩ = some (.int .i64 eth) := ⟨x0, x1, x2, x3, x4, c0⟩
            obtain ⟨ub, uc, rfl⟩ := hO.out.form
            obtain ⟨⟨ya, yn, yc⟩, rfl, -⟩ := sl_of r2
            have HA : Hid (_ = _) := r1
            clear hsu hO htk hD r1 r2 r3 hown K3 HVx kA
            go_wp2_with fail
            refine wp_held_end (S := fun W : World => W.cell? ⟨g, off + k * 6, none⟩ = some (.int .i64 eth) ∧ W.cell? ⟨g, off + k * 6 + 1, none⟩ = some (.int .i64 2) ∧ W.cell? ⟨g, off + k * 6 + 2, none⟩ = some (.int .u64 ead) ∧ W.cell? ⟨g, off + k * 6 + 3, none⟩ = some (.int .u64 ewd) ∧ W.cell? ⟨g, off + k * 6 + 4, none⟩ = some (.bool false) ∧ W.cell? ⟨w.heap.size, 0, none⟩ = some (.int .i64 eth)) 24 rfl hmxp ?_
            simp only [Array.replicate_succ, Array.replicate_zero, List.push_toArray, List.nil_append, List.cons_append]
            refine held_take (i := 0) (v := (.slice (some ⟨g, off, none⟩) L.length ac)) 15 rfl rfl (by kernel_rfl) (by kernel_rfl) (by kernel_rfl) rfl (fun w' hw' => by obtain ⟨q0, q1, q2, q3, q4, q5⟩ := hw'; go_simp) S0 ?_
            simp only [Act.put, List.setIfInBounds_toArray, List.set_cons_zero, List.set_cons_succ]
            refine held_take (i := 1) (v := (.int .i64 (k : Int))) 16 rfl rfl (by kernel_rfl) (by kernel_rfl) (by kernel_rfl) rfl (fun w' hw' => by obtain ⟨q0, q1, q2, q3, q4, q5⟩ := hw'; go_simp) S0 ?_
            simp only [Act.put, List.setIfInBounds_toArray, List.set_cons_zero, List.set_cons_succ]
            refine held_take (i := 2) (v := (.pointer (some ⟨g, off + k * 6, none⟩))) 17 rfl rfl (by kernel_rfl) (by kernel_rfl) (by kernel_rfl) rfl (fun w' hw' => by obtain ⟨q0, q1, q2, q3, q4, q5⟩ := hw'; go_simp) S0 ?_
            simp only [Act.put, List.setIfInBounds_toArray, List.set_cons_zero, List.set_cons_succ]
            refine held_take (i := 3) (v := (.pointer (some ⟨g, off + k * 6, none⟩))) 18 rfl rfl (by kernel_rfl) (by kernel_rfl) (by kernel_rfl) rfl (fun w' hw' => by obtain ⟨q0, q1, q2, q3, q4, q5⟩ := hw'; go_simp) S0 ?_
            simp only [Act.put, List.setIfInBounds_toArray, List.set_cons_zero, List.set_cons_succ]
            refine held_take (i := 4) (v := (.int .i64 eth)) 19 rfl rfl (by kernel_rfl) (by kernel_rfl) (by kernel_rfl) rfl (fun w' hw' => by obtain ⟨q0, q1, q2, q3, q4, q5⟩ := hw'; go_simp) S0 ?_
            simp only [Act.put, List.setIfInBounds_toArray, List.set_cons_zero, List.set_cons_succ]
            refine held_take (i := 5) (v := (.pointer (some ⟨w.heap.size, 0, none⟩))) 20 rfl rfl (by kernel_rfl) (by kernel_rfl) (by kernel_rfl) rfl (fun w' hw' => by obtain ⟨q0, q1, q2, q3, q4, q5⟩ := hw'; go_simp) S0 ?_
            simp only [Act.put, List.setIfInBounds_toArray, List.set_cons_zero, List.set_cons_succ]
            refine held_take (i := 6) (v := (.int .i64 eth)) 21 rfl rfl (by kernel_rfl) (by kernel_rfl) (by kernel_rfl) rfl (fun w' hw' => by obtain ⟨q0, q1, q2, q3, q4, q5⟩ := hw'; go_simp) S0 ?_
            simp only [Act.put, List.setIfInBounds_toArray, List.set_cons_zero, List.set_cons_succ]
            refine held_take (i := 7) (v := (.bool true)) 22 rfl rfl (by kernel_rfl) (by kernel_rfl) (by kernel_rfl) rfl (fun w' hw' => by obtain ⟨q0, q1, q2, q3, q4, q5⟩ := hw'; go_simp) S0 ?_
            simp only [Act.put, List.setIfInBounds_toArray, List.set_cons_zero, List.set_cons_succ]
            refine held_take (i := 8) (v := (.bool true)) 23 rfl rfl (by kernel_rfl) (by kernel_rfl) (by kernel_rfl) rfl (fun w' hw' => by obtain ⟨q0, q1, q2, q3, q4, q5⟩ := hw'; go_simp) S0 ?_
            simp only [Act.put, List.setIfInBounds_toArray, List.set_cons_zero, List.set_cons_succ]
            refine held_take (i := 9) (v := (.slice (some ⟨g, off, none⟩) L.length ac)) 24 rfl rfl (by kernel_rfl) (by kernel_rfl) (by kernel_rfl) rfl (fun w' hw' => by obtain ⟨q0, q1, q2, q3, q4, q5⟩ := hw'; go_simp) S0 ?_
            simp only [Act.put, List.setIfInBounds_toArray, List.set_cons_zero, List.set_cons_succ]
            refine held_take (i := 10) (v := (.int .i64 (k : Int))) 25 rfl rfl (by kernel_rfl) (by kernel_rfl) (by kernel_rfl) rfl (fun w' hw' => by obtain ⟨q0, q1, q2, q3, q4, q5⟩ := hw'; go_simp) S0 ?_
            simp only [Act.put, List.setIfInBounds_toArray, List.set_cons_zero, List.set_cons_succ]
            refine held_take (i := 11) (v := (.pointer (some ⟨g, off + k * 6, none⟩))) 26 rfl rfl (by kernel_rfl) (by kernel_rfl) (by kernel_rfl) rfl (fun w' hw' => by obtain ⟨q0, q1, q2, q3, q4, q5⟩ := hw'; go_simp) S0 ?_
            simp only [Act.put, List.setIfInBounds_toArray, List.set_cons_zero, List.set_cons_succ]
            refine held_take (i := 12) (v := (.pointer (some ⟨g, off + k * 6 + 1, none⟩))) 27 rfl rfl (by kernel_rfl) (by kernel_rfl) (by kernel_rfl) rfl (fun w' hw' => by obtain ⟨q0, q1, q2, q3, q4, q5⟩ := hw'; go_simp) S0 ?_
            simp only [Act.put, List.setIfInBounds_toArray, List.set_cons_zero, List.set_cons_succ]
            refine held_take (i := 13) (v := (.int .i64 2)) 28 rfl rfl (by kernel_rfl) (by kernel_rfl) (by kernel_rfl) rfl (fun w' hw' => by obtain ⟨q0, q1, q2, q3, q4, q5⟩ := hw'; go_simp) S0 ?_
            simp only [Act.put, List.setIfInBounds_toArray, List.set_cons_zero, List.set_cons_succ]
            refine held_take (i := 14) (v := (.bool true)) 29 rfl rfl (by kernel_rfl) (by kernel_rfl) (by kernel_rfl) rfl (fun w' hw' => by obtain ⟨q0, q1, q2, q3, q4, q5⟩ := hw'; go_simp) S0 ?_
            simp only [Act.put, List.setIfInBounds_toArray, List.set_cons_zero, List.set_cons_succ]
            refine held_take (i := 15) (v := (.bool true)) 30 rfl rfl (by kernel_rfl) (by kernel_rfl) (by kernel_rfl) rfl (fun w' hw' => by obtain ⟨q0, q1, q2, q3, q4, q5⟩ := hw'; go_simp) S0 ?_
            simp only [Act.put, List.setIfInBounds_toArray, List.set_cons_zero, List.set_cons_succ]
            refine held_take (i := 16) (v := (.bool true)) 31 rfl rfl (by kernel_rfl) (by kernel_rfl) (by kernel_rfl) rfl (fun w' hw' => by obtain ⟨q0, q1, q2, q3, q4, q5⟩ := hw'; go_simp) S0 ?_
            simp only [Act.put, List.setIfInBounds_toArray, List.set_cons_zero, List.set_cons_succ]
            refine held_take (i := 17) (v := (.slice (some ⟨g, off, none⟩) L.length ac)) 32 rfl rfl (by kernel_rfl) (by kernel_rfl) (by kernel_rfl) rfl (fun w' hw' => by obtain ⟨q0, q1, q2, q3, q4, q5⟩ := hw'; go_simp) S0 ?_
            simp only [Act.put, List.setIfInBounds_toArray, List.set_cons_zero, List.set_cons_succ]
            refine held_take (i := 18) (v := (.int .i64 (k : Int))) 33 rfl rfl (by kernel_rfl) (by kernel_rfl) (by kernel_rfl) rfl (fun w' hw' => by obtain ⟨q0, q1, q2, q3, q4, q5⟩ := hw'; go_simp) S0 ?_
            simp only [Act.put, List.setIfInBounds_toArray, List.set_cons_zero, List.set_cons_succ]
            refine held_take (i := 19) (v := (.pointer (some ⟨g, off + k * 6, none⟩))) 34 rfl rfl (by kernel_rfl) (by kernel_rfl) (by kernel_rfl) rfl (fun w' hw' => by obtain ⟨q0, q1, q2, q3, q4, q5⟩ := hw'; go_simp) S0 ?_
            simp only [Act.put, List.setIfInBounds_toArray, List.set_cons_zero, List.set_cons_succ]
            refine held_take (i := 20) (v := (.pointer (some ⟨g, off + k * 6 + 4, none⟩))) 35 rfl rfl (by kernel_rfl) (by kernel_rfl) (by kernel_rfl) rfl (fun w' hw' => by obtain ⟨q0, q1, q2, q3, q4, q5⟩ := hw'; go_simp) S0 ?_
            simp only [Act.put, List.setIfInBounds_toArray, List.set_cons_zero, List.set_cons_succ]
            refine held_take (i := 21) (v := (.bool false)) 36 rfl rfl (by kernel_rfl) (by kernel_rfl) (by kernel_rfl) rfl (fun w' hw' => by obtain ⟨q0, q1, q2, q3, q4, q5⟩ := hw'; go_simp) S0 ?_
            simp only [Act.put, List.setIfInBounds_toArray, List.set_cons_zero, List.set_cons_succ]
            refine held_take (i := 22) (v := (.bool true)) 37 rfl rfl (by kernel_rfl) (by kernel_rfl) (by kernel_rfl) rfl (fun w' hw' => by obtain ⟨q0, q1, q2, q3, q4, q5⟩ := hw'; go_simp) S0 ?_
            simp only [Act.put, List.setIfInBounds_toArray, List.set_cons_zero, List.set_cons_succ]
            refine held_take (i := 23) (v := (.bool true)) 38 rfl rfl (by kernel_rfl) (by kernel_rfl) (by kernel_rfl) rfl (fun w' hw' => by obtain ⟨q0, q1, q2, q3, q4, q5⟩ := hw'; go_simp) S0 ?_
            simp only [Act.put, List.setIfInBounds_toArray, List.set_cons_zero, List.set_cons_succ]
            refine held_end (by kernel_rfl) ?_ _
            go_wp2_with fail
            refine wp_held_end (S := fun W : World => W.cell? ⟨g, off + k * 6, none⟩ = some (.int .i64 eth) ∧ W.cell? ⟨g, off + k * 6 + 1, none⟩ = some (.int .i64 2) ∧ W.cell? ⟨g, off + k * 6 + 2, none⟩ = some (.int .u64 ead) ∧ W.cell? ⟨g, off + k * 6 + 3, none⟩ = some (.int .u64 ewd) ∧ W.cell? ⟨g, off + k * 6 + 4, none⟩ = some (.bool false) ∧ W.cell? ⟨w.heap.size, 0, none⟩ = some (.int .i64 eth)) 15 rfl hmxp ?_
            simp only [Array.replicate_succ, Array.replicate_zero, List.push_toArray, List.nil_append, List.cons_append]
            refine held_take (i := 0) (v := (.slice ub (rdsU L eth a k).length uc)) 39 rfl rfl (by kernel_rfl) (by kernel_rfl) (by kernel_rfl) rfl (fun w' hw' => by obtain ⟨q0, q1, q2, q3, q4, q5⟩ := hw'; go_simp) S6 ?_
            simp only [Act.put, List.setIfInBounds_toArray, List.set_cons_zero, List.set_cons_succ]
            refine held_take (i := 1) (v := (.slice (some ⟨g, off, none⟩) L.length ac)) 40 rfl rfl (by kernel_rfl) (by kernel_rfl) (by kernel_rfl) rfl (fun w' hw' => by obtain ⟨q0, q1, q2, q3, q4, q5⟩ := hw'; go_simp) S6 ?_
            simp only [Act.put, List.setIfInBounds_toArray, List.set_cons_zero, List.set_cons_succ]
            refine held_take (i := 2) (v := (.int .i64 (k : Int))) 41 rfl rfl (by kernel_rfl) (by kernel_rfl) (by kernel_rfl) rfl (fun w' hw' => by obtain ⟨q0, q1, q2, q3, q4, q5⟩ := hw'; go_simp) S6 ?_
            simp only [Act.put, List.setIfInBounds_toArray, List.set_cons_zero, List.set_cons_succ]
            refine held_take (i := 3) (v := (.pointer (some ⟨g, off + k * 6, none⟩))) 42 rfl rfl (by kernel_rfl) (by kernel_rfl) (by kernel_rfl) rfl (fun w' hw' => by obtain ⟨q0, q1, q2, q3, q4, q5⟩ := hw'; go_simp) S6 ?_
            simp only [Act.put, List.setIfInBounds_toArray, List.set_cons_zero, List.set_cons_succ]
            refine held_take (i := 4) (v := (.pointer (some ⟨g, off + k * 6 + 2, none⟩))) 43 rfl rfl (by kernel_rfl) (by kernel_rfl) (by kernel_rfl) rfl (fun w' hw' => by obtain ⟨q0, q1, q2, q3, q4, q5⟩ := hw'; go_simp) S6 ?_
            simp only [Act.put, List.setIfInBounds_toArray, List.set_cons_zero, List.set_cons_succ]
            refine held_take (i := 5) (v := (.int .u64 ead)) 44 rfl rfl (by kernel_rfl) (by kernel_rfl) (by kernel_rfl) rfl (fun w' hw' => by obtain ⟨q0, q1, q2, q3, q4, q5⟩ := hw'; go_simp) S6 ?_
            simp only [Act.put, List.setIfInBounds_toArray, List.set_cons_zero, List.set_cons_succ]
            refine held_take (i := 6) (v := (.slice (some ⟨g, off, none⟩) L.length ac)) 45 rfl rfl (by kernel_rfl) (by kernel_rfl) (by kernel_rfl) rfl (fun w' hw' => by obtain ⟨q0, q1, q2, q3, q4, q5⟩ := hw'; go_simp) S6 ?_
            simp only [Act.put, List.setIfInBounds_toArray, List.set_cons_zero, List.set_cons_succ]
            refine held_take (i := 7) (v := (.int .i64 (k : Int))) 46 rfl rfl (by kernel_rfl) (by kernel_rfl) (by kernel_rfl) rfl (fun w' hw' => by obtain ⟨q0, q1, q2, q3, q4, q5⟩ := hw'; go_simp) S6 ?_
            simp only [Act.put, List.setIfInBounds_toArray, List.set_cons_zero, List.set_cons_succ]
            refine held_take (i := 8) (v := (.pointer (some ⟨g, off + k * 6, none⟩))) 47 rfl rfl (by kernel_rfl) (by kernel_rfl) (by kernel_rfl) rfl (fun w' hw' => by obtain ⟨q0, q1, q2, q3, q4, q5⟩ := hw'; go_simp) S6 ?_
            simp only [Act.put, List.setIfInBounds_toArray, List.set_cons_zero, List.set_cons_succ]
            refine held_take (i := 9) (v := (.pointer (some ⟨g, off + k * 6 + 3, none⟩))) 48 rfl rfl (by kernel_rfl) (by kernel_rfl) (by kernel_rfl) rfl (fun w' hw' => by obtain ⟨q0, q1, q2, q3, q4, q5⟩ := hw'; go_simp) S6 ?_
            simp only [Act.put, List.setIfInBounds_toArray, List.set_cons_zero, List.set_cons_succ]
            refine held_take (i := 10) (v := (.int .u64 ewd)) 49 rfl rfl (by kernel_rfl) (by kernel_rfl) (by kernel_rfl) rfl (fun w' hw' => by obtain ⟨q0, q1, q2, q3, q4, q5⟩ := hw'; go_simp) S6 ?_
            simp only [Act.put, List.setIfInBounds_toArray, List.set_cons_zero, List.set_cons_succ]
            refine held_take (i := 11) (v := (.agg #[.int .u64 ead, .int .u64 ewd])) 50 rfl rfl (by kernel_rfl) (by kernel_rfl) (by kernel_rfl) rfl (fun w' hw' => by obtain ⟨q0, q1, q2, q3, q4, q5⟩ := hw'; go_simp) S6 ?_
            simp only [Act.put, List.setIfInBounds_toArray, List.set_cons_zero, List.set_cons_succ]
            refine held_val (i := 12) (v := (.slice (some ⟨wr.heap.size, 0, none⟩) 1 1)) (w' := wr.drew.drew.alloc (.cells #[.int .u64 ead, .int .u64 ewd] 28)) (some 51) (by kernel_rfl) rfl rfl rfl (by go_simp) S7 ?_
            simp only [Act.put, List.setIfInBounds_toArray, List.set_cons_zero, List.set_cons_succ]
            refine held_val (i := 13) (v := (.slice ya yn yc)) (w' := w3) (some 52) (by kernel_rfl) rfl rfl rfl (run_append_op rfl rfl rfl HA.out) S8 ?_
            simp only [Act.put, List.setIfInBounds_toArray, List.set_cons_zero, List.set_cons_succ]
            refine held_take (i := 14) (v := (.slice ya yn yc)) 5 rfl rfl (by kernel_rfl) (by kernel_rfl) (by kernel_rfl) rfl (fun w' hw' => by obtain ⟨q0, q1, q2, q3, q4, q5⟩ := hw'; go_simp) S8 ?_
            simp only [Act.put, List.setIfInBounds_toArray, List.set_cons_zero, List.set_cons_succ]
            refine held_end (by kernel_rfl) ?_ _
            go_wp2_with fail
            go_roundw
            · exact ⟨k + 1, by simp, by omega, by omega, HO, HB3, KR3⟩
            · simp [intOf]; omega
          · have _hq : True := trivial
            have HO : Hid (CR wr (w.heap.size + 1) u5 (rdsU L eth a (k + 1))) := by rw [hsu, if_neg (fun c => by cases c.2.2), Option.toList_none, List.append_nil]; exact hO.out
            obtain ⟨ub, uc, rfl⟩ := hO.out.form
            have S0 : wr.drew.cell? ⟨g, off + k * 6, none⟩ = some (.int .i64 eth) ∧ wr.drew.cell? ⟨g, off + k * 6 + 1, none⟩ = some (.int .i64 2) ∧ wr.drew.cell? ⟨g, off + k * 6 + 2, none⟩ = some (.int .u64 ead) ∧ wr.drew.cell? ⟨g, off + k * 6 + 3, none⟩ = some (.int .u64 ewd) ∧ wr.drew.cell? ⟨g, off + k * 6 + 4, none⟩ = some (.bool true) ∧ wr.drew.cell? ⟨w.heap.size, 0, none⟩ = some (.int .i64 eth) := ⟨x0, x1, x2, x3, x4, c0⟩
            have HD : Hid (CR wr.drew (w.heap.size + 1) _ _) := HO.out.keeps (Keeps.refl (fun _ => False) wr).drew (fun _ _ f => f)
            have kd := kr.drew
            clear hsu hO HO
            go_wp2_with fail
            refine wp_held_end (S := fun W : World => W.cell? ⟨g, off + k * 6, none⟩ = some (.int .i64 eth) ∧ W.cell? ⟨g, off + k * 6 + 1, none⟩ = some (.int .i64 2) ∧ W.cell? ⟨g, off + k * 6 + 2, none⟩ = some (.int .u64 ead) ∧ W.cell? ⟨g, off + k * 6 + 3, none⟩ = some (.int .u64 ewd) ∧ W.cell? ⟨g, off + k * 6 + 4, none⟩ = some (.bool true) ∧ W.cell? ⟨w.heap.size, 0, none⟩ = some (.int .i64 eth)) 24 rfl hmxp ?_
            simp only [Array.replicate_succ, Array.replicate_zero, List.push_toArray, List.nil_append, List.cons_append]
            refine held_take (i := 0) (v := (.slice (some ⟨g, off, none⟩) L.length ac)) 15 rfl rfl (by kernel_rfl) (by kernel_rfl) (by kernel_rfl) rfl (fun w' hw' => by obtain ⟨q0, q1, q2, q3, q4, q5⟩ := hw'; go_simp) S0 ?_
            simp only [Act.put, List.setIfInBounds_toArray, List.set_cons_zero, List.set_cons_succ]
            refine held_take (i := 1) (v := (.int .i64 (k : Int))) 16 rfl rfl (by kernel_rfl) (by kernel_rfl) (by kernel_rfl) rfl (fun w' hw' => by obtain ⟨q0, q1, q2, q3, q4, q5⟩ := hw'; go_simp) S0 ?_
            simp only [Act.put, List.setIfInBounds_toArray, List.set_cons_zero, List.set_cons_succ]
            refine held_take (i := 2) (v := (.pointer (some ⟨g, off + k * 6, none⟩))) 17 rfl rfl (by kernel_rfl) (by kernel_rfl) (by kernel_rfl) rfl (fun w' hw' => by obtain ⟨q0, q1, q2, q3, q4, q5⟩ := hw'; go_simp) S0 ?_
            simp only [Act.put, List.setIfInBounds_toArray, List.set_cons_zero, List.set_cons_succ]
            refine held_take (i := 3) (v := (.pointer (some ⟨g, off + k * 6, none⟩))) 18 rfl rfl (by kernel_rfl) (by kernel_rfl) (by kernel_rfl) rfl (fun w' hw' => by obtain ⟨q0, q1, q2, q3, q4, q5⟩ := hw'; go_simp) S0 ?_
            simp only [Act.put, List.setIfInBounds_toArray, List.set_cons_zero, List.set_cons_succ]
            refine held_take (i := 4) (v := (.int .i64 eth)) 19 rfl rfl (by kernel_rfl) (by kernel_rfl) (by kernel_rfl) rfl (fun w' hw' => by obtain ⟨q0, q1, q2, q3, q4, q5⟩ := hw'; go_simp) S0 ?_
            simp only [Act.put, List.setIfInBounds_toArray, List.set_cons_zero, List.set_cons_succ]
            refine held_take (i := 5) (v := (.pointer (some ⟨w.heap.size, 0, none⟩))) 20 rfl rfl (by kernel_rfl) (by kernel_rfl) (by kernel_rfl) rfl (fun w' hw' => by obtain ⟨q0, q1, q2, q3, q4, q5⟩ := hw'; go_simp) S0 ?_
            simp only [Act.put, List.setIfInBounds_toArray, List.set_cons_zero, List.set_cons_succ]
            refine held_take (i := 6) (v := (.int .i64 eth)) 21 rfl rfl (by kernel_rfl) (by kernel_rfl) (by kernel_rfl) rfl (fun w' hw' => by obtain ⟨q0, q1, q2, q3, q4, q5⟩ := hw'; go_simp) S0 ?_
            simp only [Act.put, List.setIfInBounds_toArray, List.set_cons_zero, List.set_cons_succ]
            refine held_take (i := 7) (v := (.bool true)) 22 rfl rfl (by kernel_rfl) (by kernel_rfl) (by kernel_rfl) rfl (fun w' hw' => by obtain ⟨q0, q1, q2, q3, q4, q5⟩ := hw'; go_simp) S0 ?_
            simp only [Act.put, List.setIfInBounds_toArray, List.set_cons_zero, List.set_cons_succ]
            refine held_take (i := 8) (v := (.bool true)) 23 rfl rfl (by kernel_rfl) (by kernel_rfl) (by kernel_rfl) rfl (fun w' hw' => by obtain ⟨q0, q1, q2, q3, q4, q5⟩ := hw'; go_simp) S0 ?_
            simp only [Act.put, List.setIfInBounds_toArray, List.set_cons_zero, List.set_cons_succ]
            refine held_take (i := 9) (v := (.slice (some ⟨g, off, none⟩) L.length ac)) 24 rfl rfl (by kernel_rfl) (by kernel_rfl) (by kernel_rfl) rfl (fun w' hw' => by obtain ⟨q0, q1, q2, q3, q4, q5⟩ := hw'; go_simp) S0 ?_
            simp only [Act.put, List.setIfInBounds_toArray, List.set_cons_zero, List.set_cons_succ]
            refine held_take (i := 10) (v := (.int .i64 (k : Int))) 25 rfl rfl (by kernel_rfl) (by kernel_rfl) (by kernel_rfl) rfl (fun w' hw' => by obtain ⟨q0, q1, q2, q3, q4, q5⟩ := hw'; go_simp) S0 ?_
            simp only [Act.put, List.setIfInBounds_toArray, List.set_cons_zero, List.set_cons_succ]
            refine held_take (i := 11) (v := (.pointer (some ⟨g, off + k * 6, none⟩))) 26 rfl rfl (by kernel_rfl) (by kernel_rfl) (by kernel_rfl) rfl (fun w' hw' => by obtain ⟨q0, q1, q2, q3, q4, q5⟩ := hw'; go_simp) S0 ?_
            simp only [Act.put, List.setIfInBounds_toArray, List.set_cons_zero, List.set_cons_succ]
            refine held_take (i := 12) (v := (.pointer (some ⟨g, off + k * 6 + 1, none⟩))) 27 rfl rfl (by kernel_rfl) (by kernel_rfl) (by kernel_rfl) rfl (fun w' hw' => by obtain ⟨q0, q1, q2, q3, q4, q5⟩ := hw'; go_simp) S0 ?_
            simp only [Act.put, List.setIfInBounds_toArray, List.set_cons_zero, List.set_cons_succ]
            refine held_take (i := 13) (v := (.int .i64 2)) 28 rfl rfl (by kernel_rfl) (by kernel_rfl) (by kernel_rfl) rfl (fun w' hw' => by obtain ⟨q0, q1, q2, q3, q4, q5⟩ := hw'; go_simp) S0 ?_
            simp only [Act.put, List.setIfInBounds_toArray, List.set_cons_zero, List.set_cons_succ]
            refine held_take (i := 14) (v := (.bool true)) 29 rfl rfl (by kernel_rfl) (by kernel_rfl) (by kernel_rfl) rfl (fun w' hw' => by obtain ⟨q0, q1, q2, q3, q4, q5⟩ := hw'; go_simp) S0 ?_
            simp only [Act.put, List.setIfInBounds_toArray, List.set_cons_zero, List.set_cons_succ]
            refine held_take (i := 15) (v := (.bool true)) 30 rfl rfl (by kernel_rfl) (by kernel_rfl) (by kernel_rfl) rfl (fun w' hw' => by obtain ⟨q0, q1, q2, q3, q4, q5⟩ := hw'; go_simp) S0 ?_
            simp only [Act.put, List.setIfInBounds_toArray, List.set_cons_zero, List.set_cons_succ]
            refine held_take (i := 16) (v := (.bool true)) 31 rfl rfl (by kernel_rfl) (by kernel_rfl) (by kernel_rfl) rfl (fun w' hw' => by obtain ⟨q0, q1, q2, q3, q4, q5⟩ := hw'; go_simp) S0 ?_
            simp only [Act.put, List.setIfInBounds_toArray, List.set_cons_zero, List.set_cons_succ]
            refine held_take (i := 17) (v := (.slice (some ⟨g, off, none⟩) L.length ac)) 32 rfl rfl (by kernel_rfl) (by kernel_rfl) (by kernel_rfl) rfl (fun w' hw' => by obtain ⟨q0, q1, q2, q3, q4, q5⟩ := hw'; go_simp) S0 ?_
            simp only [Act.put, List.setIfInBounds_toArray, List.set_cons_zero, List.set_cons_succ]
            refine held_take (i := 18) (v := (.int .i64 (k : Int))) 33 rfl rfl (by kernel_rfl) (by kernel_rfl) (by kernel_rfl) rfl (fun w' hw' => by obtain ⟨q0, q1, q2, q3, q4, q5⟩ := hw'; go_simp) S0 ?_
            simp only [Act.put, List.setIfInBounds_toArray, List.set_cons_zero, List.set_cons_succ]
            refine held_take (i := 19) (v := (.pointer (some ⟨g, off + k * 6, none⟩))) 34 rfl rfl (by kernel_rfl) (by kernel_rfl) (by kernel_rfl) rfl (fun w' hw' => by obtain ⟨q0, q1, q2, q3, q4, q5⟩ := hw'; go_simp) S0 ?_
            simp only [Act.put, List.setIfInBounds_toArray, List.set_cons_zero, List.set_cons_succ]
            refine held_take (i := 20) (v := (.pointer (some ⟨g, off + k * 6 + 4, none⟩))) 35 rfl rfl (by kernel_rfl) (by kernel_rfl) (by kernel_rfl) rfl (fun w' hw' => by obtain ⟨q0, q1, q2, q3, q4, q5⟩ := hw'; go_simp) S0 ?_
            simp only [Act.put, List.setIfInBounds_toArray, List.set_cons_zero, List.set_cons_succ]
            refine held_take (i := 21) (v := (.bool true)) 36 rfl rfl (by kernel_rfl) (by kernel_rfl) (by kernel_rfl) rfl (fun w' hw' => by obtain ⟨q0, q1, q2, q3, q4, q5⟩ := hw'; go_simp) S0 ?_
            simp only [Act.put, List.setIfInBounds_toArray, List.set_cons_zero, List.set_cons_succ]
            refine held_take (i := 22) (v := (.bool false)) 37 rfl rfl (by kernel_rfl) (by kernel_rfl) (by kernel_rfl) rfl (fun w' hw' => by obtain ⟨q0, q1, q2, q3, q4, q5⟩ := hw'; go_simp) S0 ?_
            simp only [Act.put, List.setIfInBounds_toArray, List.set_cons_zero, List.set_cons_succ]
            refine held_take (i := 23) (v := (.bool false)) 38 rfl rfl (by kernel_rfl) (by kernel_rfl) (by kernel_rfl) rfl (fun w' hw' => by obtain ⟨q0, q1, q2, q3, q4, q5⟩ := hw'; go_simp) S0 ?_
            simp only [Act.put, List.setIfInBounds_toArray, List.set_cons_zero, List.set_cons_succ]
            refine held_end (by kernel_rfl) ?_ _
            go_wp2_with fail
            go_roundw
            · exact ⟨k + 1, by simp, by omega, by omega, HD, hB, kd⟩
            · simp [intOf]; omega
        · have hkb2 : (ekd == 2) = false := by rw [beq_eq_false_iff_ne]; exact hkd
          have HO : Hid (CR wr (w.heap.size + 1) u5 (rdsU L eth a (k + 1))) := by rw [hsu, if_neg (fun c => hkd c.2.1), Option.toList_none, List.append_nil]; exact hO.out
          obtain ⟨ub, uc, rfl⟩ := hO.out.form
          have S0 : wr.drew.cell? ⟨g, off + k * 6, none⟩ = some (.int .i64 eth) ∧ wr.drew.cell? ⟨g, off + k * 6 + 1, none⟩ = some (.int .i64 ekd) ∧ wr.drew.cell? ⟨g, off + k * 6 + 2, none⟩ = some (.int .u64 ead) ∧ wr.drew.cell? ⟨g, off + k * 6 + 3, none⟩ = some (.int .u64 ewd) ∧ wr.drew.cell? ⟨g, off + k * 6 + 4, none⟩ = some (.bool eow) ∧ wr.drew.cell? ⟨w.heap.size, 0, none⟩ = some (.int .i64 eth) := ⟨x0, x1, x2, x3, x4, c0⟩
          have HD : Hid (CR wr.drew (w.heap.size + 1) _ _) := HO.out.keeps (Keeps.refl (fun _ => False) wr).drew (fun _ _ f => f)
          have kd := kr.drew
          clear hsu hO HO
          go_wp2_with fail
          refine wp_held_end (S := fun W : World => W.cell? ⟨g, off + k * 6, none⟩ = some (.int .i64 eth) ∧ W.cell? ⟨g, off + k * 6 + 1, none⟩ = some (.int .i64 ekd) ∧ W.cell? ⟨g, off + k * 6 + 2, none⟩ = some (.int .u64 ead) ∧ W.cell? ⟨g, off + k * 6 + 3, none⟩ = some (.int .u64 ewd) ∧ W.cell? ⟨g, off + k * 6 + 4, none⟩ = some (.bool eow) ∧ W.cell? ⟨w.heap.size, 0, none⟩ = some (.int .i64 eth)) 24 rfl hmxp ?_
          simp only [Array.replicate_succ, Array.replicate_zero, List.push_toArray, List.nil_append, List.cons_append]
          refine held_take (i := 0) (v := (.slice (some ⟨g, off, none⟩) L.length ac)) 15 rfl rfl (by kernel_rfl) (by kernel_rfl) (by kernel_rfl) rfl (fun w' hw' => by obtain ⟨q0, q1, q2, q3, q4, q5⟩ := hw'; go_simp) S0 ?_
          simp only [Act.put, List.setIfInBounds_toArray, List.set_cons_zero, List.set_cons_succ]
          refine held_take (i := 1) (v := (.int .i64 (k : Int))) 16 rfl rfl (by kernel_rfl) (by kernel_rfl) (by kernel_rfl) rfl (fun w' hw' => by obtain ⟨q0, q1, q2, q3, q4, q5⟩ := hw'; go_simp) S0 ?_
          simp only [Act.put, List.setIfInBounds_toArray, List.set_cons_zero, List.set_cons_succ]
          refine held_take (i := 2) (v := (.pointer (some ⟨g, off + k * 6, none⟩))) 17 rfl rfl (by kernel_rfl) (by kernel_rfl) (by kernel_rfl) rfl (fun w' hw' => by obtain ⟨q0, q1, q2, q3, q4, q5⟩ := hw'; go_simp) S0 ?_
          simp only [Act.put, List.setIfInBounds_toArray, List.set_cons_zero, List.set_cons_succ]
          refine held_take (i := 3) (v := (.pointer (some ⟨g, off + k * 6, none⟩))) 18 rfl rfl (by kernel_rfl) (by kernel_rfl) (by kernel_rfl) rfl (fun w' hw' => by obtain ⟨q0, q1, q2, q3, q4, q5⟩ := hw'; go_simp) S0 ?_
          simp only [Act.put, List.setIfInBounds_toArray, List.set_cons_zero, List.set_cons_succ]
          refine held_take (i := 4) (v := (.int .i64 eth)) 19 rfl rfl (by kernel_rfl) (by kernel_rfl) (by kernel_rfl) rfl (fun w' hw' => by obtain ⟨q0, q1, q2, q3, q4, q5⟩ := hw'; go_simp) S0 ?_
          simp only [Act.put, List.setIfInBounds_toArray, List.set_cons_zero, List.set_cons_succ]
          refine held_take (i := 5) (v := (.pointer (some ⟨w.heap.size, 0, none⟩))) 20 rfl rfl (by kernel_rfl) (by kernel_rfl) (by kernel_rfl) rfl (fun w' hw' => by obtain ⟨q0, q1, q2, q3, q4, q5⟩ := hw'; go_simp) S0 ?_
          simp only [Act.put, List.setIfInBounds_toArray, List.set_cons_zero, List.set_cons_succ]
          refine held_take (i := 6) (v := (.int .i64 eth)) 21 rfl rfl (by kernel_rfl) (by kernel_rfl) (by kernel_rfl) rfl (fun w' hw' => by obtain ⟨q0, q1, q2, q3, q4, q5⟩ := hw'; go_simp) S0 ?_
          simp only [Act.put, List.setIfInBounds_toArray, List.set_cons_zero, List.set_cons_succ]
          refine held_take (i := 7) (v := (.bool true)) 22 rfl rfl (by kernel_rfl) (by kernel_rfl) (by kernel_rfl) rfl (fun w' hw' => by obtain ⟨q0, q1, q2, q3, q4, q5⟩ := hw'; go_simp) S0 ?_
          simp only [Act.put, List.setIfInBounds_toArray, List.set_cons_zero, List.set_cons_succ]
          refine held_take (i := 8) (v := (.bool true)) 23 rfl rfl (by kernel_rfl) (by kernel_rfl) (by kernel_rfl) rfl (fun w' hw' => by obtain ⟨q0, q1, q2, q3, q4, q5⟩ := hw'; go_simp) S0 ?_
          simp only [Act.put, List.setIfInBounds_toArray, List.set_cons_zero, List.set_cons_succ]
          refine held_take (i := 9) (v := (.slice (some ⟨g, off, none⟩) L.length ac)) 24 rfl rfl (by kernel_rfl) (by kernel_rfl) (by kernel_rfl) rfl (fun w' hw' => by obtain ⟨q0, q1, q2, q3, q4, q5⟩ := hw'; go_simp) S0 ?_
          simp only [Act.put, List.setIfInBounds_toArray, List.set_cons_zero, List.set_cons_succ]
          refine held_take (i := 10) (v := (.int .i64 (k : Int))) 25 rfl rfl (by kernel_rfl) (by kernel_rfl) (by kernel_rfl) rfl (fun w' hw' => by obtain ⟨q0, q1, q2, q3, q4, q5⟩ := hw'; go_simp) S0 ?_
          simp only [Act.put, List.setIfInBounds_toArray, List.set_cons_zero, List.set_cons_succ]
          refine held_take (i := 11) (v := (.pointer (some ⟨g, off + k * 6, none⟩))) 26 rfl rfl (by kernel_rfl) (by kernel_rfl) (by kernel_rfl) rfl (fun w' hw' => by obtain ⟨q0, q1, q2, q3, q4, q5⟩ := hw'; go_simp) S0 ?_
          simp only [Act.put, List.setIfInBounds_toArray, List.set_cons_zero, List.set_cons_succ]
          refine held_take (i := 12) (v := (.pointer (some ⟨g, off + k * 6 + 1, none⟩))) 27 rfl rfl (by kernel_rfl) (by kernel_rfl) (by kernel_rfl) rfl (fun w' hw' => by obtain ⟨q0, q1, q2, q3, q4, q5⟩ := hw'; go_simp) S0 ?_
          simp only [Act.put, List.setIfInBounds_toArray, List.set_cons_zero, List.set_cons_succ]
          refine held_take (i := 13) (v := (.int .i64 ekd)) 28 rfl rfl (by kernel_rfl) (by kernel_rfl) (by kernel_rfl) rfl (fun w' hw' => by obtain ⟨q0, q1, q2, q3, q4, q5⟩ := hw'; go_simp) S0 ?_
          simp only [Act.put, List.setIfInBounds_toArray, List.set_cons_zero, List.set_cons_succ]
          refine held_take (i := 14) (v := (.bool false)) 29 rfl rfl (by kernel_rfl) (by kernel_rfl) (by kernel_rfl) rfl (fun w' hw' => by obtain ⟨q0, q1, q2, q3, q4, q5⟩ := hw'; go_simp) S0 ?_
          simp only [Act.put, List.setIfInBounds_toArray, List.set_cons_zero, List.set_cons_succ]
          refine held_take (i := 15) (v := (.bool false)) 30 rfl rfl (by kernel_rfl) (by kernel_rfl) (by kernel_rfl) rfl (fun w' hw' => by obtain ⟨q0, q1, q2, q3, q4, q5⟩ := hw'; go_simp) S0 ?_
          simp only [Act.put, List.setIfInBounds_toArray, List.set_cons_zero, List.set_cons_succ]
          refine held_take (i := 16) (v := (.bool false)) 31 rfl rfl (by kernel_rfl) (by kernel_rfl) (by kernel_rfl) rfl (fun w' hw' => by obtain ⟨q0, q1, q2, q3, q4, q5⟩ := hw'; go_simp) S0 ?_
          simp only [Act.put, List.setIfInBounds_toArray, List.set_cons_zero, List.set_cons_succ]
          refine held_skipO (i := 17) 32 rfl rfl (by kernel_rfl) (by kernel_rfl) (by kernel_rfl) rfl S0 ?_
          simp only [Act.put, List.setIfInBounds_toArray, List.set_cons_zero, List.set_cons_succ]
          refine held_skipO (i := 18) 33 rfl rfl (by kernel_rfl) (by kernel_rfl) (by kernel_rfl) rfl S0 ?_
          simp only [Act.put, List.setIfInBounds_toArray, List.set_cons_zero, List.set_cons_succ]
          refine held_skipO (i := 19) 34 rfl rfl (by kernel_rfl) (by kernel_rfl) (by kernel_rfl) rfl S0 ?_
          simp only [Act.put, List.setIfInBounds_toArray, List.set_cons_zero, List.set_cons_succ]
          refine held_skipO (i := 20) 35 rfl rfl (by kernel_rfl) (by kernel_rfl) (by kernel_rfl) rfl S0 ?_
          simp only [Act.put, List.setIfInBounds_toArray, List.set_cons_zero, List.set_cons_succ]
          refine held_skipO (i := 21) 36 rfl rfl (by kernel_rfl) (by kernel_rfl) (by kernel_rfl) rfl S0 ?_
          simp only [Act.put, List.setIfInBounds_toArray, List.set_cons_zero, List.set_cons_succ]
          refine held_skipO (i := 22) 37 rfl rfl (by kernel_rfl) (by kernel_rfl) (by kernel_rfl) rfl S0 ?_
          simp only [Act.put, List.setIfInBounds_toArray, List.set_cons_zero, List.set_cons_succ]
          refine held_take (i := 23) (v := (.bool false)) 38 rfl rfl (by kernel_rfl) (by kernel_rfl) (by kernel_rfl) rfl (fun w' hw' => by obtain ⟨q0, q1, q2, q3, q4, q5⟩ := hw'; go_simp) S0 ?_
          simp only [Act.put, List.setIfInBounds_toArray, List.set_cons_zero, List.set_cons_succ]
          refine held_end (by kernel_rfl) ?_ _
          go_wp2_with fail
          go_roundw
          · exact ⟨k + 1, by simp, by omega, by omega, HD, hB, kd⟩
          · simp [intOf]; omega
      · have htb : (eth == th) = false := by rw [beq_eq_false_iff_ne]; exact hth
        have HO : Hid (CR wr (w.heap.size + 1) u5 (rdsU L th a (k + 1))) := by rw [hsu, if_neg (fun c => hth c.1), Option.toList_none, List.append_nil]; exact hO.out
        obtain ⟨ub, uc, rfl⟩ := hO.out.form
        have S0 : wr.drew.cell? ⟨g, off + k * 6, none⟩ = some (.int .i64 eth) ∧ wr.drew.cell? ⟨g, off + k * 6 + 1, none⟩ = some (.int .i64 ekd) ∧ wr.drew.cell? ⟨g, off + k * 6 + 2, none⟩ = some (.int .u64 ead) ∧ wr.drew.cell? ⟨g, off + k * 6 + 3, none⟩ = some (.int .u64 ewd) ∧ wr.drew.cell? ⟨g, off + k * 6 + 4, none⟩ = some (.bool eow) ∧ wr.drew.cell? ⟨w.heap.size, 0, none⟩ = some (.int .i64 th) := ⟨x0, x1, x2, x3, x4, c0⟩
        have HD : Hid (CR wr.drew (w.heap.size + 1) _ _) := HO.out.keeps (Keeps.refl (fun _ => False) wr).drew (fun _ _ f => f)
        have kd := kr.drew
        clear hsu hO HO
        go_wp2_with fail
        refine wp_held_end (S := fun W : World => W.cell? ⟨g, off + k * 6, none⟩ = some (.int .i64 eth) ∧ W.cell? ⟨g, off + k * 6 + 1, none⟩ = some (.int .i64 ekd) ∧ W.cell? ⟨g, off + k * 6 + 2, none⟩ = some (.int .u64 ead) ∧ W.cell? ⟨g, off + k * 6 + 3, none⟩ = some (.int .u64 ewd) ∧ W.cell? ⟨g, off + k * 6 + 4, none⟩ = some (.bool eow) ∧ W.cell? ⟨w.heap.size, 0, none⟩ = some (.int .i64 th)) 24 rfl hmxp ?_
        simp only [Array.replicate_succ, Array.replicate_zero, List.push_toArray, List.nil_append, List.cons_append]
        refine held_take (i := 0) (v := (.slice (some ⟨g, off, none⟩) L.length ac)) 15 rfl rfl (by kernel_rfl) (by kernel_rfl) (by kernel_rfl) rfl (fun w' hw' => by obtain ⟨q0, q1, q2, q3, q4, q5⟩ := hw'; go_simp) S0 ?_
        simp only [Act.put, List.setIfInBounds_toArray, List.set_cons_zero, List.set_cons_succ]
        refine held_take (i := 1) (v := (.int .i64 (k : Int))) 16 rfl rfl (by kernel_rfl) (by kernel_rfl) (by kernel_rfl) rfl (fun w' hw' => by obtain ⟨q0, q1, q2, q3, q4, q5⟩ := hw'; go_simp) S0 ?_
        simp only [Act.put, List.setIfInBounds_toArray, List.set_cons_zero, List.set_cons_succ]
        refine held_take (i := 2) (v := (.pointer (some ⟨g, off + k * 6, none⟩))) 17 rfl rfl (by kernel_rfl) (by kernel_rfl) (by kernel_rfl) rfl (fun w' hw' => by obtain ⟨q0, q1, q2, q3, q4, q5⟩ := hw'; go_simp) S0 ?_
        simp only [Act.put, List.setIfInBounds_toArray, List.set_cons_zero, List.set_cons_succ]
        refine held_take (i := 3) (v := (.pointer (some ⟨g, off + k * 6, none⟩))) 18 rfl rfl (by kernel_rfl) (by kernel_rfl) (by kernel_rfl) rfl (fun w' hw' => by obtain ⟨q0, q1, q2, q3, q4, q5⟩ := hw'; go_simp) S0 ?_
        simp only [Act.put, List.setIfInBounds_toArray, List.set_cons_zero, List.set_cons_succ]
        refine held_take (i := 4) (v := (.int .i64 eth)) 19 rfl rfl (by kernel_rfl) (by kernel_rfl) (by kernel_rfl) rfl (fun w' hw' => by obtain ⟨q0, q1, q2, q3, q4, q5⟩ := hw'; go_simp) S0 ?_
        simp only [Act.put, List.setIfInBounds_toArray, List.set_cons_zero, List.set_cons_succ]
        refine held_take (i := 5) (v := (.pointer (some ⟨w.heap.size, 0, none⟩))) 20 rfl rfl (by kernel_rfl) (by kernel_rfl) (by kernel_rfl) rfl (fun w' hw' => by obtain ⟨q0, q1, q2, q3, q4, q5⟩ := hw'; go_simp) S0 ?_
        simp only [Act.put, List.setIfInBounds_toArray, List.set_cons_zero, List.set_cons_succ]
        refine held_take (i := 6) (v := (.int .i64 th)) 21 rfl rfl (by kernel_rfl) (by kernel_rfl) (by kernel_rfl) rfl (fun w' hw' => by obtain ⟨q0, q1, q2, q3, q4, q5⟩ := hw'; go_simp) S0 ?_
        simp only [Act.put, List.setIfInBounds_toArray, List.set_cons_zero, List.set_cons_succ]
        refine held_take (i := 7) (v := (.bool false)) 22 rfl rfl (by kernel_rfl) (by kernel_rfl) (by kernel_rfl) rfl (fun w' hw' => by obtain ⟨q0, q1, q2, q3, q4, q5⟩ := hw'; go_simp) S0 ?_
        simp only [Act.put, List.setIfInBounds_toArray, List.set_cons_zero, List.set_cons_succ]
        refine held_take (i := 8) (v := (.bool false)) 23 rfl rfl (by kernel_rfl) (by kernel_rfl) (by kernel_rfl) rfl (fun w' hw' => by obtain ⟨q0, q1, q2, q3, q4, q5⟩ := hw'; go_simp) S0 ?_
        simp only [Act.put, List.setIfInBounds_toArray, List.set_cons_zero, List.set_cons_succ]
        refine held_skipO (i := 9) 24 rfl rfl (by kernel_rfl) (by kernel_rfl) (by kernel_rfl) rfl S0 ?_
        simp only [Act.put, List.setIfInBounds_toArray, List.set_cons_zero, List.set_cons_succ]
        refine held_skipO (i := 10) 25 rfl rfl (by kernel_rfl) (by kernel_rfl) (by kernel_rfl) rfl S0 ?_
        simp only [Act.put, List.setIfInBounds_toArray, List.set_cons_zero, List.set_cons_succ]
        refine held_skipO (i := 11) 26 rfl rfl (by kernel_rfl) (by kernel_rfl) (by kernel_rfl) rfl S0 ?_
        simp only [Act.put, List.setIfInBounds_toArray, List.set_cons_zero, List.set_cons_succ]
        refine held_skipO (i := 12) 27 rfl rfl (by kernel_rfl) (by kernel_rfl) (by kernel_rfl) rfl S0 ?_
        simp only [Act.put, List.setIfInBounds_toArray, List.set_cons_zero, List.set_cons_succ]
        refine held_skipO (i := 13) 28 rfl rfl (by kernel_rfl) (by kernel_rfl) (by kernel_rfl) rfl S0 ?_
        simp only [Act.put, List.setIfInBounds_toArray, List.set_cons_zero, List.set_cons_succ]
        refine held_skipO (i := 14) 29 rfl rfl (by kernel_rfl) (by kernel_rfl) (by kernel_rfl) rfl S0 ?_
        simp only [Act.put, List.setIfInBounds_toArray, List.set_cons_zero, List.set_cons_succ]
        refine held_take (i := 15) (v := (.bool false)) 30 rfl rfl (by kernel_rfl) (by kernel_rfl) (by kernel_rfl) rfl (fun w' hw' => by obtain ⟨q0, q1, q2, q3, q4, q5⟩ := hw'; go_simp) S0 ?_
        simp only [Act.put, List.setIfInBounds_toArray, List.set_cons_zero, List.set_cons_succ]
        refine held_take (i := 16) (v := (.bool false)) 31 rfl rfl (by kernel_rfl) (by kernel_rfl) (by kernel_rfl) rfl (fun w' hw' => by obtain ⟨q0, q1, q2, q3, q4, q5⟩ := hw'; go_simp) S0 ?_
        simp only [Act.put, List.setIfInBounds_toArray, List.set_cons_zero, List.set_cons_succ]
        refine held_skipO (i := 17) 32 rfl rfl (by kernel_rfl) (by kernel_rfl) (by kernel_rfl) rfl S0 ?_
        simp only [Act.put, List.setIfInBounds_toArray, List.set_cons_zero, List.set_cons_succ]
        refine held_skipO (i := 18) 33 rfl rfl (by kernel_rfl) (by kernel_rfl) (by kernel_rfl) rfl S0 ?_
        simp only [Act.put, List.setIfInBounds_toArray, List.set_cons_zero, List.set_cons_succ]
        refine held_skipO (i := 19) 34 rfl rfl (by kernel_rfl) (by kernel_rfl) (by kernel_rfl) rfl S0 ?_
        simp only [Act.put, List.setIfInBounds_toArray, List.set_cons_zero, List.set_cons_succ]
        refine held_skipO (i := 20) 35 rfl rfl (by kernel_rfl) (by kernel_rfl) (by kernel_rfl) rfl S0 ?_
        simp only [Act.put, List.setIfInBounds_toArray, List.set_cons_zero, List.set_cons_succ]
        refine held_skipO (i := 21) 36 rfl rfl (by kernel_rfl) (by kernel_rfl) (by kernel_rfl) rfl S0 ?_
        simp only [Act.put, List.setIfInBounds_toArray, List.set_cons_zero, List.set_cons_succ]
        refine held_skipO (i := 22) 37 rfl rfl (by kernel_rfl) (by kernel_rfl) (by kernel_rfl) rfl S0 ?_
        simp only [Act.put, List.setIfInBounds_toArray, List.set_cons_zero, List.set_cons_succ]
        refine held_take (i := 23) (v := (.bool false)) 38 rfl rfl (by kernel_rfl) (by kernel_rfl) (by kernel_rfl) rfl (fun w' hw' => by obtain ⟨q0, q1, q2, q3, q4, q5⟩ := hw'; go_simp) S0 ?_
        simp only [Act.put, List.setIfInBounds_toArray, List.set_cons_zero, List.set_cons_succ]
        refine held_end (by kernel_rfl) ?_ _
        go_wp2_with fail
        go_roundw
        · exact ⟨k + 1, by simp, by omega, by omega, HD, hB, kd⟩
        · simp [intOf]; omega
    · obtain rfl : k = b + 1 := by omega
      have hgt : ¬ (((b + 1 : Nat) : Int) ≤ (b : Int)) := by omega
      have HF : Hid (CR wr w.heap.size u5 (rdsU L th a (b + 1))) := hO.out.lowE (by omega)
      obtain ⟨ub, uc, rfl⟩ := hO.out.form
      clear hO hB
      go_wp2_with fail
      go_ret
      exact ⟨_, rfl, HF.out, kr⟩
end Go.Proofs.YthmiainhaebjiaaGreatDoor
