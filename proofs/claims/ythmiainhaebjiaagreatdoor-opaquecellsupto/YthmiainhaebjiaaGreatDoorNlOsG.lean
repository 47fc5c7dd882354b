import Derived.Test.YthmiainhaebjiaaGreatDoorNkOsF
import Derived.Test.YthmiainhaebjiaaGreatDoorM28OrI
import Derived.Test.YthmiainhaebjiaaGreatDoorM31OpY
import Derived.Test.YthmiainhaebjiaaGreatDoorM35OqM0

/- The program's Behind, Together and Never where look refuses, Together where an address lies behind the cells (layer 16). No statement of the seat is proved here. -/
namespace Go.Proofs.YthmiainhaebjiaaGreatDoor
open Go.RowKit Go.Shelf

set_option maxRecDepth 100000 in
set_option maxHeartbeats 8000000 in
theorem never_lk (va : Option Addr) (vc n : Nat) (v : Value) (hv : ∃ a m c, v = .slice a m c) (a e : Int) (he : e ≠ 0) (w : World)
    (LK : Calls Tryz.prog 21 #[.slice va n vc, v] (w.alloc (.cells (odV 0 0) 31)) fun ex w' => ex = .returned (.tuple #[.pointer none, .agg (odV a e)]) ∧ Keeps (fun _ => False) (w.alloc (.cells (odV 0 0) 31)) w') :
    Calls Tryz.prog 10 #[.slice va n vc, v] w fun ex w' => ex = .returned (.tuple #[.slice none 0 0, .agg (odV a e)]) ∧ Keeps (fun _ => False) w w' := by
  have k0 := (Keeps.refl (fun _ => False) w).alloc (.cells (odV 0 0) 31)
  have b0 : (w.alloc (.cells (odV 0 0) 31)).heap[w.heap.size]? = some (.cells (odV 0 0) 31 (0, 0)) := (MapKept.heap_alloc w _).1
  obtain ⟨a1, m1, cap1, rfl⟩ := hv
  unfold odV at LK k0 b0 ⊢
  have hzb : (e == 0) = false := by rw [beq_eq_false_iff_ne]; exact he
  have hzn : (e != 0) = true := by rw [bne_iff_ne]; exact he
  go_enter Tryz.func10, Tryz.ntmps10
  go_wp2_with fail
  refine LK.mono ?_
  rintro ex w1 ⟨rfl, k1⟩
  clear LK
  have K1 := k0.trans k1
  have B1 := (k1.block _ (lt_of_block b0) (fun f => f)).trans b0
  have kA := (Keeps.refl (fun _ => False) w1).alloc (.cells #[.int .i64 a, .int .i64 e] 31)
  have bA := (MapKept.heap_alloc w1 (.cells #[.int .i64 a, .int .i64 e] 31)).1
  have B2 := (kA.block _ (lt_of_block B1) (fun f => f)).trans B1
  have hlt1 := lt_of_block B1
  go_wp2_with fail
  generalize hW : w1.alloc (.cells #[.int .i64 a, .int .i64 e] 31) = W at *
  have c0 : W.cell? ⟨w.heap.size, 0, none⟩ = some (.int .i64 0) := by rw [cell_of_block B2]; rfl
  have c1 : W.cell? ⟨w.heap.size, 1, none⟩ = some (.int .i64 0) := by rw [cell_of_block B2]; rfl
  have f0 : W.frozen? ⟨w.heap.size, 0, none⟩ = false := frozen_of_block B2 _
  have f1 : W.frozen? ⟨w.heap.size, 1, none⟩ = false := frozen_of_block B2 _
  have hS0 : W.cell? ⟨w1.heap.size, 0, none⟩ = some (.int .i64 a) ∧ W.cell? ⟨w1.heap.size, 1, none⟩ = some (.int .i64 e) := ⟨by rw [cell_of_block bA]; rfl, by rw [cell_of_block bA]; rfl⟩
  have hne : ¬ w.heap.size = w1.heap.size := by omega
  have BE : Hid (∀ X : World, X.heap = W.heap → ((X.setCell ⟨w.heap.size, 0, none⟩ (.int .i64 a)).setCell ⟨w.heap.size, 1, none⟩ (.int .i64 e)).heap[w.heap.size]? = some (.cells #[.int .i64 a, .int .i64 e] 31 (0, 0))) := fun X hX => block_set (block_set (w := X) (by rw [hX]; exact B2) 0 (.int .i64 a)) 1 (.int .i64 e)
  have KE := K1.trans kA
  clear hW kA bA B2 K1
  go_region_held3 (fun W : World => W.cell? ⟨w1.heap.size, 0, none⟩ = some (.int .i64 a) ∧ W.cell? ⟨w1.heap.size, 1, none⟩ = some (.int .i64 e)) (first | assumption | (exact hS0) | go_keep) (fail)
  go_wp2_with fail
  refine bodyPost_ret (odd_ret2 rfl _ _ w.heap.size #[.int .i64 a, .int .i64 e] (BE.out W rfl) rfl rfl) rfl ?_
  exact ⟨rfl, (((KE.setCell (.inl (Nat.le_refl _)) _).setCell (.inl (Nat.le_refl _)) _).drew)⟩
set_option maxRecDepth 100000 in
set_option maxHeartbeats 8000000 in
theorem behind_lk (va : Option Addr) (vc n : Nat) (v : Value) (hv : ∃ a m c, v = .slice a m c) (m : Int) (a e : Int) (he : e ≠ 0) (w : World)
    (LK : Calls Tryz.prog 21 #[.slice va n vc, v] (w.alloc (.cells (odV 0 0) 31)) fun ex w' => ex = .returned (.tuple #[.pointer none, .agg (odV a e)]) ∧ Keeps (fun _ => False) (w.alloc (.cells (odV 0 0) 31)) w') :
    Calls Tryz.prog 6 #[.slice va n vc, v, .int .i64 m] w fun ex w' => ex = .returned (.tuple #[.slice none 0 0, .agg (odV a e)]) ∧ Keeps (fun _ => False) w w' := by
  have k0 := (Keeps.refl (fun _ => False) w).alloc (.cells (odV 0 0) 31)
  have b0 : (w.alloc (.cells (odV 0 0) 31)).heap[w.heap.size]? = some (.cells (odV 0 0) 31 (0, 0)) := (MapKept.heap_alloc w _).1
  obtain ⟨a1, m1, cap1, rfl⟩ := hv
  unfold odV at LK k0 b0 ⊢
  have hzb : (e == 0) = false := by rw [beq_eq_false_iff_ne]; exact he
  have hzn : (e != 0) = true := by rw [bne_iff_ne]; exact he
  go_enter Tryz.func6, Tryz.ntmps6
  go_wp2_with fail
  refine LK.mono ?_
  rintro ex w1 ⟨rfl, k1⟩
  clear LK
  have K1 := k0.trans k1
  have B1 := (k1.block _ (lt_of_block b0) (fun f => f)).trans b0
  have kA := (Keeps.refl (fun _ => False) w1).alloc (.cells #[.int .i64 a, .int .i64 e] 31)
  have bA := (MapKept.heap_alloc w1 (.cells #[.int .i64 a, .int .i64 e] 31)).1
  have B2 := (kA.block _ (lt_of_block B1) (fun f => f)).trans B1
  have hlt1 := lt_of_block B1
  go_wp2_with fail
  generalize hW : w1.alloc (.cells #[.int .i64 a, .int .i64 e] 31) = W at *
  have c0 : W.cell? ⟨w.heap.size, 0, none⟩ = some (.int .i64 0) := by rw [cell_of_block B2]; rfl
  have c1 : W.cell? ⟨w.heap.size, 1, none⟩ = some (.int .i64 0) := by rw [cell_of_block B2]; rfl
  have f0 : W.frozen? ⟨w.heap.size, 0, none⟩ = false := frozen_of_block B2 _
  have f1 : W.frozen? ⟨w.heap.size, 1, none⟩ = false := frozen_of_block B2 _
  have hS0 : W.cell? ⟨w1.heap.size, 0, none⟩ = some (.int .i64 a) ∧ W.cell? ⟨w1.heap.size, 1, none⟩ = some (.int .i64 e) := ⟨by rw [cell_of_block bA]; rfl, by rw [cell_of_block bA]; rfl⟩
  have hne : ¬ w.heap.size = w1.heap.size := by omega
  have BE : Hid (∀ X : World, X.heap = W.heap → ((X.setCell ⟨w.heap.size, 0, none⟩ (.int .i64 a)).setCell ⟨w.heap.size, 1, none⟩ (.int .i64 e)).heap[w.heap.size]? = some (.cells #[.int .i64 a, .int .i64 e] 31 (0, 0))) := fun X hX => block_set (block_set (w := X) (by rw [hX]; exact B2) 0 (.int .i64 a)) 1 (.int .i64 e)
  have KE := K1.trans kA
  clear hW kA bA B2 K1
  go_region_held3 (fun W : World => W.cell? ⟨w1.heap.size, 0, none⟩ = some (.int .i64 a) ∧ W.cell? ⟨w1.heap.size, 1, none⟩ = some (.int .i64 e)) (first | assumption | (exact hS0) | go_keep) (fail)
  go_wp2_with fail
  refine bodyPost_ret (odd_ret2 rfl _ _ w.heap.size #[.int .i64 a, .int .i64 e] (BE.out W rfl) rfl rfl) rfl ?_
  exact ⟨rfl, (((KE.setCell (.inl (Nat.le_refl _)) _).setCell (.inl (Nat.le_refl _)) _).drew)⟩
set_option maxRecDepth 100000 in
set_option maxHeartbeats 8000000 in
theorem together_lk (va : Option Addr) (vc n : Nat) (v : Value) (hv : ∃ a m c, v = .slice a m c) (sa : Option Addr) (sn sc : Nat) (a e : Int) (he : e ≠ 0) (w : World)
    (LK : Calls Tryz.prog 21 #[.slice va n vc, v] (w.alloc (.cells (odV 0 0) 31)) fun ex w' => ex = .returned (.tuple #[.pointer none, .agg (odV a e)]) ∧ Keeps (fun _ => False) (w.alloc (.cells (odV 0 0) 31)) w') :
    Calls Tryz.prog 8 #[.slice va n vc, v, .slice sa sn sc] w fun ex w' => ex = .returned (.tuple #[.slice none 0 0, .agg (odV a e)]) ∧ Keeps (fun _ => False) w w' := by
  have k0 := (Keeps.refl (fun _ => False) w).alloc (.cells (odV 0 0) 31)
  have b0 : (w.alloc (.cells (odV 0 0) 31)).heap[w.heap.size]? = some (.cells (odV 0 0) 31 (0, 0)) := (MapKept.heap_alloc w _).1
  obtain ⟨a1, m1, cap1, rfl⟩ := hv
  unfold odV at LK k0 b0 ⊢
  have hzb : (e == 0) = false := by rw [beq_eq_false_iff_ne]; exact he
  have hzn : (e != 0) = true := by rw [bne_iff_ne]; exact he
  go_enter Tryz.func8, Tryz.ntmps8
  go_wp2_with fail
  refine LK.mono ?_
  rintro ex w1 ⟨rfl, k1⟩
  clear LK
  have kP := (Keeps.refl (fun _ => False) w1).alloc (.cells #[.pointer none] 61)
  have HP2 : Hid (w1.alloc (.cells #[.pointer none] 61) = w1.alloc (.cells #[.pointer none] 61)) := rfl
  have K1 := (k0.trans k1).trans kP
  have B1 := ((k1.trans kP).block _ (lt_of_block b0) (fun f => f)).trans b0
  have hz2 : (w1.alloc (.cells #[.pointer none] 61)).heap.size = w1.heap.size + 1 := by simp
  generalize hw2 : w1.alloc (.cells #[.pointer none] 61) = w2 at K1 B1 hz2
  have HW2 : Hid (_ = w2) := hw2
  have HZ2 : Hid (w2.heap.size = w1.heap.size + 1) := hz2
  clear hw2 hz2 HP2 kP
  have kA := (Keeps.refl (fun _ => False) w2).alloc (.cells #[.int .i64 a, .int .i64 e] 31)
  have bA := (MapKept.heap_alloc w2 (.cells #[.int .i64 a, .int .i64 e] 31)).1
  have B2 := (kA.block _ (lt_of_block B1) (fun f => f)).trans B1
  have hlt1 := lt_of_block B1
  go_wp2_with fail
  rw [HW2.out, ← HZ2.out]
  generalize hW : w2.alloc (.cells #[.int .i64 a, .int .i64 e] 31) = W at *
  have c0 : W.cell? ⟨w.heap.size, 0, none⟩ = some (.int .i64 0) := by rw [cell_of_block B2]; rfl
  have c1 : W.cell? ⟨w.heap.size, 1, none⟩ = some (.int .i64 0) := by rw [cell_of_block B2]; rfl
  have f0 : W.frozen? ⟨w.heap.size, 0, none⟩ = false := frozen_of_block B2 _
  have f1 : W.frozen? ⟨w.heap.size, 1, none⟩ = false := frozen_of_block B2 _
  have hS0 : W.cell? ⟨w2.heap.size, 0, none⟩ = some (.int .i64 a) ∧ W.cell? ⟨w2.heap.size, 1, none⟩ = some (.int .i64 e) := ⟨by rw [cell_of_block bA]; rfl, by rw [cell_of_block bA]; rfl⟩
  have hne : ¬ w.heap.size = w2.heap.size := by omega
  have BE : Hid (∀ X : World, X.heap = W.heap → ((X.setCell ⟨w.heap.size, 0, none⟩ (.int .i64 a)).setCell ⟨w.heap.size, 1, none⟩ (.int .i64 e)).heap[w.heap.size]? = some (.cells #[.int .i64 a, .int .i64 e] 31 (0, 0))) := fun X hX => block_set (block_set (w := X) (by rw [hX]; exact B2) 0 (.int .i64 a)) 1 (.int .i64 e)
  have KE := K1.trans kA
  clear hW kA bA B2 K1
  go_region_held3 (fun W : World => W.cell? ⟨w2.heap.size, 0, none⟩ = some (.int .i64 a) ∧ W.cell? ⟨w2.heap.size, 1, none⟩ = some (.int .i64 e)) (first | assumption | (exact hS0) | go_keep) (fail)
  go_wp2_with fail
  refine bodyPost_ret (odd_ret2 rfl _ _ w.heap.size #[.int .i64 a, .int .i64 e] (BE.out W rfl) rfl rfl) rfl ?_
  exact ⟨rfl, (((KE.setCell (.inl (Nat.le_refl _)) _).setCell (.inl (Nat.le_refl _)) _).drew)⟩
set_option maxRecDepth 100000 in
set_option maxHeartbeats 8000000 in
theorem cont_far (v : Value) (L : List (Int × Int)) (hl : L.length ≤ 1100000) (cb pb n cap : Nat) (a : Option Addr) (hn : n ≤ 65536) (hex : ∃ e ∈ L, (n : Int) ≤ e.1) (w : World) (c8 : w.cell? ⟨cb, 0, none⟩ = some (.pointer (some ⟨pb, 0, none⟩))) (c0 : w.cell? ⟨pb, 0, none⟩ = some (.slice a n cap)) (hv : ElsAt clC 2 w v L) : Calls Tryz.prog 26 #[v, .func (.func 27) #[] #[.pointer (some ⟨cb, 0, none⟩)]] w fun ex w' => ex = .returned (.bool true) ∧ Keeps (fun _ => False) w w' := by
  have IX := idx_cell v L hl cb pb n cap a hn w c8 c0 hv
  obtain ⟨z, hz, hge⟩ : ∃ z : Int, idxF (farC n) L 0 = z ∧ z ≥ 0 := by
    refine ⟨_, rfl, ?_⟩
    obtain ⟨e, he, hle⟩ := hex
    rcases idxF_in (farC n) L 0 with ⟨h, h2⟩ | ⟨j, h, hj, hf⟩
    · have := h2 e he
      unfold farC at this
      simp at this
      omega
    · omega
  rw [hz] at IX
  obtain ⟨a1, cap1, rfl, hcap⟩ := hv.shape
  clear hv hz hex
  go_enter Tryz.func26, Tryz.ntmps26
  go_wp2_with fail
  refine IX.mono ?_
  rintro ex w2 ⟨rfl, k2⟩
  go_wp2_with fail
  go_ret
  exact ⟨rfl, k2⟩
set_option maxRecDepth 100000 in
set_option maxHeartbeats 8000000 in
theorem together_far (va : Option Addr) (vc : Nat) (F : List Int) (v : Value) (L : List Ev) (hl : L.length ≤ 1050000) (vs : Value) (ws : List (Int × Int)) (hwl : ws.length ≤ 1100000) (hex : ∃ e ∈ ws, (F.length : Int) ≤ e.1) (w : World) (hv : EvsAt w v L) (hF : WsAt w (.slice va F.length vc) F) (hs : ElsAt clC 2 w vs ws) (hg : Gv w) (h8 : 2 ≤ w.heap.size) (hF0 : 0 < F.length) (hF1 : F.length ≤ 65536) (hz : (checkL L).2 = 0) (hp : idxF plainE L 0 = -1) (hm : idxF (missE F.length) L 0 = -1) :
    Calls Tryz.prog 8 #[.slice va F.length vc, v, vs] w fun ex w' => ex = .returned (.tuple #[.slice none 0 0, .agg (odV (-1) 4)]) ∧ Keeps (fun _ => False) w w' := by
  have k0 := (Keeps.refl (fun _ => False) w).alloc (.cells (odV 0 0) 31)
  have b0 : (w.alloc (.cells (odV 0 0) 31)).heap[w.heap.size]? = some (.cells (odV 0 0) 31 (0, 0)) := (MapKept.heap_alloc w _).1
  have LK := look_ok va vc F v L hl (w.alloc (.cells (odV 0 0) 31)) (hv.keeps k0) (hF.keeps wC_ne k0) (hg.keeps k0) (by simp; omega) hF0 hF1 hz hp hm
  have HS : Hid (∀ X, Keeps (fun _ => False) w X → ElsAt clC 2 X vs ws) := fun X k => hs.keeps cl_ne k
  obtain ⟨a1, cap1, rfl, hcap⟩ := hv.els.shape
  obtain ⟨sa, sc, rfl, hsc⟩ := hs.shape
  unfold odV at k0 b0 LK
  clear hv hF hg hs
  go_enter Tryz.func8, Tryz.ntmps8
  go_wp2_with fail
  refine LK.mono ?_
  rintro ex w1 ⟨pb, mb, b2, vT, vB, vW, X, Y, f, rfl, hPa, hX, hu, k1⟩
  clear LK
  have kP := (Keeps.refl (fun _ => False) w1).alloc (.cells #[.pointer (some ⟨pb, 0, none⟩)] 61)
  have bP := (MapKept.heap_alloc w1 (.cells #[.pointer (some ⟨pb, 0, none⟩)] 61)).1
  have kA := (Keeps.refl (fun _ => False) (w1.alloc (.cells #[.pointer (some ⟨pb, 0, none⟩)] 61))).alloc (.cells #[.int .i64 (-1), .int .i64 0] 31)
  have bA := (MapKept.heap_alloc (w1.alloc (.cells #[.pointer (some ⟨pb, 0, none⟩)] 61)) (.cells #[.int .i64 (-1), .int .i64 0] 31)).1
  rw [show (w1.alloc (.cells #[.pointer (some ⟨pb, 0, none⟩)] 61)).heap.size = w1.heap.size + 1 by simp] at bA
  have K1 := ((k0.trans k1).trans kP).trans kA
  have bO := (((k1.trans kP).trans kA).block _ (lt_of_block b0) (fun f => f)).trans b0
  have bP2 := (kA.block _ (lt_of_block bP) (fun f => f)).trans bP
  have hPA := (hPa.keeps kP).keeps kA
  obtain ⟨A, hA⟩ : ∃ A, A = (w1.alloc (.cells #[.pointer (some ⟨pb, 0, none⟩)] 61)).alloc (.cells #[.int .i64 (-1), .int .i64 0] 31) := ⟨_, rfl⟩
  rw [← hA] at bA K1 bO bP2 hPA
  have hw1 : w.heap.size < w1.heap.size := lt_of_block ((k1.block _ (lt_of_block b0) (fun f => f)).trans b0)
  obtain ⟨cb, hcb⟩ : ∃ cb, cb = w1.heap.size := ⟨_, rfl⟩
  rw [← hcb] at bA bP2 hw1
  have CT := cont_far (.slice sa ws.length sc) ws hwl cb pb F.length vc va hF1 hex A (by rw [cell_of_block bP2]; rfl) (by rw [cell_of_block hPA.blk]; rfl) (HS.out A K1)
  have HAA : Hid (A = _) := hA
  have HCB : Hid (cb = w1.heap.size) := hcb
  clear hA hcb kA kP bP hPa k0 k1 b0
  unfold odV
  go_wp2_with fail
  rw [← HCB.out, ← HAA.out]
  clear HCB HAA
  refine CT.mono ?_
  rintro ex B ⟨rfl, kB⟩
  clear CT
  have bOB := (kB.block _ (lt_of_block bO) (fun f => f)).trans bO
  have c0 : B.cell? ⟨w.heap.size, 0, none⟩ = some (.int .i64 0) := by rw [cell_of_block bOB]; rfl
  have c1 : B.cell? ⟨w.heap.size, 1, none⟩ = some (.int .i64 0) := by rw [cell_of_block bOB]; rfl
  have f0 : B.frozen? ⟨w.heap.size, 0, none⟩ = false := frozen_of_block bOB _
  have f1 : B.frozen? ⟨w.heap.size, 1, none⟩ = false := frozen_of_block bOB _
  have BE := block_set (block_set bOB 0 (.int .i64 (-1))) 1 (.int .i64 4)
  have KF := (((K1.trans kB).setCell (p := ⟨w.heap.size, 0, none⟩) (.inl (Nat.le_refl _)) (.int .i64 (-1))).setCell (p := ⟨w.heap.size, 1, none⟩) (.inl (Nat.le_refl _)) (.int .i64 4))
  clear hPA bO bA bP2 kB bOB
  go_wp2_with fail
  refine bodyPost_ret (odd_ret2 rfl _ _ w.heap.size #[.int .i64 (-1), .int .i64 4] BE rfl rfl) rfl ?_
  exact ⟨rfl, KF⟩
end Go.Proofs.YthmiainhaebjiaaGreatDoor

/- SameInts and SameCells of alike lists (layer 16). No statement of the seat is proved here. -/
namespace Go.Proofs.YthmiainhaebjiaaGreatDoor
open Go.RowKit Go.Shelf

set_option maxRecDepth 100000 in
set_option maxHeartbeats 8000000 in
theorem rsamei_any (va vb : Value) (F : List Int) (hl : F.length ≤ 1100000) (w : World) (ha : ElsAt nC 1 w va F) (hb : ElsAt nC 1 w vb F) : Calls Tryz.prog 13 #[va, vb] w fun e w' => e = .returned (.bool true) ∧ Keeps (fun _ => False) w w' := by
  have HV : Hid (∀ X, Keeps (fun _ => False) w X → ElsAt nC 1 X va F ∧ ElsAt nC 1 X vb F) := fun X k => ⟨ha.keeps nC_ne k, hb.keeps nC_ne k⟩
  obtain ⟨aa, ac, rfl, hac⟩ := ha.shape
  obtain ⟨ba, bc, rfl, hbc⟩ := hb.shape
  clear ha hb
  go_enter Tryz.func13, Tryz.ntmps13
  go_wp2_with fail
  go_loopw [5] (fun u wr => ∃ k : Nat, u = .int .i64 k ∧ k ≤ F.length ∧ Keeps (fun _ => False) w wr) (fun u _ => F.length - (intOf u).toNat)
  case atStart => exact ⟨0, rfl, Nat.zero_le _, Keeps.refl _ _⟩
  case round =>
    obtain ⟨k, rfl, hk, kr⟩ := hrel
    by_cases hlt : k < F.length
    · have hki : (k : Int) < F.length := by omega
      have hk0 : (0 : Int) ≤ k := by omega
      obtain ⟨h1, h2⟩ := HV.out wr kr
      obtain ⟨ga, oa, rfl, ca⟩ := h1.at k hlt
      obtain ⟨gb, ob, rfl, cb⟩ := h2.at k hlt
      have y0 := ca 0 _ rfl
      have y1 := cb 0 _ rfl
      simp only [Nat.mul_one, Nat.add_zero] at y0 y1
      generalize F[k]'hlt = x at *
      have hS0 : wr.cell? ⟨ga, oa + k, none⟩ = some (.int .i64 x) ∧ wr.cell? ⟨gb, ob + k, none⟩ = some (.int .i64 x) := ⟨y0, y1⟩
      have hkw : IntKind.i64.wrap ((k : Int) + 1) = (k : Int) + 1 := by rw [IntKind.wrap_i64]; omega
      have kd := (kr.drew)
      clear h1 h2 ca cb
      go_wp2_with fail
      go_region_held3 (fun W : World => W.cell? ⟨ga, oa + k, none⟩ = some (.int .i64 x) ∧ W.cell? ⟨gb, ob + k, none⟩ = some (.int .i64 x)) (first | assumption | (exact hS0) | go_keep) (fail)
      go_wp2_with fail
      go_roundw
      · exact ⟨k + 1, by simp, by omega, kd⟩
      · simp [intOf]; omega
    · obtain rfl : k = F.length := by omega
      go_wp2_with fail
      go_ret
      exact ⟨rfl, kr⟩
set_option maxRecDepth 100000 in
set_option maxHeartbeats 8000000 in
theorem rsamec_any (va vb : Value) (F : List (Int × Int)) (hl : F.length ≤ 1100000) (w : World) (ha : ElsAt clC 2 w va F) (hb : ElsAt clC 2 w vb F) : Calls Tryz.prog 14 #[va, vb] w fun e w' => e = .returned (.bool true) ∧ Keeps (fun _ => False) w w' := by
  have HV : Hid (∀ X, Keeps (fun _ => False) w X → ElsAt clC 2 X va F ∧ ElsAt clC 2 X vb F) := fun X k => ⟨ha.keeps cl_ne k, hb.keeps cl_ne k⟩
  obtain ⟨aa, ac, rfl, hac⟩ := ha.shape
  obtain ⟨ba, bc, rfl, hbc⟩ := hb.shape
  clear ha hb
  go_enter Tryz.func14, Tryz.ntmps14
  go_wp2_with fail
  go_loopw [5] (fun u wr => ∃ k : Nat, u = .int .i64 k ∧ k ≤ F.length ∧ Keeps (fun _ => False) w wr) (fun u _ => F.length - (intOf u).toNat)
  case atStart => exact ⟨0, rfl, Nat.zero_le _, Keeps.refl _ _⟩
  case round =>
    obtain ⟨k, rfl, hk, kr⟩ := hrel
    by_cases hlt : k < F.length
    · have hki : (k : Int) < F.length := by omega
      have hk0 : (0 : Int) ≤ k := by omega
      obtain ⟨h1, h2⟩ := HV.out wr kr
      obtain ⟨ga, oa, rfl, ca⟩ := h1.at k hlt
      obtain ⟨gb, ob, rfl, cb⟩ := h2.at k hlt
      have y0 := ca 0 _ rfl
      have y1 := cb 0 _ rfl
      have z0 := ca 1 _ rfl
      have z1 := cb 1 _ rfl
      simp only [Nat.add_zero] at y0 y1
      generalize F[k]'hlt = x at *
      obtain ⟨x, y⟩ := x
      dsimp only at y0 y1 z0 z1
      have EQ := eq_cellW x y x y
      have heb : (x == x && y == y) = true := by simp
      rw [heb] at EQ
      have hS0 : wr.cell? ⟨ga, oa + k * 2, none⟩ = some (.int .u64 x) ∧ wr.cell? ⟨ga, oa + k * 2 + 1, none⟩ = some (.int .u64 y) ∧ wr.cell? ⟨gb, ob + k * 2, none⟩ = some (.int .u64 x) ∧ wr.cell? ⟨gb, ob + k * 2 + 1, none⟩ = some (.int .u64 y) := ⟨y0, z0, y1, z1⟩
      have hkw : IntKind.i64.wrap ((k : Int) + 1) = (k : Int) + 1 := by rw [IntKind.wrap_i64]; omega
      have kd := (kr.drew)
      clear h1 h2 ca cb
      go_wp2_with fail
      go_region_held3 (fun W : World => W.cell? ⟨ga, oa + k * 2, none⟩ = some (.int .u64 x) ∧ W.cell? ⟨ga, oa + k * 2 + 1, none⟩ = some (.int .u64 y) ∧ W.cell? ⟨gb, ob + k * 2, none⟩ = some (.int .u64 x) ∧ W.cell? ⟨gb, ob + k * 2 + 1, none⟩ = some (.int .u64 y)) (first | assumption | (exact hS0) | go_keep) (fail)
      go_wp2_with fail
      go_roundw
      · exact ⟨k + 1, by simp, by omega, kd⟩
      · simp [intOf]; omega
    · obtain rfl : k = F.length := by omega
      go_wp2_with fail
      go_ret
      exact ⟨rfl, kr⟩
end Go.Proofs.YthmiainhaebjiaaGreatDoor

/- What the program and the document answer to Behind, Together and Never, together (layer 16). No statement of the seat is proved here. -/
namespace Go.Proofs.YthmiainhaebjiaaGreatDoor
open Go.RowKit Go.Shelf

/-- A call that answers a row of its own and an odd. -/
def AnO {α : Type} (c : α → List Value) (sz : Nat) (t : TypeId) (f : Nat) (args : Array Value) (a e : Int) (Z : List α) (X : World) : Prop :=
  Calls Tryz.prog f args X fun ex w' => ∃ u, ex = .returned (.tuple #[u, .agg (odV a e)]) ∧ OwnR c sz t w' X.heap.size u Z ∧ Keeps (fun _ => False) X w'
/-- A call that answers a row and an odd. -/
def AnE {α : Type} (c : α → List Value) (sz : Nat) (f : Nat) (args : Array Value) (a e : Int) (Z : List α) (X : World) : Prop :=
  Calls Tryz.prog f args X fun ex w' => ∃ u, ex = .returned (.tuple #[u, .agg (odV a e)]) ∧ ElsAt c sz w' u Z ∧ Keeps (fun _ => False) X w'
theorem anO_no {α : Type} {c : α → List Value} {sz : Nat} {t : TypeId} {f : Nat} {args : Array Value} {a e : Int} {X : World} (h : Calls Tryz.prog f args X fun ex w' => ex = .returned (.tuple #[.slice none 0 0, .agg (odV a e)]) ∧ Keeps (fun _ => False) X w') : AnO c sz t f args a e [] X :=
  h.mono fun _ w' ⟨h1, h2⟩ => ⟨_, h1, OwnR.nilB c sz t w' X.heap.size h2.size, h2⟩
theorem anE_of {α : Type} {c : α → List Value} {sz : Nat} (hc : ∀ x, (c x).length = sz) {t : TypeId} {f : Nat} {args : Array Value} {a e : Int} {Z : List α} {X : World} (h : AnO c sz t f args a e Z X) : AnE c sz f args a e Z X :=
  h.mono fun _ _ ⟨u, h1, h2, h3⟩ => ⟨u, h1, h2.els hc, h3⟩
/-- The six answers. -/
structure CeA (F : List Int) (L : List Ev) (m : Int) (ws : List (Int × Int)) (a1 e1 : Int) (Z1 : List Int) (a2 e2 : Int) (Z2 : List Int) (a3 e3 : Int) (Z3 : List (Int × Int)) : Prop where
  l1 : Z1.length ≤ 1100000
  l2 : Z2.length ≤ 1100000
  l3 : Z3.length ≤ 1100000
  pb : ∀ X vf vl, WsAt X vf F → EvsAt X vl L → Gv X → 2 ≤ X.heap.size → AnO wC 1 26 6 #[vf, vl, .int .i64 m] a1 e1 Z1 X
  db : ∀ X vf vl, WsAt X vf F → EvsAt X vl L → AnO wC 1 26 7 #[vf, vl, .int .i64 m] a1 e1 Z1 X
  pt : ∀ X vf vl vs, WsAt X vf F → EvsAt X vl L → ElsAt clC 2 X vs ws → Gv X → 2 ≤ X.heap.size → AnO nC 1 3 8 #[vf, vl, vs] a2 e2 Z2 X
  dt : ∀ X vf vl vs, WsAt X vf F → EvsAt X vl L → ElsAt clC 2 X vs ws → AnE nC 1 9 #[vf, vl, vs] a2 e2 Z2 X
  pn : ∀ X vf vl, WsAt X vf F → EvsAt X vl L → Gv X → 2 ≤ X.heap.size → AnO clC 2 28 10 #[vf, vl] a3 e3 Z3 X
  dn : ∀ X vf vl, WsAt X vf F → EvsAt X vl L → AnE clC 2 11 #[vf, vl] a3 e3 Z3 X
theorem cea_no {F : List Int} {L : List Ev} (m : Int) (ws : List (Int × Int)) (a e : Int) (he : e ≠ 0)
    (P : ∀ (X : World) (va : Option Addr) (vc : Nat) (vl : Value), WsAt X (.slice va F.length vc) F → EvsAt X vl L → Gv X → 2 ≤ X.heap.size → Calls Tryz.prog 21 #[.slice va F.length vc, vl] X fun ex w' => ex = .returned (.tuple #[.pointer none, .agg (odV a e)]) ∧ Keeps (fun _ => False) X w')
    (D : ∀ (X : World) (va : Option Addr) (vc : Nat) (vl : Value), WsAt X (.slice va F.length vc) F → EvsAt X vl L → Calls Tryz.prog 23 #[.slice va F.length vc, vl] X fun ex w' => ex = .returned (.agg (odV a e)) ∧ Keeps (fun _ => False) X w') :
    CeA F L m ws a e [] a e [] a e [] := by
  have al : ∀ X : World, Keeps (fun _ => False) X (X.alloc (.cells (odV 0 0) 31)) := fun X => (Keeps.refl _ X).alloc _
  refine ⟨Nat.zero_le _, Nat.zero_le _, Nat.zero_le _, fun X vf vl hf hh hg h8 => ?_, fun X vf vl hf hh => ?_, fun X vf vl vs hf hh hs hg h8 => ?_, fun X vf vl vs hf hh hs => ?_, fun X vf vl hf hh hg h8 => ?_, fun X vf vl hf hh => ?_⟩
  all_goals
    obtain ⟨va, vc, rfl, -⟩ := hf.shape
    obtain ⟨b, c, hb, -⟩ := hh.els.shape
  · exact anO_no (behind_lk va vc F.length vl ⟨_, _, _, hb⟩ m a e he X (P _ va vc vl (hf.keeps wC_ne (al X)) (hh.keeps (al X)) (hg.keeps (al X)) (Nat.le_trans h8 (al X).size)))
  · exact anO_no (rbehind_no va vc F.length vl ⟨_, _, _, hb⟩ m a e he X (D _ va vc vl (hf.keeps wC_ne (al X)) (hh.keeps (al X))))
  · obtain ⟨sa, sc, rfl, -⟩ := hs.shape
    exact anO_no (together_lk va vc F.length vl ⟨_, _, _, hb⟩ sa ws.length sc a e he X (P _ va vc vl (hf.keeps wC_ne (al X)) (hh.keeps (al X)) (hg.keeps (al X)) (Nat.le_trans h8 (al X).size)))
  · obtain ⟨sa, sc, rfl, -⟩ := hs.shape
    exact anE_of nC_len (t := 3) (anO_no (rtog_no va vc F.length vl ⟨_, _, _, hb⟩ sa ws.length sc a e he X (D _ va vc vl (hf.keeps wC_ne (al X)) (hh.keeps (al X)))))
  · exact anO_no (never_lk va vc F.length vl ⟨_, _, _, hb⟩ a e he X (P _ va vc vl (hf.keeps wC_ne (al X)) (hh.keeps (al X)) (hg.keeps (al X)) (Nat.le_trans h8 (al X).size)))
  · exact anE_of cl_len (t := 28) (anO_no (rnever_no va vc F.length vl ⟨_, _, _, hb⟩ a e he X (D _ va vc vl (hf.keeps wC_ne (al X)) (hh.keeps (al X)))))
theorem cea_ok {F : List Int} {L : List Ev} (hl : L.length ≤ 1050000) (hwf : ∀ e ∈ L, e.wf) (m : Int) (ws : List (Int × Int)) (hwl : ws.length ≤ 1100000) (hw0 : ∀ e ∈ ws, 0 ≤ e.1) (hF0 : 0 < F.length) (hF1 : F.length ≤ 65536) (hz : (checkL L).2 = 0) (hp : idxF plainE L 0 = -1) (hm : idxF (missE F.length) L 0 = -1) :
    ∃ a1 e1 Z1 a2 e2 Z2 a3 e3 Z3, CeA F L m ws a1 e1 Z1 a2 e2 Z2 a3 e3 Z3 := by
  have hck : checkL L = (-1, 0) := chk_yes L st0 0 hz
  obtain ⟨W, hW⟩ := wr_ex L
  have hin := in_all hwf hm
  have hWl : W.length ≤ 1050000 := by
    have h1 := hW.perm.length_eq
    have h2 := List.length_filter_le (fun p : Pt => p.wr) (partsL L)
    have h3 := (pinv_parts L).len
    change (partsL L).length ≤ L.length at h3
    omega
  have hB : ∃ (a1 e1 : Int) (Z1 : List Int), Z1.length ≤ 1100000 ∧ (∀ X vf vl, WsAt X vf F → EvsAt X vl L → Gv X → 2 ≤ X.heap.size → AnO wC 1 26 6 #[vf, vl, .int .i64 m] a1 e1 Z1 X) ∧ (∀ X vf vl, WsAt X vf F → EvsAt X vl L → AnO wC 1 26 7 #[vf, vl, .int .i64 m] a1 e1 Z1 X) := by
    by_cases hmW : m < 0 ∨ (W.length : Int) < m
    · refine ⟨-1, 2, [], Nat.zero_le _, fun X vf vl hf hh hg h8 => ?_, fun X vf vl hf hh => ?_⟩
      all_goals obtain ⟨va, vc, rfl, -⟩ := hf.shape
      · exact anO_no (behind_no va vc F vl L hl X hh hf hg h8 hF0 hF1 hz hp hm W hW m hmW)
      · exact anO_no (rbehind_arg va vc F vl L hl X hh hf hF0 hF1 hck hp hm W hW m hmW)
    · obtain ⟨n, rfl⟩ : ∃ n : Nat, m = (n : Int) := ⟨m.toNat, by omega⟩
      have hn : n ≤ W.length := by omega
      refine ⟨-1, 0, stN F W n, by rw [stN_len]; omega, fun X vf vl hf hh hg h8 => ?_, fun X vf vl hf hh => ?_⟩
      all_goals obtain ⟨va, vc, rfl, -⟩ := hf.shape
      · exact behind_ok va vc F vl L hl X hh hf hg h8 hF0 hF1 hz hp hm W hW n hn
      · exact rbehind_ok va vc F vl L hl X hh hf hF0 hF1 hck hp hm W hW n hn
  have hT : ∃ (a2 e2 : Int) (Z2 : List Int), Z2.length ≤ 1100000 ∧ (∀ X vf vl vs, WsAt X vf F → EvsAt X vl L → ElsAt clC 2 X vs ws → Gv X → 2 ≤ X.heap.size → AnO nC 1 3 8 #[vf, vl, vs] a2 e2 Z2 X) ∧ (∀ X vf vl vs, WsAt X vf F → EvsAt X vl L → ElsAt clC 2 X vs ws → AnE nC 1 9 #[vf, vl, vs] a2 e2 Z2 X) := by
    by_cases hex : ∃ e ∈ ws, (F.length : Int) ≤ e.1
    · refine ⟨-1, 4, [], Nat.zero_le _, fun X vf vl vs hf hh hs hg h8 => ?_, fun X vf vl vs hf hh hs => ?_⟩
      all_goals obtain ⟨va, vc, rfl, -⟩ := hf.shape
      · exact anO_no (together_far va vc F vl L hl vs ws hwl hex X hh hf hs hg h8 hF0 hF1 hz hp hm)
      · exact anE_of nC_len (t := 3) (anO_no (rtog_far va vc F vl L hl vs ws hwl X hh hf hs hF0 hF1 hck hp hm W hW hex))
    · have hall : ∀ e ∈ ws, 0 ≤ e.1 ∧ e.1 < (F.length : Int) := fun e he => ⟨hw0 e he, Int.not_le.mp fun h => hex ⟨e, he, h⟩⟩
      refine ⟨-1, 0, togL F W 0 W.length ws, ?_, fun X vf vl vs hf hh hs hg h8 => ?_, fun X vf vl vs hf hh hs => ?_⟩
      · unfold togL
        rw [List.length_map]
        refine Nat.le_trans (List.length_filter_le _ _) ?_
        rw [List.length_range]
        omega
      all_goals obtain ⟨va, vc, rfl, -⟩ := hf.shape
      · exact together_ok va vc F vl L hl vs ws hwl hall X hh hf hs hg h8 hF0 hF1 hz hp hm W hW
      · exact anE_of nC_len (rtog_ok va vc F vl L hl vs ws hwl X hh hf hs hF0 hF1 hck hp hm W hW hall)
  obtain ⟨a1, e1, Z1, b1, b2, b3⟩ := hB
  obtain ⟨a2, e2, Z2, t1, t2, t3⟩ := hT
  refine ⟨a1, e1, Z1, a2, e2, Z2, -1, 0, nvD F W L, b1, t1, ?_, b2, b3, t2, t3, fun X vf vl hf hh hg h8 => ?_, fun X vf vl hf hh => ?_⟩
  · have := nvD_len F W L
    omega
  all_goals obtain ⟨va, vc, rfl, -⟩ := hf.shape
  · refine (never_ok va vc F vl L hl X hh hf hg h8 hF0 hF1 hz hp hm W hW).mono ?_
    rintro ex w' ⟨sv, N, Ys, h1, h2, h3, h4⟩
    refine ⟨sv, h1, ?_, h4⟩
    rw [nv_eq h2 (sinv_all (F := F) (W := W) (fun p hp => (inL_parts hin p (wr_sub hW hp)).2) W.length (Nat.le_refl _)) (fun p hp => (inL_parts hin p hp).1) (parts_rd hz)]
    exact h3
  · exact anE_of cl_len (rnever_ok va vc F vl L hl X hh hf hF0 hF1 hck hp hm W hW)
theorem cea_any {F : List Int} {L : List Ev} (hFl : F.length ≤ 1050000) (hl : L.length ≤ 1050000) (hwf : ∀ e ∈ L, e.wf) (m : Int) (ws : List (Int × Int)) (hwl : ws.length ≤ 1100000) (hw0 : ∀ e ∈ ws, 0 ≤ e.1) :
    ∃ a1 e1 Z1 a2 e2 Z2 a3 e3 Z3, CeA F L m ws a1 e1 Z1 a2 e2 Z2 a3 e3 Z3 := by
  by_cases ha : F.length = 0 ∨ 65536 < F.length
  · exact ⟨_, _, _, _, _, _, _, _, _, cea_no m ws (-1) 2 (by decide) (fun X va vc vl hf hh _ _ => look_arg va vc F vl L X hh hf ha) (fun X va vc vl _ _ => rwrg_arg va vc F.length ha (by omega) vl X)⟩
  · have hF0 : 0 < F.length := by omega
    have hF1 : F.length ≤ 65536 := by omega
    by_cases hz : (checkL L).2 = 0
    · have hck : checkL L = (-1, 0) := chk_yes L st0 0 hz
      have D : ∀ (X : World) (va : Option Addr) (vc : Nat) (vl : Value), WsAt X (.slice va F.length vc) F → EvsAt X vl L → Calls Tryz.prog 23 #[.slice va F.length vc, vl] X fun ex w' => ex = .returned (.agg (odV (wrgA F.length L).1 (wrgA F.length L).2)) ∧ Keeps (fun _ => False) X w' := fun X va vc vl _ hh => rwrg_ok va vc F.length hF0 hF1 vl L (by omega) hck X hh
      rcases idxF_in plainE L 0 with ⟨hp, -⟩ | ⟨j, hp, -⟩
      · rcases idxF_in (missE F.length) L 0 with ⟨hm, -⟩ | ⟨j, hm, -⟩
        · exact cea_ok hl hwf m ws hwl hw0 hF0 hF1 hz hp hm
        · rw [Nat.zero_add] at hm
          have hw : wrgA F.length L = ((j : Int), 4) := by unfold wrgA wrgB; rw [if_pos hp, if_neg (by rw [hm]; omega), hm]
          rw [hw] at D
          exact ⟨_, _, _, _, _, _, _, _, _, cea_no m ws j 4 (by decide) (fun X va vc vl hf hh hg h8 => look_miss va vc F vl L X hh hf hg h8 hl hF0 hF1 hz hp j hm) D⟩
      · rw [Nat.zero_add] at hp
        have hw : wrgA F.length L = ((j : Int), 260) := by unfold wrgA; rw [if_neg (by rw [hp]; omega), hp]
        rw [hw] at D
        exact ⟨_, _, _, _, _, _, _, _, _, cea_no m ws j 260 (by decide) (fun X va vc vl hf hh hg h8 => look_plain va vc F vl L X hh hf hg h8 hl hF0 hF1 hz j hp) D⟩
    · exact ⟨_, _, _, _, _, _, _, _, _, cea_no m ws _ _ hz (fun X va vc vl hf hh hg h8 => look_odd va vc F vl L X hh hf hg h8 hl hF0 hF1 hz) (fun X va vc vl _ hh => rwrg_odd va vc F.length hF0 hF1 vl L hz X hh)⟩
end Go.Proofs.YthmiainhaebjiaaGreatDoor
