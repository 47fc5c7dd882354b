/-
  No statement of the seat is proved here. (Several texts in one: OrI, OqJ, OrJ.)
-/
import Derived.Test.YthmiainhaebjiaaGreatDoorM27OrH
import Derived.Test.YthmiainhaebjiaaGreatDoorM25OqA

/- Together of the program (layer 16), where a history is one here and all words are in range. No statement of the seat is proved here. -/
namespace Go.Proofs.YthmiainhaebjiaaGreatDoor
open Go.RowKit Go.Shelf

def farC (n : Nat) (p : Int × Int) : Bool := !(decide (p.1 < (n : Int)))
set_option maxRecDepth 100000 in
set_option maxHeartbeats 8000000 in
theorem far_any (cb pb n cap : Nat) (a : Option Addr) (hn : n ≤ 65536) (p : Int × Int) (w : World) (c8 : w.cell? ⟨cb, 0, none⟩ = some (.pointer (some ⟨pb, 0, none⟩))) (c0 : w.cell? ⟨pb, 0, none⟩ = some (.slice a n cap)) : Calls Tryz.prog 27 #[.agg #[.int .u64 p.1, .int .u64 p.2], .pointer (some ⟨cb, 0, none⟩)] w fun ex w' => ex = .returned (.bool (farC n p)) ∧ Keeps (fun _ => False) w w' := by
  have k0 := (Keeps.refl (fun _ => False) w).alloc (.cells #[.int .u64 p.1, .int .u64 p.2] 28)
  have HA := phas_any pb n cap a p.1 (w.alloc (.cells #[.int .u64 p.1, .int .u64 p.2] 28)) (k0.cellB (fun f => f) c0) hn
  have d8 := k0.cellB (fun f => f) c8
  unfold farC
  obtain ⟨x, y⟩ := p
  dsimp only at k0 HA d8 ⊢
  generalize decide (x < (n : Int)) = z at *
  go_enter Tryz.func27, Tryz.ntmps27
  go_wp2_with fail
  refine HA.mono ?_
  rintro ex w2 ⟨rfl, rfl⟩
  go_wp2_with fail
  go_ret
  exact ⟨rfl, k0⟩
set_option maxRecDepth 100000 in
set_option maxHeartbeats 8000000 in
theorem idx_cell (v : Value) (L : List (Int × Int)) (hl : L.length ≤ 1100000) (cb pb n cap : Nat) (a : Option Addr) (hn : n ≤ 65536) (w : World) (c8 : w.cell? ⟨cb, 0, none⟩ = some (.pointer (some ⟨pb, 0, none⟩))) (c0 : w.cell? ⟨pb, 0, none⟩ = some (.slice a n cap)) (hv : ElsAt clC 2 w v L) : Calls Tryz.prog 47 #[v, .func (.func 27) #[] #[.pointer (some ⟨cb, 0, none⟩)]] w fun ex w' => ex = .returned (.int .i64 (idxF (farC n) L 0)) ∧ Keeps (fun _ => False) w w' := by
  have HV : Hid (∀ X, Keeps (fun _ => False) w X → ElsAt clC 2 X v L) := fun X k => hv.keeps cl_ne k
  obtain ⟨a1, cap1, rfl, hcap⟩ := hv.shape
  clear hv
  obtain ⟨z, hz⟩ : ∃ z, z = idxF (farC n) L 0 := ⟨_, rfl⟩
  rw [← hz]
  have HZ : Hid (z = idxF (farC n) L 0) := hz
  clear hz
  go_enter Tryz.func47, Tryz.ntmps47
  go_wp2_with fail
  go_loopw [8] (fun u wr => ∃ k : Nat, u = .int .i64 k ∧ k ≤ L.length ∧ Hid (z = idxF (farC n) (L.drop k) k) ∧ Keeps (fun _ => False) w wr) (fun u _ => L.length - (intOf u).toNat)
  case atStart => exact ⟨0, rfl, Nat.zero_le _, HZ.out, Keeps.refl _ _⟩
  case round =>
    obtain ⟨k, rfl, hk, hh, kr⟩ := hrel
    by_cases hlt : k < L.length
    · have hki : (k : Int) < L.length := by omega
      have hk0 : (0 : Int) ≤ k := by omega
      obtain ⟨g, off, rfl, hc⟩ := (HV.out wr kr).at k hlt
      have PL := far_any cb pb n cap a hn (L[k]) wr (kr.cellB (fun f => f) c8) (kr.cellB (fun f => f) c0)
      have hst := hh.out
      rw [List.drop_eq_getElem_cons hlt, idxF] at hst
      generalize hev : L[k]'hlt = s at *
      clear hev
      have x0 := hc 0 _ rfl
      have x1 := hc 1 _ rfl
      simp only [Nat.add_zero] at x0
      have HP : Hid (farC n s = true ∨ farC n s = false) := bool_cases2 _
      rcases HP.out with hp | hp
      · rw [if_pos hp] at hst
        rw [hp] at PL
        clear hp HP HZ hh hc
        have HF : Hid (z = (k : Int)) := hst
        clear hst
        go_wp2_with fail
        refine PL.mono ?_
        rintro ex w2 ⟨rfl, k2⟩
        go_wp2_with fail
        go_ret
        exact ⟨by rw [HF.out]; rfl, kr.trans k2⟩
      · rw [if_neg (by rw [hp]; exact Bool.false_ne_true)] at hst
        rw [hp] at PL
        clear hp HP HZ hh hc
        have HF : Hid (z = _) := hst
        clear hst
        go_wp2_with fail
        refine PL.mono ?_
        rintro ex w2 ⟨rfl, k2⟩
        have kk := kr.trans k2
        clear PL x0 x1 k2
        go_wp2_with fail
        go_roundw
        · exact ⟨k + 1, by simp, by omega, HF.out, kk⟩
        · simp [intOf]; omega
    · obtain rfl : k = L.length := by omega
      have HF : Hid (z = -1) := by have := hh.out; rw [List.drop_length, idxF] at this; exact this
      clear hh
      go_wp2_with fail
      go_ret
      exact ⟨by rw [HF.out]; rfl, kr⟩
set_option maxRecDepth 100000 in
set_option maxHeartbeats 8000000 in
theorem cont_any (v : Value) (L : List (Int × Int)) (hl : L.length ≤ 1100000) (cb pb n cap : Nat) (a : Option Addr) (hn : n ≤ 65536) (hin : ∀ e ∈ L, e.1 < (n : Int)) (w : World) (c8 : w.cell? ⟨cb, 0, none⟩ = some (.pointer (some ⟨pb, 0, none⟩))) (c0 : w.cell? ⟨pb, 0, none⟩ = some (.slice a n cap)) (hv : ElsAt clC 2 w v L) : Calls Tryz.prog 26 #[v, .func (.func 27) #[] #[.pointer (some ⟨cb, 0, none⟩)]] w fun ex w' => ex = .returned (.bool false) ∧ Keeps (fun _ => False) w w' := by
  have IX := idx_cell v L hl cb pb n cap a hn w c8 c0 hv
  have e : idxF (farC n) L 0 = -1 := by
    rcases idxF_in (farC n) L 0 with ⟨h, -⟩ | ⟨j, h, hj, hf⟩
    · exact h
    · have h1 := hf hj
      have h2 := hin _ (List.getElem_mem hj)
      unfold farC at h1
      simp [h2] at h1
  rw [e] at IX
  obtain ⟨a1, cap1, rfl, hcap⟩ := hv.shape
  clear hv e
  go_enter Tryz.func26, Tryz.ntmps26
  go_wp2_with fail
  refine IX.mono ?_
  rintro ex w2 ⟨rfl, k2⟩
  go_wp2_with fail
  go_ret
  exact ⟨rfl, k2⟩
set_option maxRecDepth 100000 in
set_option maxHeartbeats 8000000 in
theorem together_ok (va : Option Addr) (vc : Nat) (F : List Int) (v : Value) (L : List Ev) (hl : L.length ≤ 1050000) (vs : Value) (ws : List (Int × Int)) (hwl : ws.length ≤ 1100000) (hin : ∀ e ∈ ws, 0 ≤ e.1 ∧ e.1 < (F.length : Int)) (w : World) (hv : EvsAt w v L) (hF : WsAt w (.slice va F.length vc) F) (hs : ElsAt clC 2 w vs ws) (hg : Gv w) (h8 : 2 ≤ w.heap.size) (hF0 : 0 < F.length) (hF1 : F.length ≤ 65536) (hz : (checkL L).2 = 0) (hp : idxF plainE L 0 = -1) (hm : idxF (missE F.length) L 0 = -1) (W : List Pt) (hW : WrOf (partsL L) W) :
    Calls Tryz.prog 8 #[.slice va F.length vc, v, vs] w fun ex w' => ∃ u, ex = .returned (.tuple #[u, .agg (odV (-1) 0)]) ∧ NR w' w.heap.size u (togL F W 0 W.length ws) ∧ Keeps (fun _ => False) w w' := by
  have k0 := (Keeps.refl (fun _ => False) w).alloc (.cells (odV 0 0) 31)
  have b0 : (w.alloc (.cells (odV 0 0) 31)).heap[w.heap.size]? = some (.cells (odV 0 0) 31 (0, 0)) := (MapKept.heap_alloc w _).1
  have LK := look_ok va vc F v L hl (w.alloc (.cells (odV 0 0) 31)) (hv.keeps k0) (hF.keeps wC_ne k0) (hg.keeps k0) (by simp; omega) hF0 hF1 hz hp hm
  have HS : Hid (∀ X, Keeps (fun _ => False) w X → ElsAt clC 2 X vs ws) := fun X k => hs.keeps cl_ne k
  obtain ⟨a1, cap1, rfl, hcap⟩ := hv.els.shape
  obtain ⟨sa, sc, rfl, hsc⟩ := hs.shape
  unfold odV at k0 b0 LK
  clear hv hF hg hs
  go_enter Tryz.func8, Tryz.ntmps8
  go_wp2_with fail
  refine LK.mono ?_
  rintro ex w1 ⟨pb, mb, b2, vT, vB, vW, X, Y, f, rfl, hPa, hX, hu, k1⟩
  clear LK
  have hYW := pua_wr hu hX hW
  have kP := (Keeps.refl (fun _ => False) w1).alloc (.cells #[.pointer (some ⟨pb, 0, none⟩)] 61)
  have bP := (MapKept.heap_alloc w1 (.cells #[.pointer (some ⟨pb, 0, none⟩)] 61)).1
  have kA := (Keeps.refl (fun _ => False) (w1.alloc (.cells #[.pointer (some ⟨pb, 0, none⟩)] 61))).alloc (.cells #[.int .i64 (-1), .int .i64 0] 31)
  have bA := (MapKept.heap_alloc (w1.alloc (.cells #[.pointer (some ⟨pb, 0, none⟩)] 61)) (.cells #[.int .i64 (-1), .int .i64 0] 31)).1
  rw [show (w1.alloc (.cells #[.pointer (some ⟨pb, 0, none⟩)] 61)).heap.size = w1.heap.size + 1 by simp] at bA
  have K1 := ((k0.trans k1).trans kP).trans kA
  have bO := (((k1.trans kP).trans kA).block _ (lt_of_block b0) (fun f => f)).trans b0
  have bP2 := (kA.block _ (lt_of_block bP) (fun f => f)).trans bP
  have hPA := (hPa.keeps kP).keeps kA
  obtain ⟨A, hA⟩ : ∃ A, A = (w1.alloc (.cells #[.pointer (some ⟨pb, 0, none⟩)] 61)).alloc (.cells #[.int .i64 (-1), .int .i64 0] 31) := ⟨_, rfl⟩
  rw [← hA] at bA K1 bO bP2 hPA
  have hw1 : w.heap.size < w1.heap.size := lt_of_block ((k1.block _ (lt_of_block b0) (fun f => f)).trans b0)
  obtain ⟨cb, hcb⟩ : ∃ cb, cb = w1.heap.size := ⟨_, rfl⟩
  rw [← hcb] at bA bP2 hw1
  have CT := cont_any (.slice sa ws.length sc) ws hwl cb pb F.length vc va hF1 (fun e he => (hin e he).2) A (by rw [cell_of_block bP2]; rfl) (by rw [cell_of_block hPA.blk]; rfl) (HS.out A K1)
  have HAA : Hid (A = _) := hA
  have HCB : Hid (cb = w1.heap.size) := hcb
  clear hA hcb kA kP bP hPa k0 k1 b0
  unfold odV
  go_wp2_with fail
  rw [← HCB.out, ← HAA.out]
  clear HCB HAA
  refine CT.mono ?_
  rintro ex B ⟨rfl, kB⟩
  clear CT
  have hPB := hPA.keeps kB
  obtain ⟨wa, wc, hvW, -⟩ := hPB.wr.shape
  subst hvW
  have bOB := (kB.block _ (lt_of_block bO) (fun f => f)).trans bO
  have bAB := (kB.block _ (lt_of_block bA) (fun f => f)).trans bA
  have bPB := (kB.block _ (lt_of_block bP2) (fun f => f)).trans bP2
  have KB := K1.trans kB
  have S0 : Keeps (fun q => q = w.heap.size) B (B.drew) ∧ (B.drew).cell? ⟨cb, 0, none⟩ = some (.pointer (some ⟨pb, 0, none⟩)) ∧ (B.drew).cell? ⟨pb, 3, none⟩ = some (.slice wa Y.length wc) ∧ (B.drew).cell? ⟨cb + 1, 0, none⟩ = some (.int .i64 (-1)) ∧ (B.drew).cell? ⟨cb + 1, 1, none⟩ = some (.int .i64 0) := ⟨(Keeps.refl _ B).drew, by rw [cell_of_block (w := B.drew) bPB]; rfl, by rw [cell_of_block (w := B.drew) hPB.blk]; rfl, by rw [cell_of_block (w := B.drew) bAB]; rfl, by rw [cell_of_block (w := B.drew) bAB]; rfl⟩
  have TG := together_any pb mb b2 (.slice va F.length vc) F f (Y.map (·.p)) 0 Y.length (by rw [List.length_map]; omega) ws (.slice sa ws.length sc) hwl hin B.drew ((hPB.keeps (Keeps.refl _ B).drew).pa hu) ((HS.out B KB).keeps cl_ne (Keeps.refl _ B).drew)
  rw [hYW, Nat.zero_add, show ((0 : Nat) : Int) = 0 from rfl] at TG
  have hYl : Y.length = W.length := by rw [← hYW, List.length_map]
  have HYL : Hid (Y.length = W.length) := hYl
  clear hPA bO bA bP2 kB hYl
  go_wp2_with fail
  refine wp_held_end (S := fun W => Keeps (fun q => q = w.heap.size) B W ∧ W.cell? ⟨cb, 0, none⟩ = some (.pointer (some ⟨pb, 0, none⟩)) ∧ W.cell? ⟨pb, 3, none⟩ = some (.slice wa Y.length wc) ∧ W.cell? ⟨cb + 1, 0, none⟩ = some (.int .i64 (-1)) ∧ W.cell? ⟨cb + 1, 1, none⟩ = some (.int .i64 0)) 11 rfl hmxp ?_
  simp only [Array.replicate_succ, Array.replicate_zero, List.push_toArray, List.nil_append, List.cons_append]
  refine held_take (i := 0) (v := (.pointer (some ⟨pb, 0, none⟩))) 24 rfl rfl (by kernel_rfl) (by kernel_rfl) (by kernel_rfl) rfl (fun w' hw' => by obtain ⟨q0, q1, q2, q3, q4⟩ := hw'; go_simp) S0 ?_
  simp only [Act.put, List.setIfInBounds_toArray, List.set_cons_zero, List.set_cons_succ]
  refine held_take (i := 1) (v := (.pointer (some ⟨pb, 0, none⟩))) 25 rfl rfl (by kernel_rfl) (by kernel_rfl) (by kernel_rfl) rfl (fun w' hw' => by obtain ⟨q0, q1, q2, q3, q4⟩ := hw'; go_simp) S0 ?_
  simp only [Act.put, List.setIfInBounds_toArray, List.set_cons_zero, List.set_cons_succ]
  refine held_take (i := 2) (v := (.pointer (some ⟨pb, 0, none⟩))) 26 rfl rfl (by kernel_rfl) (by kernel_rfl) (by kernel_rfl) rfl (fun w' hw' => by obtain ⟨q0, q1, q2, q3, q4⟩ := hw'; go_simp) S0 ?_
  simp only [Act.put, List.setIfInBounds_toArray, List.set_cons_zero, List.set_cons_succ]
  refine held_take (i := 3) (v := (.pointer (some ⟨pb, 3, none⟩))) 27 rfl rfl (by kernel_rfl) (by kernel_rfl) (by kernel_rfl) rfl (fun w' hw' => by obtain ⟨q0, q1, q2, q3, q4⟩ := hw'; go_simp) S0 ?_
  simp only [Act.put, List.setIfInBounds_toArray, List.set_cons_zero, List.set_cons_succ]
  refine held_take (i := 4) (v := (.slice wa Y.length wc)) 28 rfl rfl (by kernel_rfl) (by kernel_rfl) (by kernel_rfl) rfl (fun w' hw' => by obtain ⟨q0, q1, q2, q3, q4⟩ := hw'; go_simp) S0 ?_
  simp only [Act.put, List.setIfInBounds_toArray, List.set_cons_zero, List.set_cons_succ]
  refine held_take (i := 5) (v := (.int .i64 (Y.length : Int))) 29 rfl rfl (by kernel_rfl) (by kernel_rfl) (by kernel_rfl) rfl (fun w' hw' => by obtain ⟨q0, q1, q2, q3, q4⟩ := hw'; go_simp) S0 ?_
  simp only [Act.put, List.setIfInBounds_toArray, List.set_cons_zero, List.set_cons_succ]
  refine held_take (i := 6) (v := (.slice sa ws.length sc)) 30 rfl rfl (by kernel_rfl) (by kernel_rfl) (by kernel_rfl) rfl (fun w' hw' => by obtain ⟨q0, q1, q2, q3, q4⟩ := hw'; go_simp) S0 ?_
  simp only [Act.put, List.setIfInBounds_toArray, List.set_cons_zero, List.set_cons_succ]
  refine held_take (i := 8) (v := (.agg #[.int .i64 (-1), .int .i64 0])) 32 rfl rfl (by kernel_rfl) (by kernel_rfl) (by kernel_rfl) rfl (fun w' hw' => by obtain ⟨q0, q1, q2, q3, q4⟩ := hw'; go_simp) S0 ?_
  simp only [Act.put, List.setIfInBounds_toArray, List.set_cons_zero, List.set_cons_succ]
  refine held_call (i := 7) (f := 29) (args := #[.pointer (some ⟨pb, 0, none⟩), .int .i64 0, .int .i64 (Y.length : Int), .slice sa ws.length sc]) 31 (by kernel_rfl) rfl rfl rfl (by go_simp) (TG.mono ?_)
  rintro ex C ⟨tv, rfl, htv, kC⟩
  have S1 : Keeps (fun q => q = w.heap.size) B (C) ∧ (C).cell? ⟨cb, 0, none⟩ = some (.pointer (some ⟨pb, 0, none⟩)) ∧ (C).cell? ⟨pb, 3, none⟩ = some (.slice wa Y.length wc) ∧ (C).cell? ⟨cb + 1, 0, none⟩ = some (.int .i64 (-1)) ∧ (C).cell? ⟨cb + 1, 1, none⟩ = some (.int .i64 0) := ⟨S0.1.trans (kC.mono fun _ _ f => f.elim), kC.cellB (fun f => f) S0.2.1, kC.cellB (fun f => f) S0.2.2.1, kC.cellB (fun f => f) S0.2.2.2.1, kC.cellB (fun f => f) S0.2.2.2.2⟩
  refine ⟨_, rfl, S1, ?_⟩
  simp only [Act.put, List.setIfInBounds_toArray, List.set_cons_zero, List.set_cons_succ]
  refine held_take (i := 9) (v := (tv)) 6 rfl rfl (by kernel_rfl) (by kernel_rfl) (by kernel_rfl) rfl (fun w' hw' => by obtain ⟨q0, q1, q2, q3, q4⟩ := hw'; go_simp) S1 ?_
  simp only [Act.put, List.setIfInBounds_toArray, List.set_cons_zero, List.set_cons_succ]
  have S3 : Keeps (fun _ => False) B C := (Keeps.refl (fun _ => False) B).drew.trans kC
  have bO3 := (S3.block _ (lt_of_block bOB) (fun f => f)).trans bOB
  have c0 : C.cell? ⟨w.heap.size, 0, none⟩ = some (.int .i64 0) := by rw [cell_of_block bO3]; rfl
  have c1 : C.cell? ⟨w.heap.size, 1, none⟩ = some (.int .i64 0) := by rw [cell_of_block bO3]; rfl
  have f0 : C.frozen? ⟨w.heap.size, 0, none⟩ = false := frozen_of_block bO3 _
  have f1 : C.frozen? ⟨w.heap.size, 1, none⟩ = false := frozen_of_block bO3 _
  have BE := block_set (block_set bO3 0 (.int .i64 (-1))) 1 (.int .i64 0)
  have hne1 : ¬ w.heap.size = cb + 1 := by omega
  have hne2 : ¬ w.heap.size = cb := by omega
  have hcw : cb ≠ w.heap.size := by omega
  have hcw1 : cb + 1 ≠ w.heap.size := by omega
  have hpw : pb ≠ w.heap.size := fun e => by
    have h1 := hPB.blk
    rw [e, bOB] at h1
    cases h1
  have kE := ((Keeps.refl (fun q => q = w.heap.size) C).setCell (p := ⟨w.heap.size, 0, none⟩) (.inr rfl) (.int .i64 (-1))).setCell (p := ⟨w.heap.size, 1, none⟩) (.inr rfl) (.int .i64 0)
  have KF : Keeps (fun _ => False) w ((C.setCell ⟨w.heap.size, 0, none⟩ (.int .i64 (-1))).setCell ⟨w.heap.size, 1, none⟩ (.int .i64 0)) := (KB.trans S3).young kE (fun q e => by omega)
  have S4 : Keeps (fun q => q = w.heap.size) B (((C.setCell ⟨w.heap.size, 0, none⟩ (.int .i64 (-1))).setCell ⟨w.heap.size, 1, none⟩ (.int .i64 0))) ∧ (((C.setCell ⟨w.heap.size, 0, none⟩ (.int .i64 (-1))).setCell ⟨w.heap.size, 1, none⟩ (.int .i64 0))).cell? ⟨cb, 0, none⟩ = some (.pointer (some ⟨pb, 0, none⟩)) ∧ (((C.setCell ⟨w.heap.size, 0, none⟩ (.int .i64 (-1))).setCell ⟨w.heap.size, 1, none⟩ (.int .i64 0))).cell? ⟨pb, 3, none⟩ = some (.slice wa Y.length wc) ∧ (((C.setCell ⟨w.heap.size, 0, none⟩ (.int .i64 (-1))).setCell ⟨w.heap.size, 1, none⟩ (.int .i64 0))).cell? ⟨cb + 1, 0, none⟩ = some (.int .i64 (-1)) ∧ (((C.setCell ⟨w.heap.size, 0, none⟩ (.int .i64 (-1))).setCell ⟨w.heap.size, 1, none⟩ (.int .i64 0))).cell? ⟨cb + 1, 1, none⟩ = some (.int .i64 0) := ⟨S1.1.trans kE, cell_keep kE S1.2.1 hcw, cell_keep kE S1.2.2.1 hpw, cell_keep kE S1.2.2.2.1 hcw1, cell_keep kE S1.2.2.2.2 hcw1⟩
  refine held_none (i := 10) (w' := ((C.setCell ⟨w.heap.size, 0, none⟩ (.int .i64 (-1))).setCell ⟨w.heap.size, 1, none⟩ (.int .i64 0))) (by kernel_rfl) rfl rfl rfl (by go_simp) S4 ?_
  refine held_end (by kernel_rfl) ?_ _
  have hlB : w.heap.size < B.drew.heap.size := lt_of_block bOB
  have HT : Hid (NR ((C.setCell ⟨w.heap.size, 0, none⟩ (.int .i64 (-1))).setCell ⟨w.heap.size, 1, none⟩ (.int .i64 0)) w.heap.size tv (togL F W 0 W.length ws)) := by
    have h1 := htv
    rw [HYL.out] at h1
    exact (h1.lowE (Nat.le_of_lt hlB)).keeps kE (fun g hg e => absurd hlB (Nat.not_lt.mpr (e ▸ (own_block htv.own hg).2)))
  clear S0 S1 S3 S4 c0 c1 f0 f1 kC TG
  go_wp2_with fail
  refine bodyPost_ret (odd_ret2 rfl _ _ w.heap.size #[.int .i64 (-1), .int .i64 0] BE rfl rfl) rfl ?_
  exact ⟨tv, rfl, HT.out, KF⟩
end Go.Proofs.YthmiainhaebjiaaGreatDoor


/- How many commits stand ahead, and where words stood last, step by step (pure). No statement of the seat is proved here. -/
namespace Go.Proofs.YthmiainhaebjiaaGreatDoor

/-- The numbers at which words stood together, the first m of them looked at. -/
def togU (F : List Int) (W : List Pt) (fr m : Nat) (rs : List (Int × Int)) : List Int := ((List.range m).filter fun k => stdL (stN F W (fr + k)) rs).map fun (k : Nat) => (fr : Int) + k
theorem togU_all (F : List Int) (W : List Pt) (fr up : Nat) (rs : List (Int × Int)) : togU F W fr (up + 1 - fr) rs = togL F W fr up rs := rfl
/-- Words that a commit writes, the first of them: event by event. -/
theorem wrt_fm (t : Int) : ∀ (h : List Ev) (F : List Int) (e : Ev), wrt F ((h ++ [e]).filterMap (wrE t)) = if e.th = t ∧ e.kd = 3 then (wrt F (h.filterMap (wrE t))).set e.ad.toNat e.wd else wrt F (h.filterMap (wrE t)) := by
  intro h F e
  rw [List.filterMap_append]
  by_cases q : e.th = t ∧ e.kd = 3
  · have : [e].filterMap (wrE t) = [(e.ad, e.wd)] := by simp [wrE, q]
    rw [this, wrt_push, if_pos q]
  · have : [e].filterMap (wrE t) = [] := by simp only [List.filterMap_cons, wrE, if_neg q, List.filterMap_nil]
    rw [this, List.append_nil, if_neg q]
end Go.Proofs.YthmiainhaebjiaaGreatDoor


/- What is known of sights (layer 16, pure). No statement of the seat is proved here. -/
namespace Go.Proofs.YthmiainhaebjiaaGreatDoor

open Go.RowKit Go.Shelf
/-- What holds of a sight. -/
structure SgF (F : List Int) (W : List Pt) (rs : List (Int × Int)) (s : Sg) : Prop where
  fu : s.fr ≤ s.up
  au : s.at_ ≤ s.up
  af : 0 ≤ s.at_ → s.fr ≤ s.at_ ∧ s.at_ ∈ togL F W 0 W.length rs
  no : rs = [] → s.at_ = s.up
end Go.Proofs.YthmiainhaebjiaaGreatDoor
