
/- Walk of the document's one (package parleyref08). No statement of the seat is proved here. -/
import Derived.Test.YtijommlodgpphaaDoorRdN
namespace Go.Proofs.YtijommlodgpphaaDoor
open Go.RowKit Go.Shelf

set_option maxRecDepth 100000 in
set_option maxHeartbeats 20000000 in
theorem rone_any (g off cap : Nat) (c : UInt8) (t : List UInt8) (w : World) (h : BtAt w (.slice (some ⟨g, off, none⟩) (t.length + 1) cap) (c :: t)) : Calls Tryd.prog 11 #[.slice (some ⟨g, off, none⟩) (t.length + 1) cap] w fun e w' => OPost (c :: t) e ∧ Keeps (fun _ => False) w w' := by
  have hmx : Tryd.prog.follows .mixedOrders = true := by kernel_rfl
  have kA := (Keeps.refl (fun _ => False) w).alloc (.cells #[.int .i64 0, .int .i64 0, .int .i64 0, .int .i64 0, .int .u64 0] 38)
  have HB : Hid (∀ X, Keeps (fun _ => False) w X → ∀ k (hk : k < t.length + 1), X.cell? ⟨g, off + k, none⟩ = some (.int .u8 ((c :: t)[k]'hk).toNat)) := fun X kx k hk => by
    obtain ⟨⟨a', cap', e, _, hcs⟩, _⟩ := h.keeps kx
    simp only [Value.slice.injEq] at e
    obtain ⟨g', off', e', q⟩ := hcs k hk
    rw [← e.1] at e'
    cases e'
    exact q
  have hbad : Hid (firstF (c :: t) = none → OPost (c :: t) (.returned (.tuple #[.agg #[.int .i64 0, .int .i64 0, .int .i64 0, .int .i64 0, .int .u64 0], .int .i64 0, .bool false]))) := fun h => by unfold OPost; rw [h]
  have hgood : Hid (∀ i k, firstF (c :: t) = some (i, k) → OPost (c :: t) (.returned (.tuple #[.agg i.cells, .int .i64 (k : Nat), .bool true]))) := fun i k h => by unfold OPost; rw [h]
  have hbig := h.big
  have hle : t.length + 1 ≤ cap := by
    obtain ⟨⟨a', cap', e, hle, _⟩, _⟩ := h
    simp only [Value.slice.injEq] at e
    simp at hle
    omega
  simp only [List.length_cons] at hbig
  have c0 := HB.out _ kA 0 (by omega)
  simp only [Nat.add_zero, List.getElem_cons_zero] at c0
  have hc256 : c.toNat < 256 := c.toNat_lt
  have hz : ((t.length : Int) + 1 == 0) = false := by simp; omega
  clear h
  by_cases hk : 1 ≤ c.toNat ∧ c.toNat ≤ 17
  · have IY := rinfo_yes (c.toNat : Int) (by omega) (by omega)
    have hm3 := (regsN_le (op := (c.toNat : Int)) (by omega) (by omega)).1
    go_enter Tryd.func11, Tryd.ntmps11
    go_wp2_with fail
    refine (IY _).mono ?_
    rintro e w1 ⟨rfl, k1⟩
    generalize hmm : regsN (c.toNat : Int) = m at *
    generalize hnb : numB (c.toNat : Int) = nb at *
    generalize tgtB (c.toNat : Int) = tb at *
    generalize outB (c.toNat : Int) = ob at *
    generalize insB (c.toNat : Int) = ib at *
    have kF := (kA.trans k1).alloc (.cells #[.int .i64 m, .bool nb, .bool tb, .bool ob, .bool ib] 52)
    have a1 : w1.heap[w.heap.size]? = some (.cells #[.int .i64 0, .int .i64 0, .int .i64 0, .int .i64 0, .int .u64 0] 38 (0, 0)) := (k1.block _ (by simp) (fun f => f)).trans (MapKept.heap_alloc _ _).1
    have a2 := ((MapKept.heap_alloc w1 (.cells #[.int .i64 m, .bool nb, .bool tb, .bool ob, .bool ib] 52)).2 _ (lt_of_block a1)).trans a1
    have d2 := (MapKept.heap_alloc w1 (.cells #[.int .i64 m, .bool nb, .bool tb, .bool ob, .bool ib] 52)).1
    clear IY
    by_cases hlen : m ≤ t.length
    · have hli : ¬ ((t.length : Int) + 1 < 1 + (m : Int)) := by omega
      have kR := kF.alloc (.cells #[.int .i64 0, .int .i64 0, .int .i64 0] 63)
      have a3 := ((MapKept.heap_alloc (w1.alloc (.cells #[.int .i64 m, .bool nb, .bool tb, .bool ob, .bool ib] 52)) (.cells #[.int .i64 0, .int .i64 0, .int .i64 0] 63)).2 _ (lt_of_block a2)).trans a2
      have d3 := ((MapKept.heap_alloc (w1.alloc (.cells #[.int .i64 m, .bool nb, .bool tb, .bool ob, .bool ib] 52)) (.cells #[.int .i64 0, .int .i64 0, .int .i64 0] 63)).2 _ (lt_of_block d2)).trans d2
      have r3 := heap_two w1 (.cells #[.int .i64 m, .bool nb, .bool tb, .bool ob, .bool ib] 52) (.cells #[.int .i64 0, .int .i64 0, .int .i64 0] 63)
      have hs1 : w.heap.size < w1.heap.size := lt_of_block a1
      have HS : Hid (w.heap.size < w1.heap.size) := hs1
      go_wp2_with fail
      clear a1 a2 d2 kF k1 kA
      go_loopw [8] (fun v wr => ∃ k : Nat, v = .int .i64 k ∧ k ≤ m ∧ Hid (wr.heap[w.heap.size]? = some (.cells #[.int .i64 0, .int .i64 0, .int .i64 0, .int .i64 0, .int .u64 0] 38 (0, 0)) ∧ wr.heap[w1.heap.size]? = some (.cells #[.int .i64 m, .bool nb, .bool tb, .bool ob, .bool ib] 52 (0, 0)) ∧ wr.heap[w1.heap.size + 1]? = some (.cells (regA t k) 63 (0, 0)) ∧ Keeps (fun _ => False) w wr)) (fun v _ => m - (intOf v).toNat)
      case atStart => exact ⟨0, rfl, Nat.zero_le _, ⟨a3, d3, by simpa [regA] using r3, kR⟩⟩
      case round =>
        clear a3 d3 r3 kR
        obtain ⟨k, rfl, hkm, hh⟩ := hrel
        obtain ⟨a3, d3, r3, kR⟩ := hh.out
        obtain ⟨y0, y1, -, -, -⟩ := cells5 d3
        by_cases hlt : k < m
        · have hki : (k : Int) < m := by omega
          have hk3 : (k : Int) < 3 := by omega
          have hb1 := HB.out wr kR (1 + k) (by omega)
          have hkt : k < t.length := by omega
          have hget : (c :: t)[1 + k]'(by simp; omega) = t[k]'hkt := by simp [Nat.add_comm 1 k]
          rw [hget] at hb1
          have hki2 : 1 + (k : Int) < (t.length : Int) + 1 := by omega
          have hci : 1 + (k : Int) < cap := by omega
          have hset := regA_set t k (by omega) hkt
          have h256 : (t[k]'hkt).toNat < 256 := (t[k]'hkt).toNat_lt
          generalize (t[k]'hkt).toNat = x at *
          obtain ⟨vq, cq⟩ : ∃ v, wr.cell? ⟨w1.heap.size + 1, k, none⟩ = some v := ⟨_, by rw [cell_of_block r3]; exact Array.getElem?_eq_getElem (by simp [regA]; omega)⟩
          have fq := frozen_of_block r3 k
          have A3 := (Below.heap_setCell wr (⟨w1.heap.size + 1, k, none⟩ : Addr) (.int .i64 x) w.heap.size (by have := HS.out; simp; omega)).trans a3
          have D3 := (Below.heap_setCell wr (⟨w1.heap.size + 1, k, none⟩ : Addr) (.int .i64 x) w1.heap.size (by simp)).trans d3
          have R3 := (block_set r3 k (.int .i64 x)).trans (by rw [hset])
          have K3 := kR.setCell (p := ⟨w1.heap.size + 1, k, none⟩) (.inl (by have := HS.out; show _ ≤ w1.heap.size + 1; omega)) (.int .i64 x)
          clear hh a3 d3 r3 kR hset hget
          go_wp2_with fail
          go_roundw
          · exact ⟨k + 1, by simp, by omega, ⟨A3, D3, R3, K3⟩⟩
          · simp [intOf]; omega
        · have hki : ¬ (k : Int) < m := by omega
          obtain rfl : k = m := by omega
          have cc := HB.out wr kR 0 (by omega)
          simp only [Nat.add_zero, List.getElem_cons_zero] at cc
          have z0 : wr.cell? ⟨w1.heap.size + 1, 0, none⟩ = some (.int .i64 (if 0 < k then ((t[0]?).getD 0).toNat else 0 : Nat)) := by rw [cell_of_block r3]; rfl
          have z1 : wr.cell? ⟨w1.heap.size + 1, 1, none⟩ = some (.int .i64 (if 1 < k then ((t[1]?).getD 0).toNat else 0 : Nat)) := by rw [cell_of_block r3]; rfl
          have z2 : wr.cell? ⟨w1.heap.size + 1, 2, none⟩ = some (.int .i64 (if 2 < k then ((t[2]?).getD 0).toNat else 0 : Nat)) := by rw [cell_of_block r3]; rfl
          have hv0 : (if 0 < k then ((t[0]?).getD 0).toNat else 0) < 256 := by split; exact (((t[0]?).getD 0)).toNat_lt; omega
          have hv1 : (if 1 < k then ((t[1]?).getD 0).toNat else 0) < 256 := by split; exact (((t[1]?).getD 0)).toNat_lt; omega
          have hv2 : (if 2 < k then ((t[2]?).getD 0).toNat else 0) < 256 := by split; exact (((t[2]?).getD 0)).toNat_lt; omega
          generalize hx0 : (if 0 < k then ((t[0]?).getD 0).toNat else 0) = x0 at *
          generalize hx1 : (if 1 < k then ((t[1]?).getD 0).toNat else 0) = x1 at *
          generalize hx2 : (if 2 < k then ((t[2]?).getD 0).toNat else 0) = x2 at *
          have HX : Hid (_ ∧ _ ∧ _) := ⟨hx0, hx1, hx2⟩
          generalize hcn : c.toNat = cn at *
          have HCN : Hid (c.toNat = cn) := hcn
          clear hx0 hx1 hx2 hcn
          go_wp2_with fail
          go_region_held3 (fun W : World => W.cell? ⟨g, off, none⟩ = some (.int .u8 cn) ∧ W.cell? ⟨w1.heap.size + 1, 0, none⟩ = some (.int .i64 x0) ∧ W.cell? ⟨w1.heap.size + 1, 1, none⟩ = some (.int .i64 x1) ∧ W.cell? ⟨w1.heap.size + 1, 2, none⟩ = some (.int .i64 x2)) (first | assumption | exact ⟨cc, z0, z1, z2⟩ | go_keep) (fail)
          have HGL : Hid (g < w.heap.size) := World.block_lt_of_cell? _ _ (HB.out w (Keeps.refl _ _) 0 (by omega))
          have hwc : IntKind.i64.wrap (cn : Int) = (cn : Int) := by simp [IntKind.wrap, IntKind.signed, IntKind.bits]; omega
          rw [hwc]
          obtain ⟨gi, hgi⟩ : ∃ gi, gi = wr.heap.size := ⟨_, rfl⟩
          obtain ⟨V, hV⟩ : ∃ V, V = (wr.alloc (.cells #[.int .i64 (cn : Int), .int .i64 (x0 : Int), .int .i64 (x1 : Int), .int .i64 (x2 : Int), .int .u64 0] 38)).drew := ⟨_, rfl⟩
          have k0 := (kR.alloc (.cells #[.int .i64 (cn : Int), .int .i64 (x0 : Int), .int .i64 (x1 : Int), .int .i64 (x2 : Int), .int .u64 0] 38)).drewN 1
          have b0 : V.heap[gi]? = some (.cells #[.int .i64 (cn : Int), .int .i64 (x0 : Int), .int .i64 (x1 : Int), .int .i64 (x2 : Int), .int .u64 0] 38 (0, 0)) := by rw [hV, hgi]; exact alloc_block wr _
          have b1 : V.heap[w.heap.size]? = some (.cells #[.int .i64 0, .int .i64 0, .int .i64 0, .int .i64 0, .int .u64 0] 38 (0, 0)) := by rw [hV]; exact ((MapKept.heap_alloc wr _).2 _ (lt_of_block a3)).trans a3
          have b2 : V.heap[w1.heap.size]? = some (.cells #[.int .i64 (k : Int), .bool nb, .bool tb, .bool ob, .bool ib] 52 (0, 0)) := by rw [hV]; exact ((MapKept.heap_alloc wr _).2 _ (lt_of_block d3)).trans d3
          have kV : Keeps (fun _ => False) w V := by rw [hV]; exact k0
          have hgw : w.heap.size < gi ∧ w1.heap.size < gi := by rw [hgi]; exact ⟨lt_of_block a3, lt_of_block d3⟩
          have HGW : Hid (w.heap.size < gi ∧ w1.heap.size < gi) := hgw
          rw [← hgi, ← hV]
          have HMM : Hid (regsN (c.toNat : Int) = k) := by unfold Hid; rw [HCN.out]; exact hmm
          have HNBB : Hid (numB (c.toNat : Int) = nb) := by unfold Hid; rw [HCN.out]; exact hnb
          have HDC : Hid (∀ N A : Nat, (if nb then docN 10 0 1 (t.drop k) else (0, 0)) = (N, A) → docI c t = (⟨cn, x0, x1, x2, N⟩, 1 + k + A)) := fun N A he => by
            unfold docI
            have q0 : (if 0 < k then (((t[0]?).getD 0).toNat : Int) else 0) = (x0 : Int) := by rw [← HX.out.1]; split <;> simp
            have q1 : (if 1 < k then (((t[1]?).getD 0).toNat : Int) else 0) = (x1 : Int) := by rw [← HX.out.2.1]; split <;> simp
            have q2 : (if 2 < k then (((t[2]?).getD 0).toNat : Int) else 0) = (x2 : Int) := by rw [← HX.out.2.2]; split <;> simp
            rw [HMM.out, HNBB.out, q0, q1, q2, HCN.out]
            cases nb
            · simp at he ⊢
              obtain ⟨rfl, rfl⟩ := he
              simp
            · simp only [if_true] at he ⊢
              rw [he]
          clear hV hgi hgw a3 r3 kR y1 hh d3 y0 z0 z1 z2 cc hlt hkm hmm hnb hwc k0 HX HMM HNBB hv0 hv1 hv2 hz hs1
          have hbk : (k : Int) ≤ 3 := by omega
          cases nb
          · obtain ⟨A, hAe⟩ : ∃ A, A = 1 + k := ⟨_, rfl⟩
            have hA : A ≤ t.length + 1 := by omega
            have hcast : 1 + (k : Int) = (A : Int) := by omega
            have HDI : Hid (docI c t = (⟨cn, x0, x1, x2, (0 : Nat)⟩, A)) := by have := HDC.out 0 0 rfl; rw [hAe]; exact this
            obtain ⟨y0, y1, -, -, -⟩ := cells5 b2
            have vI := b0
            have vZ := b1
            clear b0 b1 b2 HDC hAe hli
            obtain ⟨N, hN⟩ : ∃ N : Nat, N = 0 := ⟨_, rfl⟩
            have vI' : V.heap[gi]? = some (.cells #[.int .i64 (cn : Int), .int .i64 (x0 : Int), .int .i64 (x1 : Int), .int .i64 (x2 : Int), .int .u64 (N : Int)] 38 (0, 0)) := by rw [hN]; exact vI
            have HDI' : Hid (docI c t = (⟨cn, x0, x1, x2, N⟩, A)) := by unfold Hid; rw [hN]; exact HDI.out
            clear hN vI HDI
            have vI := vI'
            have HDI := HDI'
            clear vI' HDI'
            have kVd : Keeps (fun _ => False) w V.drew := kV.drewN 1
            have vId : V.drew.heap[gi]? = some (.cells #[.int .i64 (cn : Int), .int .i64 (x0 : Int), .int .i64 (x1 : Int), .int .i64 (x2 : Int), .int .u64 (N : Int)] 38 (0, 0)) := vI
            have vZd : V.drew.heap[w.heap.size]? = some (.cells #[.int .i64 0, .int .i64 0, .int .i64 0, .int .i64 0, .int .u64 0] 38 (0, 0)) := vZ
            have S0 : (fun X : World => X.heap[gi]? = some (.cells #[.int .i64 (cn : Int), .int .i64 (x0 : Int), .int .i64 (x1 : Int), .int .i64 (x2 : Int), .int .u64 (N : Int)] 38 (0, 0)) ∧ X.heap[w.heap.size]? = some (.cells #[.int .i64 0, .int .i64 0, .int .i64 0, .int .i64 0, .int .u64 0] 38 (0, 0)) ∧ Keeps (fun _ => False) w X) V.drew := ⟨vId, vZd, kVd⟩
            have FM := rformed_any ⟨cn, x0, x1, x2, N⟩
            have hwf : I5.wf ⟨cn, x0, x1, x2, N⟩ := by have := docI_wf c t; rw [HDI.out] at this; exact this
            have HWF : Hid (I5.wf ⟨cn, x0, x1, x2, N⟩) := hwf
            clear hwf vI vZ kV vId vZd kVd
            cases hfm : formedB ⟨cn, x0, x1, x2, N⟩
            · have hR := hbad.out (by
                cases hff : firstF (c :: t) with
                | none => rfl
                | some r =>
                  obtain ⟨i, k⟩ := r
                  have hd := docI_first hff
                  obtain ⟨h1, _⟩ := firstF_facts hff
                  rw [HDI.out] at hd
                  have := (Prod.mk.inj hd).1
                  rw [← this, hfm] at h1
                  cases h1)
              rw [hfm] at FM
              clear hbad hgood HB HDI HWF hfm
              go_wp2_with fail
              refine wp_held_end (S := (fun X : World => X.heap[gi]? = some (.cells #[.int .i64 (cn : Int), .int .i64 (x0 : Int), .int .i64 (x1 : Int), .int .i64 (x2 : Int), .int .u64 (N : Int)] 38 (0, 0)) ∧ X.heap[w.heap.size]? = some (.cells #[.int .i64 0, .int .i64 0, .int .i64 0, .int .i64 0, .int .u64 0] 38 (0, 0)) ∧ Keeps (fun _ => False) w X)) 19 rfl hmx ?_
              generalize V.drew = Vd at *
              simp only [Array.replicate_succ, Array.replicate_zero, List.push_toArray, List.nil_append, List.cons_append]
              refine held_take (i := 0) (v := .agg #[.int .i64 (cn : Int), .int .i64 (x0 : Int), .int .i64 (x1 : Int), .int .i64 (x2 : Int), .int .u64 (N : Int)]) 99 rfl rfl (by kernel_rfl) (by kernel_rfl) (by kernel_rfl) rfl (fun w' hw' => run_load_op rfl gi rfl 38 _ (0, 0) _ hw'.1 Tryd.underlying38 rfl (by rw [size_ins]; rfl)) S0 ?_
              simp only [Act.put, List.setIfInBounds_toArray, List.set_cons_zero, List.set_cons_succ]
              refine held_call (i := 1) (f := 24) (args := #[.agg #[.int .i64 (cn : Int), .int .i64 (x0 : Int), .int .i64 (x1 : Int), .int .i64 (x2 : Int), .int .u64 (N : Int)]]) 100 (by kernel_rfl) rfl rfl rfl (by go_simp) ?_
              refine (FM _).mono ?_
              rintro e W1 ⟨rfl, kW1⟩
              have S1 : (fun X : World => X.heap[gi]? = some (.cells #[.int .i64 (cn : Int), .int .i64 (x0 : Int), .int .i64 (x1 : Int), .int .i64 (x2 : Int), .int .u64 (N : Int)] 38 (0, 0)) ∧ X.heap[w.heap.size]? = some (.cells #[.int .i64 0, .int .i64 0, .int .i64 0, .int .i64 0, .int .u64 0] 38 (0, 0)) ∧ Keeps (fun _ => False) w X) W1 := ⟨(kW1.block _ (lt_of_block S0.1) (fun f => f)).trans S0.1, (kW1.block _ (lt_of_block S0.2.1) (fun f => f)).trans S0.2.1, S0.2.2.trans kW1⟩
              refine ⟨_, rfl, S1, ?_⟩
              simp only [Act.put, List.setIfInBounds_toArray, List.set_cons_zero, List.set_cons_succ]
              refine held_take (i := 2) (v := .bool true) 101 rfl rfl (by kernel_rfl) (by kernel_rfl) (by kernel_rfl) rfl (fun w' hw' => by go_simp) S1 ?_
              simp only [Act.put, List.setIfInBounds_toArray, List.set_cons_zero, List.set_cons_succ]
              refine held_take (i := 3) (v := .bool true) 102 rfl rfl (by kernel_rfl) (by kernel_rfl) (by kernel_rfl) rfl (fun w' hw' => by go_simp) S1 ?_
              simp only [Act.put, List.setIfInBounds_toArray, List.set_cons_zero, List.set_cons_succ]
              refine held_skip (i := 4) 103 rfl rfl (by kernel_rfl) (by kernel_rfl) (by kernel_rfl) rfl S1 ?_
              simp only [Act.put, List.setIfInBounds_toArray, List.set_cons_zero, List.set_cons_succ]
              refine held_skip (i := 5) 104 rfl rfl (by kernel_rfl) (by kernel_rfl) (by kernel_rfl) rfl S1 ?_
              simp only [Act.put, List.setIfInBounds_toArray, List.set_cons_zero, List.set_cons_succ]
              refine held_skip (i := 6) 105 rfl rfl (by kernel_rfl) (by kernel_rfl) (by kernel_rfl) rfl S1 ?_
              simp only [Act.put, List.setIfInBounds_toArray, List.set_cons_zero, List.set_cons_succ]
              refine held_skip (i := 7) 106 rfl rfl (by kernel_rfl) (by kernel_rfl) (by kernel_rfl) rfl S1 ?_
              simp only [Act.put, List.setIfInBounds_toArray, List.set_cons_zero, List.set_cons_succ]
              refine held_take (i := 8) (v := .bool true) 107 rfl rfl (by kernel_rfl) (by kernel_rfl) (by kernel_rfl) rfl (fun w' hw' => by go_simp) S1 ?_
              simp only [Act.put, List.setIfInBounds_toArray, List.set_cons_zero, List.set_cons_succ]
              refine held_take (i := 9) (v := .bool true) 108 rfl rfl (by kernel_rfl) (by kernel_rfl) (by kernel_rfl) rfl (fun w' hw' => by go_simp) S1 ?_
              simp only [Act.put, List.setIfInBounds_toArray, List.set_cons_zero, List.set_cons_succ]
              refine held_skip (i := 10) 109 rfl rfl (by kernel_rfl) (by kernel_rfl) (by kernel_rfl) rfl S1 ?_
              simp only [Act.put, List.setIfInBounds_toArray, List.set_cons_zero, List.set_cons_succ]
              refine held_skip (i := 13) 112 rfl rfl (by kernel_rfl) (by kernel_rfl) (by kernel_rfl) rfl S1 ?_
              simp only [Act.put, List.setIfInBounds_toArray, List.set_cons_zero, List.set_cons_succ]
              refine held_skip (i := 14) 113 rfl rfl (by kernel_rfl) (by kernel_rfl) (by kernel_rfl) rfl S1 ?_
              simp only [Act.put, List.setIfInBounds_toArray, List.set_cons_zero, List.set_cons_succ]
              refine held_skip (i := 11) 110 rfl rfl (by kernel_rfl) (by kernel_rfl) (by kernel_rfl) rfl S1 ?_
              simp only [Act.put, List.setIfInBounds_toArray, List.set_cons_zero, List.set_cons_succ]
              refine held_skip (i := 12) 111 rfl rfl (by kernel_rfl) (by kernel_rfl) (by kernel_rfl) rfl S1 ?_
              simp only [Act.put, List.setIfInBounds_toArray, List.set_cons_zero, List.set_cons_succ]
              refine held_skip (i := 15) 114 rfl rfl (by kernel_rfl) (by kernel_rfl) (by kernel_rfl) rfl S1 ?_
              simp only [Act.put, List.setIfInBounds_toArray, List.set_cons_zero, List.set_cons_succ]
              refine held_skip (i := 16) 115 rfl rfl (by kernel_rfl) (by kernel_rfl) (by kernel_rfl) rfl S1 ?_
              simp only [Act.put, List.setIfInBounds_toArray, List.set_cons_zero, List.set_cons_succ]
              refine held_skip (i := 17) 116 rfl rfl (by kernel_rfl) (by kernel_rfl) (by kernel_rfl) rfl S1 ?_
              simp only [Act.put, List.setIfInBounds_toArray, List.set_cons_zero, List.set_cons_succ]
              refine held_take (i := 18) (v := .bool true) 117 rfl rfl (by kernel_rfl) (by kernel_rfl) (by kernel_rfl) rfl (fun w' hw' => by go_simp) S1 ?_
              simp only [Act.put, List.setIfInBounds_toArray, List.set_cons_zero, List.set_cons_succ]
              refine held_end (by kernel_rfl) ?_ _
              have kz := S1.2.2.row (Nat.le_refl w.heap.size) #[.int .i64 0, .int .i64 0, .int .i64 0, .int .i64 0, .int .u64 0]
              have BZ : Hid (_ = _) := S1.2.1
              clear S0 S1 FM
              go_wp2_with (refine wpList_store_row' rfl 38 _ _ rfl w.heap.size _ rfl rfl 38 _ BZ.out size_ins rfl (by simp [Value.oneCell']) ?_)
              refine bodyPost_ret (ins_ret3 rfl _ _ w.heap.size _ _ BZ.out rfl rfl) rfl ?_
              exact ⟨hR, kz⟩
            · have BY := fun X => rbytes_any ⟨cn, x0, x1, x2, N⟩ X hfm HWF.out
              rw [hfm] at FM
              obtain ⟨TK, hTK⟩ : ∃ x, x = (c :: t).take A := ⟨_, rfl⟩
              have HTK : Hid (TK = (c :: t).take A) := hTK
              have hAi : ¬ ((t.length : Int) + 1 < (A : Int)) := by omega
              have hAi2 : (A : Int) ≤ (t.length : Int) + 1 := by omega
              have hAc : (A : Int) ≤ (cap : Int) := by omega
              have hAc2 : A ≤ cap := by omega
              have HFM : Hid (formedB ⟨cn, x0, x1, x2, N⟩ = true) := hfm
              clear hTK hfm
              go_wp2_with fail
              refine wp_held_end (S := (fun X : World => X.heap[gi]? = some (.cells #[.int .i64 (cn : Int), .int .i64 (x0 : Int), .int .i64 (x1 : Int), .int .i64 (x2 : Int), .int .u64 (N : Int)] 38 (0, 0)) ∧ X.heap[w.heap.size]? = some (.cells #[.int .i64 0, .int .i64 0, .int .i64 0, .int .i64 0, .int .u64 0] 38 (0, 0)) ∧ Keeps (fun _ => False) w X)) 19 rfl hmx ?_
              generalize V.drew = Vd at *
              simp only [Array.replicate_succ, Array.replicate_zero, List.push_toArray, List.nil_append, List.cons_append]
              refine held_take (i := 0) (v := .agg #[.int .i64 (cn : Int), .int .i64 (x0 : Int), .int .i64 (x1 : Int), .int .i64 (x2 : Int), .int .u64 (N : Int)]) 99 rfl rfl (by kernel_rfl) (by kernel_rfl) (by kernel_rfl) rfl (fun w' hw' => run_load_op rfl gi rfl 38 _ (0, 0) _ hw'.1 Tryd.underlying38 rfl (by rw [size_ins]; rfl)) S0 ?_
              simp only [Act.put, List.setIfInBounds_toArray, List.set_cons_zero, List.set_cons_succ]
              refine held_call (i := 1) (f := 24) (args := #[.agg #[.int .i64 (cn : Int), .int .i64 (x0 : Int), .int .i64 (x1 : Int), .int .i64 (x2 : Int), .int .u64 (N : Int)]]) 100 (by kernel_rfl) rfl rfl rfl (by go_simp) ?_
              refine (FM _).mono ?_
              rintro e W1 ⟨rfl, kW1⟩
              have S1 : (fun X : World => X.heap[gi]? = some (.cells #[.int .i64 (cn : Int), .int .i64 (x0 : Int), .int .i64 (x1 : Int), .int .i64 (x2 : Int), .int .u64 (N : Int)] 38 (0, 0)) ∧ X.heap[w.heap.size]? = some (.cells #[.int .i64 0, .int .i64 0, .int .i64 0, .int .i64 0, .int .u64 0] 38 (0, 0)) ∧ Keeps (fun _ => False) w X) W1 := ⟨(kW1.block _ (lt_of_block S0.1) (fun f => f)).trans S0.1, (kW1.block _ (lt_of_block S0.2.1) (fun f => f)).trans S0.2.1, S0.2.2.trans kW1⟩
              refine ⟨_, rfl, S1, ?_⟩
              simp only [Act.put, List.setIfInBounds_toArray, List.set_cons_zero, List.set_cons_succ]
              refine held_take (i := 2) (v := .bool false) 101 rfl rfl (by kernel_rfl) (by kernel_rfl) (by kernel_rfl) rfl (fun w' hw' => by go_simp) S1 ?_
              simp only [Act.put, List.setIfInBounds_toArray, List.set_cons_zero, List.set_cons_succ]
              refine held_take (i := 3) (v := .bool false) 102 rfl rfl (by kernel_rfl) (by kernel_rfl) (by kernel_rfl) rfl (fun w' hw' => by go_simp) S1 ?_
              simp only [Act.put, List.setIfInBounds_toArray, List.set_cons_zero, List.set_cons_succ]
              refine held_take (i := 4) (v := .int .i64 (A : Int)) 103 rfl rfl (by kernel_rfl) (by kernel_rfl) (by kernel_rfl) rfl (fun w' hw' => by go_simp) S1 ?_
              simp only [Act.put, List.setIfInBounds_toArray, List.set_cons_zero, List.set_cons_succ]
              refine held_take (i := 5) (v := .slice (some ⟨g, off, none⟩) (t.length + 1) cap) 104 rfl rfl (by kernel_rfl) (by kernel_rfl) (by kernel_rfl) rfl (fun w' hw' => by go_simp) S1 ?_
              simp only [Act.put, List.setIfInBounds_toArray, List.set_cons_zero, List.set_cons_succ]
              refine held_take (i := 6) (v := .int .i64 ((t.length : Int) + 1)) 105 rfl rfl (by kernel_rfl) (by kernel_rfl) (by kernel_rfl) rfl (fun w' hw' => by go_simp) S1 ?_
              simp only [Act.put, List.setIfInBounds_toArray, List.set_cons_zero, List.set_cons_succ]
              refine held_take (i := 7) (v := .bool false) 106 rfl rfl (by kernel_rfl) (by kernel_rfl) (by kernel_rfl) rfl (fun w' hw' => by go_simp) S1 ?_
              simp only [Act.put, List.setIfInBounds_toArray, List.set_cons_zero, List.set_cons_succ]
              refine held_take (i := 8) (v := .bool false) 107 rfl rfl (by kernel_rfl) (by kernel_rfl) (by kernel_rfl) rfl (fun w' hw' => by go_simp) S1 ?_
              simp only [Act.put, List.setIfInBounds_toArray, List.set_cons_zero, List.set_cons_succ]
              refine held_take (i := 9) (v := .bool false) 108 rfl rfl (by kernel_rfl) (by kernel_rfl) (by kernel_rfl) rfl (fun w' hw' => by go_simp) S1 ?_
              simp only [Act.put, List.setIfInBounds_toArray, List.set_cons_zero, List.set_cons_succ]
              refine held_take (i := 10) (v := .agg #[.int .i64 (cn : Int), .int .i64 (x0 : Int), .int .i64 (x1 : Int), .int .i64 (x2 : Int), .int .u64 (N : Int)]) 109 rfl rfl (by kernel_rfl) (by kernel_rfl) (by kernel_rfl) rfl (fun w' hw' => run_load_op rfl gi rfl 38 _ (0, 0) _ hw'.1 Tryd.underlying38 rfl (by rw [size_ins]; rfl)) S1 ?_
              simp only [Act.put, List.setIfInBounds_toArray, List.set_cons_zero, List.set_cons_succ]
              refine held_take (i := 13) (v := .slice (some ⟨g, off, none⟩) (t.length + 1) cap) 112 rfl rfl (by kernel_rfl) (by kernel_rfl) (by kernel_rfl) rfl (fun w' hw' => by go_simp) S1 ?_
              simp only [Act.put, List.setIfInBounds_toArray, List.set_cons_zero, List.set_cons_succ]
              refine held_take (i := 14) (v := .int .i64 (A : Int)) 113 rfl rfl (by kernel_rfl) (by kernel_rfl) (by kernel_rfl) rfl (fun w' hw' => by go_simp) S1 ?_
              simp only [Act.put, List.setIfInBounds_toArray, List.set_cons_zero, List.set_cons_succ]
              refine held_take (i := 15) (v := .slice (some ⟨g, off, none⟩) A cap) 114 rfl rfl (by kernel_rfl) (by kernel_rfl) (by kernel_rfl) rfl (fun w' hw' => by go_simp) S1 ?_
              simp only [Act.put, List.setIfInBounds_toArray, List.set_cons_zero, List.set_cons_succ]
              refine held_take (i := 16) (v := .string ⟨TK.toArray⟩) 115 rfl rfl (by kernel_rfl) (by kernel_rfl) (by kernel_rfl) rfl (fun w' hw' => by
                have := take_string (w := w') (l := c :: t) A cap (by simpa using hA) (fun k hk => HB.out w' hw'.2.2 k (by simpa using hk))
                rw [← HTK.out] at this
                exact run_convert_op rfl rfl this) S1 ?_
              simp only [Act.put, List.setIfInBounds_toArray, List.set_cons_zero, List.set_cons_succ]
              refine held_call (i := 11) (f := 25) (args := #[.agg #[.int .i64 (cn : Int), .int .i64 (x0 : Int), .int .i64 (x1 : Int), .int .i64 (x2 : Int), .int .u64 (N : Int)]]) 110 (by kernel_rfl) rfl rfl rfl (by go_simp) ?_
              refine (BY _).mono ?_
              rintro e W2 ⟨vb, rfl, hbt, kW2⟩
              have S2 : (fun X : World => X.heap[gi]? = some (.cells #[.int .i64 (cn : Int), .int .i64 (x0 : Int), .int .i64 (x1 : Int), .int .i64 (x2 : Int), .int .u64 (N : Int)] 38 (0, 0)) ∧ X.heap[w.heap.size]? = some (.cells #[.int .i64 0, .int .i64 0, .int .i64 0, .int .i64 0, .int .u64 0] 38 (0, 0)) ∧ Keeps (fun _ => False) w X) W2 := ⟨(kW2.block _ (lt_of_block S1.1) (fun f => f)).trans S1.1, (kW2.block _ (lt_of_block S1.2.1) (fun f => f)).trans S1.2.1, S1.2.2.trans kW2⟩
              refine ⟨_, rfl, S2, ?_⟩
              simp only [Act.put, List.setIfInBounds_toArray, List.set_cons_zero, List.set_cons_succ]
              refine held_val (i := 12) (v := .string ⟨(bytesL ⟨cn, x0, x1, x2, N⟩).toArray⟩) (some 111) (by kernel_rfl) rfl rfl rfl (run_convert_op rfl rfl (bts_string hbt)) S2 ?_
              simp only [Act.put, List.setIfInBounds_toArray, List.set_cons_zero, List.set_cons_succ]
              by_cases hbe : bytesL ⟨cn, x0, x1, x2, N⟩ = TK
              · have hR := hgood.out ⟨cn, x0, x1, x2, N⟩ A (by
                  have hd := HDI.out
                  have e1 : (docI c t).1 = ⟨cn, x0, x1, x2, N⟩ := by rw [hd]
                  have e2 : (docI c t).2 = A := by rw [hd]
                  have := docI_yes (c := c) (t := t) (by rw [e1]; exact HFM.out) (by rw [e1]; exact HWF.out) (by rw [e1, e2, hbe, HTK.out]) (by rw [e2]; simpa using hA)
                  rw [this, hd])
                rw [hbe]
                refine held_take (i := 17) (v := .bool false) 116 rfl rfl (by kernel_rfl) (by kernel_rfl) (by kernel_rfl) rfl (fun w' hw' => by go_simp) S2 ?_
                simp only [Act.put, List.setIfInBounds_toArray, List.set_cons_zero, List.set_cons_succ]
                refine held_take (i := 18) (v := .bool false) 117 rfl rfl (by kernel_rfl) (by kernel_rfl) (by kernel_rfl) rfl (fun w' hw' => by go_simp) S2 ?_
                simp only [Act.put, List.setIfInBounds_toArray, List.set_cons_zero, List.set_cons_succ]
                refine held_end (by kernel_rfl) ?_ _
                have kz := S2.2.2.row (Nat.le_refl w.heap.size) #[.int .i64 (cn : Int), .int .i64 (x0 : Int), .int .i64 (x1 : Int), .int .i64 (x2 : Int), .int .u64 (N : Int)]
                have BZ : Hid (_ = _) := S2.2.1
                have BI : Hid (_ = _) := S2.1
                clear S0 S1 S2 FM BY hbt hbe hbad hgood HB HDI HWF HTK HFM kW1 kW2
                go_wp2_with (first
                  | (refine wpList_load_row rfl 38 _ rfl gi rfl 38 _ (0, 0) _ BI.out Tryd.underlying38 rfl (by rw [size_ins]; rfl) ?_)
                  | (refine wpList_store_row' rfl 38 _ _ rfl w.heap.size _ rfl rfl 38 _ BZ.out size_ins rfl (by simp [Value.oneCell']) ?_))
                refine bodyPost_ret (ins_ret3 rfl _ _ w.heap.size _ _ BZ.out rfl rfl) rfl ?_
                exact ⟨hR, kz⟩
              · have hR := hbad.out (by
                  cases hff : firstF (c :: t) with
                  | none => rfl
                  | some r =>
                    obtain ⟨i, k⟩ := r
                    have hd := docI_first hff
                    have ht := firstF_take hff
                    rw [HDI.out] at hd
                    obtain ⟨e1, e2⟩ := Prod.mk.inj hd
                    exact absurd (by rw [HTK.out, e2, ht, e1]) hbe)
                have hbq : (ByteArray.toList ⟨(bytesL ⟨cn, x0, x1, x2, N⟩).toArray⟩ == TK) = false := by simpa using hbe
                generalize (bytesL ⟨cn, x0, x1, x2, N⟩) = BB at *
                refine held_take (i := 17) (v := .bool true) 116 rfl rfl (by kernel_rfl) (by kernel_rfl) (by kernel_rfl) rfl (fun w' hw' => by go_simp) S2 ?_
                simp only [Act.put, List.setIfInBounds_toArray, List.set_cons_zero, List.set_cons_succ]
                refine held_take (i := 18) (v := .bool true) 117 rfl rfl (by kernel_rfl) (by kernel_rfl) (by kernel_rfl) rfl (fun w' hw' => by go_simp) S2 ?_
                simp only [Act.put, List.setIfInBounds_toArray, List.set_cons_zero, List.set_cons_succ]
                refine held_end (by kernel_rfl) ?_ _
                have kz := S2.2.2.row (Nat.le_refl w.heap.size) #[.int .i64 0, .int .i64 0, .int .i64 0, .int .i64 0, .int .u64 0]
                have BZ : Hid (_ = _) := S2.2.1
                clear S0 S1 S2 FM BY hbt hbe hbad hgood HB HDI HWF HTK HFM kW1 kW2
                go_wp2_with (refine wpList_store_row' rfl 38 _ _ rfl w.heap.size _ rfl rfl 38 _ BZ.out size_ins rfl (by simp [Value.oneCell']) ?_)
                refine bodyPost_ret (ins_ret3 rfl _ _ w.heap.size _ _ BZ.out rfl rfl) rfl ?_
                exact ⟨hR, kz⟩
          · obtain ⟨A0, hA0⟩ : ∃ A, A = 1 + k := ⟨_, rfl⟩
            have hcast : 1 + (k : Int) = (A0 : Int) := by omega
            have hA04 : (A0 : Int) ≤ 4 := by omega
            have HA0 : Hid (A0 = 1 + k) := hA0
            clear hA0
            obtain ⟨y0, y1, -, -, -⟩ := cells5 b2
            have ST : Hid (V.heap[gi]? = some (.cells #[.int .i64 (cn : Int), .int .i64 (x0 : Int), .int .i64 (x1 : Int), .int .i64 (x2 : Int), .int .u64 0] 38 (0, 0)) ∧ V.heap[w.heap.size]? = some (.cells #[.int .i64 0, .int .i64 0, .int .i64 0, .int .i64 0, .int .u64 0] 38 (0, 0)) ∧ V.heap[w1.heap.size]? = some (.cells #[.int .i64 (k : Int), .bool true, .bool tb, .bool ob, .bool ib] 52 (0, 0)) ∧ Keeps (fun _ => False) w V) := ⟨b0, b1, b2, kV⟩
            clear b0 b1 b2 kV hli
            go_wp2_with fail
            refine Code.wp_mono (Q := fun ex a' w' => ex = Exit.exit 2 ∧ ∃ N A : Nat, ∃ u1 : Value, ∃ u3 : Value, ∃ u4 : Value, ∃ u5 : Value, ∃ u6 : Value, ∃ u7 : Value, ∃ u8 : Value, ∃ u11 : Value, ∃ u12 : Value, ∃ u13 : Value, ∃ u14 : Value, ∃ u15 : Value, ∃ u16 : Value, ∃ u17 : Value, ∃ u18 : Value, ∃ u19 : Value, ∃ u20 : Value, ∃ u21 : Value, ∃ u22 : Value, ∃ u23 : Value, ∃ u24 : Value, ∃ u25 : Value, ∃ u26 : Value, ∃ u27 : Value, ∃ u28 : Value, ∃ u29 : Value, ∃ u30 : Value, ∃ u31 : Value, ∃ u32 : Value, ∃ u33 : Value, ∃ u34 : Value, ∃ u35 : Value, ∃ u36 : Value, ∃ u37 : Value, ∃ u38 : Value, ∃ u39 : Value, ∃ u40 : Value, ∃ u41 : Value, ∃ u42 : Value, ∃ u43 : Value, ∃ u44 : Value, ∃ u45 : Value, ∃ u46 : Value, ∃ u47 : Value, ∃ u48 : Value, ∃ u49 : Value, ∃ u50 : Value, ∃ u51 : Value, ∃ u52 : Value, ∃ u53 : Value, ∃ u54 : Value, ∃ u55 : Value, ∃ u56 : Value, ∃ u57 : Value, ∃ u58 : Value, ∃ u59 : Value, ∃ u60 : Value, ∃ u61 : Value, ∃ u62 : Value, ∃ u63 : Value, ∃ u64 : Value, ∃ u65 : Value, ∃ u66 : Value, ∃ u67 : Value, ∃ u68 : Value, ∃ u69 : Value, ∃ u70 : Value, ∃ u71 : Value, ∃ u72 : Value, ∃ u73 : Value, ∃ u74 : Value, ∃ u75 : Value, ∃ u76 : Value, ∃ u77 : Value, ∃ u78 : Value, ∃ u79 : Value, ∃ u80 : Value, ∃ u81 : Value, ∃ u82 : Value, ∃ u83 : Value, ∃ u84 : Value, ∃ u85 : Value, ∃ u86 : Value, ∃ u87 : Value, ∃ u88 : Value, ∃ u89 : Value, ∃ u90 : Value, ∃ u91 : Value, ∃ u92 : Value, ∃ u93 : Value, ∃ u94 : Value, ∃ u95 : Value, ∃ u96 : Value, ∃ u97 : Value, ∃ u98 : Value, ∃ u99 : Value, ∃ u100 : Value, ∃ u101 : Value, ∃ u102 : Value, ∃ u103 : Value, ∃ u104 : Value, ∃ u105 : Value, ∃ u106 : Value, ∃ u107 : Value, ∃ u108 : Value, ∃ u109 : Value, ∃ u110 : Value, ∃ u111 : Value, ∃ u112 : Value, ∃ u113 : Value, ∃ u114 : Value, ∃ u115 : Value, ∃ u116 : Value, ∃ u117 : Value, ∃ u118 : Value, ∃ u119 : Value, ∃ u120 : Value, (A ≤ t.length + 1 ∧ Hid (docI c t = (⟨cn, x0, x1, x2, N⟩, A)) ∧ Hid (w'.heap[gi]? = some (.cells #[.int .i64 (cn : Int), .int .i64 (x0 : Int), .int .i64 (x1 : Int), .int .i64 (x2 : Int), .int .u64 (N : Int)] 38 (0, 0)) ∧ w'.heap[w.heap.size]? = some (.cells #[.int .i64 0, .int .i64 0, .int .i64 0, .int .i64 0, .int .u64 0] 38 (0, 0)) ∧ w'.heap[w1.heap.size]? = some (.cells #[.int .i64 (k : Int), .bool true, .bool tb, .bool ob, .bool ib] 52 (0, 0)) ∧ Keeps (fun _ => False) w w')) ∧ a' = ⟨#[.slice (some ⟨g, off, none⟩) (t.length + 1) cap, u1, .pointer (some ⟨w.heap.size, 0, none⟩), u3, u4, u5, u6, u7, u8, .pointer (some ⟨gi, 0, none⟩), .int .i64 (A : Int), u11, u12, u13, u14, u15, u16, u17, u18, u19, u20, u21, u22, u23, u24, u25, u26, u27, u28, u29, u30, u31, u32, u33, u34, u35, u36, u37, u38, u39, u40, u41, u42, u43, u44, u45, u46, u47, u48, u49, u50, u51, u52, u53, u54, u55, u56, u57, u58, u59, u60, u61, u62, u63, u64, u65, u66, u67, u68, u69, u70, u71, u72, u73, u74, u75, u76, u77, u78, u79, u80, u81, u82, u83, u84, u85, u86, u87, u88, u89, u90, u91, u92, u93, u94, u95, u96, u97, u98, u99, u100, u101, u102, u103, u104, u105, u106, u107, u108, u109, u110, u111, u112, u113, u114, u115, u116, u117, u118, u119, u120], []⟩) ?_ ?_
            · rintro ex a' V2 ⟨rfl, hj⟩
              obtain ⟨N, A, hj⟩ := hj
              obtain ⟨u1, hj⟩ := hj
              obtain ⟨u3, hj⟩ := hj
              obtain ⟨u4, hj⟩ := hj
              obtain ⟨u5, hj⟩ := hj
              obtain ⟨u6, hj⟩ := hj
              obtain ⟨u7, hj⟩ := hj
              obtain ⟨u8, hj⟩ := hj
              obtain ⟨u11, hj⟩ := hj
              obtain ⟨u12, hj⟩ := hj
              obtain ⟨u13, hj⟩ := hj
              obtain ⟨u14, hj⟩ := hj
              obtain ⟨u15, hj⟩ := hj
              obtain ⟨u16, hj⟩ := hj
              obtain ⟨u17, hj⟩ := hj
              obtain ⟨u18, hj⟩ := hj
              obtain ⟨u19, hj⟩ := hj
              obtain ⟨u20, hj⟩ := hj
              obtain ⟨u21, hj⟩ := hj
              obtain ⟨u22, hj⟩ := hj
              obtain ⟨u23, hj⟩ := hj
              obtain ⟨u24, hj⟩ := hj
              obtain ⟨u25, hj⟩ := hj
              obtain ⟨u26, hj⟩ := hj
              obtain ⟨u27, hj⟩ := hj
              obtain ⟨u28, hj⟩ := hj
              obtain ⟨u29, hj⟩ := hj
              obtain ⟨u30, hj⟩ := hj
              obtain ⟨u31, hj⟩ := hj
              obtain ⟨u32, hj⟩ := hj
              obtain ⟨u33, hj⟩ := hj
              obtain ⟨u34, hj⟩ := hj
              obtain ⟨u35, hj⟩ := hj
              obtain ⟨u36, hj⟩ := hj
              obtain ⟨u37, hj⟩ := hj
              obtain ⟨u38, hj⟩ := hj
              obtain ⟨u39, hj⟩ := hj
              obtain ⟨u40, hj⟩ := hj
              obtain ⟨u41, hj⟩ := hj
              obtain ⟨u42, hj⟩ := hj
              obtain ⟨u43, hj⟩ := hj
              obtain ⟨u44, hj⟩ := hj
              obtain ⟨u45, hj⟩ := hj
              obtain ⟨u46, hj⟩ := hj
              obtain ⟨u47, hj⟩ := hj
              obtain ⟨u48, hj⟩ := hj
              obtain ⟨u49, hj⟩ := hj
              obtain ⟨u50, hj⟩ := hj
              obtain ⟨u51, hj⟩ := hj
              obtain ⟨u52, hj⟩ := hj
              obtain ⟨u53, hj⟩ := hj
              obtain ⟨u54, hj⟩ := hj
              obtain ⟨u55, hj⟩ := hj
              obtain ⟨u56, hj⟩ := hj
              obtain ⟨u57, hj⟩ := hj
              obtain ⟨u58, hj⟩ := hj
              obtain ⟨u59, hj⟩ := hj
              obtain ⟨u60, hj⟩ := hj
              obtain ⟨u61, hj⟩ := hj
              obtain ⟨u62, hj⟩ := hj
              obtain ⟨u63, hj⟩ := hj
              obtain ⟨u64, hj⟩ := hj
              obtain ⟨u65, hj⟩ := hj
              obtain ⟨u66, hj⟩ := hj
              obtain ⟨u67, hj⟩ := hj
              obtain ⟨u68, hj⟩ := hj
              obtain ⟨u69, hj⟩ := hj
              obtain ⟨u70, hj⟩ := hj
              obtain ⟨u71, hj⟩ := hj
              obtain ⟨u72, hj⟩ := hj
              obtain ⟨u73, hj⟩ := hj
              obtain ⟨u74, hj⟩ := hj
              obtain ⟨u75, hj⟩ := hj
              obtain ⟨u76, hj⟩ := hj
              obtain ⟨u77, hj⟩ := hj
              obtain ⟨u78, hj⟩ := hj
              obtain ⟨u79, hj⟩ := hj
              obtain ⟨u80, hj⟩ := hj
              obtain ⟨u81, hj⟩ := hj
              obtain ⟨u82, hj⟩ := hj
              obtain ⟨u83, hj⟩ := hj
              obtain ⟨u84, hj⟩ := hj
              obtain ⟨u85, hj⟩ := hj
              obtain ⟨u86, hj⟩ := hj
              obtain ⟨u87, hj⟩ := hj
              obtain ⟨u88, hj⟩ := hj
              obtain ⟨u89, hj⟩ := hj
              obtain ⟨u90, hj⟩ := hj
              obtain ⟨u91, hj⟩ := hj
              obtain ⟨u92, hj⟩ := hj
              obtain ⟨u93, hj⟩ := hj
              obtain ⟨u94, hj⟩ := hj
              obtain ⟨u95, hj⟩ := hj
              obtain ⟨u96, hj⟩ := hj
              obtain ⟨u97, hj⟩ := hj
              obtain ⟨u98, hj⟩ := hj
              obtain ⟨u99, hj⟩ := hj
              obtain ⟨u100, hj⟩ := hj
              obtain ⟨u101, hj⟩ := hj
              obtain ⟨u102, hj⟩ := hj
              obtain ⟨u103, hj⟩ := hj
              obtain ⟨u104, hj⟩ := hj
              obtain ⟨u105, hj⟩ := hj
              obtain ⟨u106, hj⟩ := hj
              obtain ⟨u107, hj⟩ := hj
              obtain ⟨u108, hj⟩ := hj
              obtain ⟨u109, hj⟩ := hj
              obtain ⟨u110, hj⟩ := hj
              obtain ⟨u111, hj⟩ := hj
              obtain ⟨u112, hj⟩ := hj
              obtain ⟨u113, hj⟩ := hj
              obtain ⟨u114, hj⟩ := hj
              obtain ⟨u115, hj⟩ := hj
              obtain ⟨u116, hj⟩ := hj
              obtain ⟨u117, hj⟩ := hj
              obtain ⟨u118, hj⟩ := hj
              obtain ⟨u119, hj⟩ := hj
              obtain ⟨u120, hj⟩ := hj
              obtain ⟨⟨hA, HDI, HLS⟩, rfl⟩ := hj
              obtain ⟨vI, vZ, -, kV⟩ := HLS.out
              clear HLS ST HDC y0 y1 hcast hA04 HA0
              obtain ⟨V, hVV⟩ : ∃ V, V = V2 := ⟨_, rfl⟩
              rw [← hVV] at vI vZ kV ⊢
              clear hVV
              have kVd : Keeps (fun _ => False) w V.drew := kV.drewN 1
              have vId : V.drew.heap[gi]? = some (.cells #[.int .i64 (cn : Int), .int .i64 (x0 : Int), .int .i64 (x1 : Int), .int .i64 (x2 : Int), .int .u64 (N : Int)] 38 (0, 0)) := vI
              have vZd : V.drew.heap[w.heap.size]? = some (.cells #[.int .i64 0, .int .i64 0, .int .i64 0, .int .i64 0, .int .u64 0] 38 (0, 0)) := vZ
              have S0 : (fun X : World => X.heap[gi]? = some (.cells #[.int .i64 (cn : Int), .int .i64 (x0 : Int), .int .i64 (x1 : Int), .int .i64 (x2 : Int), .int .u64 (N : Int)] 38 (0, 0)) ∧ X.heap[w.heap.size]? = some (.cells #[.int .i64 0, .int .i64 0, .int .i64 0, .int .i64 0, .int .u64 0] 38 (0, 0)) ∧ Keeps (fun _ => False) w X) V.drew := ⟨vId, vZd, kVd⟩
              have FM := rformed_any ⟨cn, x0, x1, x2, N⟩
              have hwf : I5.wf ⟨cn, x0, x1, x2, N⟩ := by have := docI_wf c t; rw [HDI.out] at this; exact this
              have HWF : Hid (I5.wf ⟨cn, x0, x1, x2, N⟩) := hwf
              clear hwf vI vZ kV vId vZd kVd
              cases hfm : formedB ⟨cn, x0, x1, x2, N⟩
              · have hR := hbad.out (by
                  cases hff : firstF (c :: t) with
                  | none => rfl
                  | some r =>
                    obtain ⟨i, k⟩ := r
                    have hd := docI_first hff
                    obtain ⟨h1, _⟩ := firstF_facts hff
                    rw [HDI.out] at hd
                    have := (Prod.mk.inj hd).1
                    rw [← this, hfm] at h1
                    cases h1)
                rw [hfm] at FM
                clear hbad hgood HB HDI HWF hfm
                go_wp2_with fail
                refine wp_held_end (S := (fun X : World => X.heap[gi]? = some (.cells #[.int .i64 (cn : Int), .int .i64 (x0 : Int), .int .i64 (x1 : Int), .int .i64 (x2 : Int), .int .u64 (N : Int)] 38 (0, 0)) ∧ X.heap[w.heap.size]? = some (.cells #[.int .i64 0, .int .i64 0, .int .i64 0, .int .i64 0, .int .u64 0] 38 (0, 0)) ∧ Keeps (fun _ => False) w X)) 19 rfl hmx ?_
                generalize V.drew = Vd at *
                simp only [Array.replicate_succ, Array.replicate_zero, List.push_toArray, List.nil_append, List.cons_append]
                refine held_take (i := 0) (v := .agg #[.int .i64 (cn : Int), .int .i64 (x0 : Int), .int .i64 (x1 : Int), .int .i64 (x2 : Int), .int .u64 (N : Int)]) 99 rfl rfl (by kernel_rfl) (by kernel_rfl) (by kernel_rfl) rfl (fun w' hw' => run_load_op rfl gi rfl 38 _ (0, 0) _ hw'.1 Tryd.underlying38 rfl (by rw [size_ins]; rfl)) S0 ?_
                simp only [Act.put, List.setIfInBounds_toArray, List.set_cons_zero, List.set_cons_succ]
                refine held_call (i := 1) (f := 24) (args := #[.agg #[.int .i64 (cn : Int), .int .i64 (x0 : Int), .int .i64 (x1 : Int), .int .i64 (x2 : Int), .int .u64 (N : Int)]]) 100 (by kernel_rfl) rfl rfl rfl (by go_simp) ?_
                refine (FM _).mono ?_
                rintro e W1 ⟨rfl, kW1⟩
                have S1 : (fun X : World => X.heap[gi]? = some (.cells #[.int .i64 (cn : Int), .int .i64 (x0 : Int), .int .i64 (x1 : Int), .int .i64 (x2 : Int), .int .u64 (N : Int)] 38 (0, 0)) ∧ X.heap[w.heap.size]? = some (.cells #[.int .i64 0, .int .i64 0, .int .i64 0, .int .i64 0, .int .u64 0] 38 (0, 0)) ∧ Keeps (fun _ => False) w X) W1 := ⟨(kW1.block _ (lt_of_block S0.1) (fun f => f)).trans S0.1, (kW1.block _ (lt_of_block S0.2.1) (fun f => f)).trans S0.2.1, S0.2.2.trans kW1⟩
                refine ⟨_, rfl, S1, ?_⟩
                simp only [Act.put, List.setIfInBounds_toArray, List.set_cons_zero, List.set_cons_succ]
                refine held_take (i := 2) (v := .bool true) 101 rfl rfl (by kernel_rfl) (by kernel_rfl) (by kernel_rfl) rfl (fun w' hw' => by go_simp) S1 ?_
                simp only [Act.put, List.setIfInBounds_toArray, List.set_cons_zero, List.set_cons_succ]
                refine held_take (i := 3) (v := .bool true) 102 rfl rfl (by kernel_rfl) (by kernel_rfl) (by kernel_rfl) rfl (fun w' hw' => by go_simp) S1 ?_
                simp only [Act.put, List.setIfInBounds_toArray, List.set_cons_zero, List.set_cons_succ]
                refine held_skip (i := 4) 103 rfl rfl (by kernel_rfl) (by kernel_rfl) (by kernel_rfl) rfl S1 ?_
                simp only [Act.put, List.setIfInBounds_toArray, List.set_cons_zero, List.set_cons_succ]
                refine held_skip (i := 5) 104 rfl rfl (by kernel_rfl) (by kernel_rfl) (by kernel_rfl) rfl S1 ?_
                simp only [Act.put, List.setIfInBounds_toArray, List.set_cons_zero, List.set_cons_succ]
                refine held_skip (i := 6) 105 rfl rfl (by kernel_rfl) (by kernel_rfl) (by kernel_rfl) rfl S1 ?_
                simp only [Act.put, List.setIfInBounds_toArray, List.set_cons_zero, List.set_cons_succ]
                refine held_skip (i := 7) 106 rfl rfl (by kernel_rfl) (by kernel_rfl) (by kernel_rfl) rfl S1 ?_
                simp only [Act.put, List.setIfInBounds_toArray, List.set_cons_zero, List.set_cons_succ]
                refine held_take (i := 8) (v := .bool true) 107 rfl rfl (by kernel_rfl) (by kernel_rfl) (by kernel_rfl) rfl (fun w' hw' => by go_simp) S1 ?_
                simp only [Act.put, List.setIfInBounds_toArray, List.set_cons_zero, List.set_cons_succ]
                refine held_take (i := 9) (v := .bool true) 108 rfl rfl (by kernel_rfl) (by kernel_rfl) (by kernel_rfl) rfl (fun w' hw' => by go_simp) S1 ?_
                simp only [Act.put, List.setIfInBounds_toArray, List.set_cons_zero, List.set_cons_succ]
                refine held_skip (i := 10) 109 rfl rfl (by kernel_rfl) (by kernel_rfl) (by kernel_rfl) rfl S1 ?_
                simp only [Act.put, List.setIfInBounds_toArray, List.set_cons_zero, List.set_cons_succ]
                refine held_skip (i := 13) 112 rfl rfl (by kernel_rfl) (by kernel_rfl) (by kernel_rfl) rfl S1 ?_
                simp only [Act.put, List.setIfInBounds_toArray, List.set_cons_zero, List.set_cons_succ]
                refine held_skip (i := 14) 113 rfl rfl (by kernel_rfl) (by kernel_rfl) (by kernel_rfl) rfl S1 ?_
                simp only [Act.put, List.setIfInBounds_toArray, List.set_cons_zero, List.set_cons_succ]
                refine held_skip (i := 11) 110 rfl rfl (by kernel_rfl) (by kernel_rfl) (by kernel_rfl) rfl S1 ?_
                simp only [Act.put, List.setIfInBounds_toArray, List.set_cons_zero, List.set_cons_succ]
                refine held_skip (i := 12) 111 rfl rfl (by kernel_rfl) (by kernel_rfl) (by kernel_rfl) rfl S1 ?_
                simp only [Act.put, List.setIfInBounds_toArray, List.set_cons_zero, List.set_cons_succ]
                refine held_skip (i := 15) 114 rfl rfl (by kernel_rfl) (by kernel_rfl) (by kernel_rfl) rfl S1 ?_
                simp only [Act.put, List.setIfInBounds_toArray, List.set_cons_zero, List.set_cons_succ]
                refine held_skip (i := 16) 115 rfl rfl (by kernel_rfl) (by kernel_rfl) (by kernel_rfl) rfl S1 ?_
                simp only [Act.put, List.setIfInBounds_toArray, List.set_cons_zero, List.set_cons_succ]
                refine held_skip (i := 17) 116 rfl rfl (by kernel_rfl) (by kernel_rfl) (by kernel_rfl) rfl S1 ?_
                simp only [Act.put, List.setIfInBounds_toArray, List.set_cons_zero, List.set_cons_succ]
                refine held_take (i := 18) (v := .bool true) 117 rfl rfl (by kernel_rfl) (by kernel_rfl) (by kernel_rfl) rfl (fun w' hw' => by go_simp) S1 ?_
                simp only [Act.put, List.setIfInBounds_toArray, List.set_cons_zero, List.set_cons_succ]
                refine held_end (by kernel_rfl) ?_ _
                have kz := S1.2.2.row (Nat.le_refl w.heap.size) #[.int .i64 0, .int .i64 0, .int .i64 0, .int .i64 0, .int .u64 0]
                have BZ : Hid (_ = _) := S1.2.1
                clear S0 S1 FM
                go_wp2_with (refine wpList_store_row' rfl 38 _ _ rfl w.heap.size _ rfl rfl 38 _ BZ.out size_ins rfl (by simp [Value.oneCell']) ?_)
                refine bodyPost_ret (ins_ret3 rfl _ _ w.heap.size _ _ BZ.out rfl rfl) rfl ?_
                exact ⟨hR, kz⟩
              · have BY := fun X => rbytes_any ⟨cn, x0, x1, x2, N⟩ X hfm HWF.out
                rw [hfm] at FM
                obtain ⟨TK, hTK⟩ : ∃ x, x = (c :: t).take A := ⟨_, rfl⟩
                have HTK : Hid (TK = (c :: t).take A) := hTK
                have hAi : ¬ ((t.length : Int) + 1 < (A : Int)) := by omega
                have hAi2 : (A : Int) ≤ (t.length : Int) + 1 := by omega
                have hAc : (A : Int) ≤ (cap : Int) := by omega
                have hAc2 : A ≤ cap := by omega
                have HFM : Hid (formedB ⟨cn, x0, x1, x2, N⟩ = true) := hfm
                clear hTK hfm
                go_wp2_with fail
                refine wp_held_end (S := (fun X : World => X.heap[gi]? = some (.cells #[.int .i64 (cn : Int), .int .i64 (x0 : Int), .int .i64 (x1 : Int), .int .i64 (x2 : Int), .int .u64 (N : Int)] 38 (0, 0)) ∧ X.heap[w.heap.size]? = some (.cells #[.int .i64 0, .int .i64 0, .int .i64 0, .int .i64 0, .int .u64 0] 38 (0, 0)) ∧ Keeps (fun _ => False) w X)) 19 rfl hmx ?_
                generalize V.drew = Vd at *
                simp only [Array.replicate_succ, Array.replicate_zero, List.push_toArray, List.nil_append, List.cons_append]
                refine held_take (i := 0) (v := .agg #[.int .i64 (cn : Int), .int .i64 (x0 : Int), .int .i64 (x1 : Int), .int .i64 (x2 : Int), .int .u64 (N : Int)]) 99 rfl rfl (by kernel_rfl) (by kernel_rfl) (by kernel_rfl) rfl (fun w' hw' => run_load_op rfl gi rfl 38 _ (0, 0) _ hw'.1 Tryd.underlying38 rfl (by rw [size_ins]; rfl)) S0 ?_
                simp only [Act.put, List.setIfInBounds_toArray, List.set_cons_zero, List.set_cons_succ]
                refine held_call (i := 1) (f := 24) (args := #[.agg #[.int .i64 (cn : Int), .int .i64 (x0 : Int), .int .i64 (x1 : Int), .int .i64 (x2 : Int), .int .u64 (N : Int)]]) 100 (by kernel_rfl) rfl rfl rfl (by go_simp) ?_
                refine (FM _).mono ?_
                rintro e W1 ⟨rfl, kW1⟩
                have S1 : (fun X : World => X.heap[gi]? = some (.cells #[.int .i64 (cn : Int), .int .i64 (x0 : Int), .int .i64 (x1 : Int), .int .i64 (x2 : Int), .int .u64 (N : Int)] 38 (0, 0)) ∧ X.heap[w.heap.size]? = some (.cells #[.int .i64 0, .int .i64 0, .int .i64 0, .int .i64 0, .int .u64 0] 38 (0, 0)) ∧ Keeps (fun _ => False) w X) W1 := ⟨(kW1.block _ (lt_of_block S0.1) (fun f => f)).trans S0.1, (kW1.block _ (lt_of_block S0.2.1) (fun f => f)).trans S0.2.1, S0.2.2.trans kW1⟩
                refine ⟨_, rfl, S1, ?_⟩
                simp only [Act.put, List.setIfInBounds_toArray, List.set_cons_zero, List.set_cons_succ]
                refine held_take (i := 2) (v := .bool false) 101 rfl rfl (by kernel_rfl) (by kernel_rfl) (by kernel_rfl) rfl (fun w' hw' => by go_simp) S1 ?_
                simp only [Act.put, List.setIfInBounds_toArray, List.set_cons_zero, List.set_cons_succ]
                refine held_take (i := 3) (v := .bool false) 102 rfl rfl (by kernel_rfl) (by kernel_rfl) (by kernel_rfl) rfl (fun w' hw' => by go_simp) S1 ?_
                simp only [Act.put, List.setIfInBounds_toArray, List.set_cons_zero, List.set_cons_succ]
                refine held_take (i := 4) (v := .int .i64 (A : Int)) 103 rfl rfl (by kernel_rfl) (by kernel_rfl) (by kernel_rfl) rfl (fun w' hw' => by go_simp) S1 ?_
                simp only [Act.put, List.setIfInBounds_toArray, List.set_cons_zero, List.set_cons_succ]
                refine held_take (i := 5) (v := .slice (some ⟨g, off, none⟩) (t.length + 1) cap) 104 rfl rfl (by kernel_rfl) (by kernel_rfl) (by kernel_rfl) rfl (fun w' hw' => by go_simp) S1 ?_
                simp only [Act.put, List.setIfInBounds_toArray, List.set_cons_zero, List.set_cons_succ]
                refine held_take (i := 6) (v := .int .i64 ((t.length : Int) + 1)) 105 rfl rfl (by kernel_rfl) (by kernel_rfl) (by kernel_rfl) rfl (fun w' hw' => by go_simp) S1 ?_
                simp only [Act.put, List.setIfInBounds_toArray, List.set_cons_zero, List.set_cons_succ]
                refine held_take (i := 7) (v := .bool false) 106 rfl rfl (by kernel_rfl) (by kernel_rfl) (by kernel_rfl) rfl (fun w' hw' => by go_simp) S1 ?_
                simp only [Act.put, List.setIfInBounds_toArray, List.set_cons_zero, List.set_cons_succ]
                refine held_take (i := 8) (v := .bool false) 107 rfl rfl (by kernel_rfl) (by kernel_rfl) (by kernel_rfl) rfl (fun w' hw' => by go_simp) S1 ?_
                simp only [Act.put, List.setIfInBounds_toArray, List.set_cons_zero, List.set_cons_succ]
                refine held_take (i := 9) (v := .bool false) 108 rfl rfl (by kernel_rfl) (by kernel_rfl) (by kernel_rfl) rfl (fun w' hw' => by go_simp) S1 ?_
                simp only [Act.put, List.setIfInBounds_toArray, List.set_cons_zero, List.set_cons_succ]
                refine held_take (i := 10) (v := .agg #[.int .i64 (cn : Int), .int .i64 (x0 : Int), .int .i64 (x1 : Int), .int .i64 (x2 : Int), .int .u64 (N : Int)]) 109 rfl rfl (by kernel_rfl) (by kernel_rfl) (by kernel_rfl) rfl (fun w' hw' => run_load_op rfl gi rfl 38 _ (0, 0) _ hw'.1 Tryd.underlying38 rfl (by rw [size_ins]; rfl)) S1 ?_
                simp only [Act.put, List.setIfInBounds_toArray, List.set_cons_zero, List.set_cons_succ]
                refine held_take (i := 13) (v := .slice (some ⟨g, off, none⟩) (t.length + 1) cap) 112 rfl rfl (by kernel_rfl) (by kernel_rfl) (by kernel_rfl) rfl (fun w' hw' => by go_simp) S1 ?_
                simp only [Act.put, List.setIfInBounds_toArray, List.set_cons_zero, List.set_cons_succ]
                refine held_take (i := 14) (v := .int .i64 (A : Int)) 113 rfl rfl (by kernel_rfl) (by kernel_rfl) (by kernel_rfl) rfl (fun w' hw' => by go_simp) S1 ?_
                simp only [Act.put, List.setIfInBounds_toArray, List.set_cons_zero, List.set_cons_succ]
                refine held_take (i := 15) (v := .slice (some ⟨g, off, none⟩) A cap) 114 rfl rfl (by kernel_rfl) (by kernel_rfl) (by kernel_rfl) rfl (fun w' hw' => by go_simp) S1 ?_
                simp only [Act.put, List.setIfInBounds_toArray, List.set_cons_zero, List.set_cons_succ]
                refine held_take (i := 16) (v := .string ⟨TK.toArray⟩) 115 rfl rfl (by kernel_rfl) (by kernel_rfl) (by kernel_rfl) rfl (fun w' hw' => by
                  have := take_string (w := w') (l := c :: t) A cap (by simpa using hA) (fun k hk => HB.out w' hw'.2.2 k (by simpa using hk))
                  rw [← HTK.out] at this
                  exact run_convert_op rfl rfl this) S1 ?_
                simp only [Act.put, List.setIfInBounds_toArray, List.set_cons_zero, List.set_cons_succ]
                refine held_call (i := 11) (f := 25) (args := #[.agg #[.int .i64 (cn : Int), .int .i64 (x0 : Int), .int .i64 (x1 : Int), .int .i64 (x2 : Int), .int .u64 (N : Int)]]) 110 (by kernel_rfl) rfl rfl rfl (by go_simp) ?_
                refine (BY _).mono ?_
                rintro e W2 ⟨vb, rfl, hbt, kW2⟩
                have S2 : (fun X : World => X.heap[gi]? = some (.cells #[.int .i64 (cn : Int), .int .i64 (x0 : Int), .int .i64 (x1 : Int), .int .i64 (x2 : Int), .int .u64 (N : Int)] 38 (0, 0)) ∧ X.heap[w.heap.size]? = some (.cells #[.int .i64 0, .int .i64 0, .int .i64 0, .int .i64 0, .int .u64 0] 38 (0, 0)) ∧ Keeps (fun _ => False) w X) W2 := ⟨(kW2.block _ (lt_of_block S1.1) (fun f => f)).trans S1.1, (kW2.block _ (lt_of_block S1.2.1) (fun f => f)).trans S1.2.1, S1.2.2.trans kW2⟩
                refine ⟨_, rfl, S2, ?_⟩
                simp only [Act.put, List.setIfInBounds_toArray, List.set_cons_zero, List.set_cons_succ]
                refine held_val (i := 12) (v := .string ⟨(bytesL ⟨cn, x0, x1, x2, N⟩).toArray⟩) (some 111) (by kernel_rfl) rfl rfl rfl (run_convert_op rfl rfl (bts_string hbt)) S2 ?_
                simp only [Act.put, List.setIfInBounds_toArray, List.set_cons_zero, List.set_cons_succ]
                by_cases hbe : bytesL ⟨cn, x0, x1, x2, N⟩ = TK
                · have hR := hgood.out ⟨cn, x0, x1, x2, N⟩ A (by
                    have hd := HDI.out
                    have e1 : (docI c t).1 = ⟨cn, x0, x1, x2, N⟩ := by rw [hd]
                    have e2 : (docI c t).2 = A := by rw [hd]
                    have := docI_yes (c := c) (t := t) (by rw [e1]; exact HFM.out) (by rw [e1]; exact HWF.out) (by rw [e1, e2, hbe, HTK.out]) (by rw [e2]; simpa using hA)
                    rw [this, hd])
                  rw [hbe]
                  refine held_take (i := 17) (v := .bool false) 116 rfl rfl (by kernel_rfl) (by kernel_rfl) (by kernel_rfl) rfl (fun w' hw' => by go_simp) S2 ?_
                  simp only [Act.put, List.setIfInBounds_toArray, List.set_cons_zero, List.set_cons_succ]
                  refine held_take (i := 18) (v := .bool false) 117 rfl rfl (by kernel_rfl) (by kernel_rfl) (by kernel_rfl) rfl (fun w' hw' => by go_simp) S2 ?_
                  simp only [Act.put, List.setIfInBounds_toArray, List.set_cons_zero, List.set_cons_succ]
                  refine held_end (by kernel_rfl) ?_ _
                  have kz := S2.2.2.row (Nat.le_refl w.heap.size) #[.int .i64 (cn : Int), .int .i64 (x0 : Int), .int .i64 (x1 : Int), .int .i64 (x2 : Int), .int .u64 (N : Int)]
                  have BZ : Hid (_ = _) := S2.2.1
                  have BI : Hid (_ = _) := S2.1
                  clear S0 S1 S2 FM BY hbt hbe hbad hgood HB HDI HWF HTK HFM kW1 kW2
                  go_wp2_with (first
                    | (refine wpList_load_row rfl 38 _ rfl gi rfl 38 _ (0, 0) _ BI.out Tryd.underlying38 rfl (by rw [size_ins]; rfl) ?_)
                    | (refine wpList_store_row' rfl 38 _ _ rfl w.heap.size _ rfl rfl 38 _ BZ.out size_ins rfl (by simp [Value.oneCell']) ?_))
                  refine bodyPost_ret (ins_ret3 rfl _ _ w.heap.size _ _ BZ.out rfl rfl) rfl ?_
                  exact ⟨hR, kz⟩
                · have hR := hbad.out (by
                    cases hff : firstF (c :: t) with
                    | none => rfl
                    | some r =>
                      obtain ⟨i, k⟩ := r
                      have hd := docI_first hff
                      have ht := firstF_take hff
                      rw [HDI.out] at hd
                      obtain ⟨e1, e2⟩ := Prod.mk.inj hd
                      exact absurd (by rw [HTK.out, e2, ht, e1]) hbe)
                  have hbq : (ByteArray.toList ⟨(bytesL ⟨cn, x0, x1, x2, N⟩).toArray⟩ == TK) = false := by simpa using hbe
                  generalize (bytesL ⟨cn, x0, x1, x2, N⟩) = BB at *
                  refine held_take (i := 17) (v := .bool true) 116 rfl rfl (by kernel_rfl) (by kernel_rfl) (by kernel_rfl) rfl (fun w' hw' => by go_simp) S2 ?_
                  simp only [Act.put, List.setIfInBounds_toArray, List.set_cons_zero, List.set_cons_succ]
                  refine held_take (i := 18) (v := .bool true) 117 rfl rfl (by kernel_rfl) (by kernel_rfl) (by kernel_rfl) rfl (fun w' hw' => by go_simp) S2 ?_
                  simp only [Act.put, List.setIfInBounds_toArray, List.set_cons_zero, List.set_cons_succ]
                  refine held_end (by kernel_rfl) ?_ _
                  have kz := S2.2.2.row (Nat.le_refl w.heap.size) #[.int .i64 0, .int .i64 0, .int .i64 0, .int .i64 0, .int .u64 0]
                  have BZ : Hid (_ = _) := S2.2.1
                  clear S0 S1 S2 FM BY hbt hbe hbad hgood HB HDI HWF HTK HFM kW1 kW2
                  go_wp2_with (refine wpList_store_row' rfl 38 _ _ rfl w.heap.size _ rfl rfl 38 _ BZ.out size_ins rfl (by simp [Value.oneCell']) ?_)
                  refine bodyPost_ret (ins_ret3 rfl _ _ w.heap.size _ _ BZ.out rfl rfl) rfl ?_
                  exact ⟨hR, kz⟩
            · go_loopw [10, 11] (fun a10 a11 wq => ∃ j N wt A : Nat, a10 = .int .i64 (A : Int) ∧ a11 = .int .u64 (wt : Int) ∧ A = 1 + k + j ∧ j ≤ 10 ∧ k + j ≤ t.length ∧ Hid ((wq.heap[gi]? = some (.cells #[.int .i64 (cn : Int), .int .i64 (x0 : Int), .int .i64 (x1 : Int), .int .i64 (x2 : Int), .int .u64 (N : Int)] 38 (0, 0)) ∧ wq.heap[w.heap.size]? = some (.cells #[.int .i64 0, .int .i64 0, .int .i64 0, .int .i64 0, .int .u64 0] 38 (0, 0)) ∧ wq.heap[w1.heap.size]? = some (.cells #[.int .i64 (k : Int), .bool true, .bool tb, .bool ob, .bool ib] 52 (0, 0)) ∧ Keeps (fun _ => False) w wq) ∧ DN (t.drop k) j N wt)) (fun a10 _ _ => t.length + 1 - (intOf a10).toNat)
              case atStart => exact ⟨0, 0, 1, A0, rfl, rfl, by have := HA0.out; omega, by omega, by omega, ⟨ST.out, DN.start _⟩⟩
              case round =>
                obtain ⟨j, N, wt, A, rfl, rfl, hAj, hj10, hkj, hh⟩ := hrel
                obtain ⟨⟨c0, c1, c2, kq⟩, hdn⟩ := hh.out
                have HAJ : Hid (A = 1 + k + j) := hAj
                clear y0 y1 ST hcast hA04 HA0
                obtain ⟨y0, -, -, -, -⟩ := cells5 c2
                by_cases hgo : k + j < t.length ∧ j < 10
                · obtain ⟨hg1, hg2⟩ := hgo
                  have g1 : (A : Int) < (t.length : Int) + 1 := by omega
                  have g2 : (A : Int) < 1 + (k : Int) + 10 := by omega
                  have gc : (A : Int) < (cap : Int) := by omega
                  have cb := HB.out wr kq A (by omega)
                  have hD : (t.drop k).length = t.length - k := by simp
                  have hDj : (t.drop k)[j]'(by omega) = (c :: t)[A]'(by simp; omega) := by
                    rw [List.getElem_drop]
                    simp only [hAj, show 1 + k + j = (k + j) + 1 by omega, List.getElem_cons_succ]
                  have h256 : ((c :: t)[A]'(by simp; omega)).toNat < 256 := ((c :: t)[A]'(by simp; omega)).toNat_lt
                  have HMO : Hid (¬ ((c :: t)[A]'(by simp; omega)).toNat < 128 → DN (t.drop k) (j + 1) ((N + ((c :: t)[A]'(by simp; omega)).toNat % 128 * wt) % 18446744073709551616) (wt * 128 % 18446744073709551616)) := fun hc => by
                    have := hdn.more (by omega) hg2 (by rw [hDj]; exact hc)
                    rw [hDj] at this
                    exact this
                  have HLA : Hid (((c :: t)[A]'(by simp; omega)).toNat < 128 → docN 10 0 1 (t.drop k) = ((N + ((c :: t)[A]'(by simp; omega)).toNat % 128 * wt) % 18446744073709551616, j + 1)) := fun hc => by
                    have := hdn.last (by omega) hg2 (by rw [hDj]; exact hc)
                    rw [hDj] at this
                    exact this
                  generalize ((c :: t)[A]'(by simp; omega)).toNat = x at *
                  obtain ⟨y, hy⟩ : ∃ y, y = x % 128 := ⟨_, rfl⟩
                  rw [← hy] at HMO HLA
                  have hyl : y < 128 := by omega
                  have e1 : Int.tmod (x : Int) 128 = (y : Int) := by rw [hy]; simp [Int.tmod_eq_emod_of_nonneg]
                  have e2 : (x : Int) % 128 = (y : Int) := by omega
                  obtain ⟨z9, hz9⟩ : ∃ z, z = y * wt % 18446744073709551616 := ⟨_, rfl⟩
                  obtain ⟨z10, hz10⟩ : ∃ z, z = (N + y * wt) % 18446744073709551616 := ⟨_, rfl⟩
                  obtain ⟨wt', hwt'⟩ : ∃ z, z = wt * 128 % 18446744073709551616 := ⟨_, rfl⟩
                  rw [← hz10] at HMO HLA
                  rw [← hwt'] at HMO
                  have e3 : IntKind.u64.wrap ((y : Int) * (wt : Int)) = (z9 : Int) := by rw [← Int.natCast_mul, wrapU, hz9]
                  have e4 : IntKind.u64.wrap ((N : Int) + (z9 : Int)) = (z10 : Int) := by rw [← Int.natCast_add, wrapU, hz10, hz9, Nat.add_mod_mod]
                  have e5 : IntKind.u64.wrap ((wt : Int) * 128) = (wt' : Int) := by rw [show ((wt : Int) * 128) = ((wt * 128 : Nat) : Int) by simp, wrapU, hwt']
                  have e6 : IntKind.u64.wrap (y : Int) = (y : Int) := by rw [wrapU, Nat.mod_eq_of_lt (by omega)]
                  have kd : Keeps (fun _ => False) w wr.drew := kq.drewN 1
                  have c0d : wr.drew.heap[gi]? = some (.cells #[.int .i64 (cn : Int), .int .i64 (x0 : Int), .int .i64 (x1 : Int), .int .i64 (x2 : Int), .int .u64 (N : Int)] 38 (0, 0)) := c0
                  have c1d : wr.drew.heap[w.heap.size]? = some (.cells #[.int .i64 0, .int .i64 0, .int .i64 0, .int .i64 0, .int .u64 0] 38 (0, 0)) := c1
                  have c2d : wr.drew.heap[w1.heap.size]? = some (.cells #[.int .i64 (k : Int), .bool true, .bool tb, .bool ob, .bool ib] 52 (0, 0)) := c2
                  have cbd : wr.drew.cell? ⟨g, off + A, none⟩ = some (.int .u8 (x : Int)) := cb
                  clear c0 c1 c2 kq hh hdn hDj hD hz9 hz10 hwt' hy cb hAj
                  go_wp2_with fail
                  refine wp_until (S := (fun X : World => X.cell? ⟨gi, 4, none⟩ = some (.int .u64 (N : Int)) ∧ X.cell? ⟨g, off + A, none⟩ = some (.int .u8 (x : Int)))) 12 13 rfl hmx ?_
                  generalize wr.drew = Vd at *
                  simp only [Array.replicate_succ, Array.replicate_zero, List.push_toArray, List.nil_append, List.cons_append]
                  have cN := cell_of_block c0d 4
                  have fN := frozen_of_block c0d 4
                  simp only [List.getElem?_toArray, List.getElem?_cons_zero, List.getElem?_cons_succ] at cN
                  have S0 : (fun X : World => X.cell? ⟨gi, 4, none⟩ = some (.int .u64 (N : Int)) ∧ X.cell? ⟨g, off + A, none⟩ = some (.int .u8 (x : Int))) Vd := ⟨cN, cbd⟩
                  obtain ⟨V1, hV1⟩ : ∃ V, V = Vd.setCell ⟨gi, 4, none⟩ (.int .u64 (z10 : Int)) := ⟨_, rfl⟩
                  have hgg : g ≠ gi := by have := HGL.out; have := HGW.out; omega
                  have v0 : V1.heap[gi]? = some (.cells #[.int .i64 (cn : Int), .int .i64 (x0 : Int), .int .i64 (x1 : Int), .int .i64 (x2 : Int), .int .u64 (z10 : Int)] 38 (0, 0)) := by rw [hV1]; exact block_set c0d 4 _
                  have v1 : V1.heap[w.heap.size]? = some (.cells #[.int .i64 0, .int .i64 0, .int .i64 0, .int .i64 0, .int .u64 0] 38 (0, 0)) := by rw [hV1]; exact (Below.heap_setCell _ _ _ _ (by have := HGW.out; simp; omega)).trans c1d
                  have v2 : V1.heap[w1.heap.size]? = some (.cells #[.int .i64 (k : Int), .bool true, .bool tb, .bool ob, .bool ib] 52 (0, 0)) := by rw [hV1]; exact (Below.heap_setCell _ _ _ _ (by have := HGW.out; simp; omega)).trans c2d
                  have kV1 : Keeps (fun _ => False) w V1 := by rw [hV1]; exact kd.setCell (p := ⟨gi, 4, none⟩) (.inl (by have := HGW.out; simp; omega)) _
                  have cb1 := HB.out V1 kV1 A (by omega)
                  have cb1' : V1.cell? ⟨g, off + A, none⟩ = some (.int .u8 (x : Int)) := by rw [hV1, World.cell?_setCell_other _ _ _ _ (by simp)]; exact cbd
                  have HV1 : Hid (V1 = Vd.setCell ⟨gi, 4, none⟩ (.int .u64 (z10 : Int))) := hV1
                  clear hV1 c0d c1d c2d kd cb1
                  refine u_take (i := 0) (v := .pointer (some ⟨gi, 4, none⟩)) 77 rfl rfl (by kernel_rfl) (by kernel_rfl) (by kernel_rfl) (by kernel_rfl) rfl (fun w' hw' => by obtain ⟨r0, r1⟩ := hw'; go_simp) S0 ?_
                  simp only [Act.put, List.setIfInBounds_toArray, List.set_cons_zero, List.set_cons_succ]
                  refine u_take (i := 1) (v := .int .u64 (N : Int)) 78 rfl rfl (by kernel_rfl) (by kernel_rfl) (by kernel_rfl) (by kernel_rfl) rfl (fun w' hw' => by obtain ⟨r0, r1⟩ := hw'; go_simp) S0 ?_
                  simp only [Act.put, List.setIfInBounds_toArray, List.set_cons_zero, List.set_cons_succ]
                  refine u_take (i := 2) (v := .slice (some ⟨g, off, none⟩) (t.length + 1) cap) 79 rfl rfl (by kernel_rfl) (by kernel_rfl) (by kernel_rfl) (by kernel_rfl) rfl (fun w' hw' => by obtain ⟨r0, r1⟩ := hw'; go_simp) S0 ?_
                  simp only [Act.put, List.setIfInBounds_toArray, List.set_cons_zero, List.set_cons_succ]
                  refine u_take (i := 3) (v := .int .i64 (A : Int)) 80 rfl rfl (by kernel_rfl) (by kernel_rfl) (by kernel_rfl) (by kernel_rfl) rfl (fun w' hw' => by obtain ⟨r0, r1⟩ := hw'; go_simp) S0 ?_
                  simp only [Act.put, List.setIfInBounds_toArray, List.set_cons_zero, List.set_cons_succ]
                  refine u_take (i := 4) (v := .pointer (some ⟨g, off + A, none⟩)) 81 rfl rfl (by kernel_rfl) (by kernel_rfl) (by kernel_rfl) (by kernel_rfl) rfl (fun w' hw' => by obtain ⟨r0, r1⟩ := hw'; go_simp) S0 ?_
                  simp only [Act.put, List.setIfInBounds_toArray, List.set_cons_zero, List.set_cons_succ]
                  refine u_take (i := 5) (v := .int .u8 (x : Int)) 82 rfl rfl (by kernel_rfl) (by kernel_rfl) (by kernel_rfl) (by kernel_rfl) rfl (fun w' hw' => by obtain ⟨r0, r1⟩ := hw'; go_simp) S0 ?_
                  simp only [Act.put, List.setIfInBounds_toArray, List.set_cons_zero, List.set_cons_succ]
                  refine u_take (i := 6) (v := .int .u8 (y : Int)) 83 rfl rfl (by kernel_rfl) (by kernel_rfl) (by kernel_rfl) (by kernel_rfl) rfl (fun w' hw' => by obtain ⟨r0, r1⟩ := hw'; go_simp) S0 ?_
                  simp only [Act.put, List.setIfInBounds_toArray, List.set_cons_zero, List.set_cons_succ]
                  refine u_take (i := 7) (v := .int .u64 (y : Int)) 84 rfl rfl (by kernel_rfl) (by kernel_rfl) (by kernel_rfl) (by kernel_rfl) rfl (fun w' hw' => by obtain ⟨r0, r1⟩ := hw'; go_simp) S0 ?_
                  simp only [Act.put, List.setIfInBounds_toArray, List.set_cons_zero, List.set_cons_succ]
                  refine u_take (i := 8) (v := .int .u64 (wt : Int)) 85 rfl rfl (by kernel_rfl) (by kernel_rfl) (by kernel_rfl) (by kernel_rfl) rfl (fun w' hw' => by obtain ⟨r0, r1⟩ := hw'; go_simp) S0 ?_
                  simp only [Act.put, List.setIfInBounds_toArray, List.set_cons_zero, List.set_cons_succ]
                  refine u_take (i := 9) (v := .int .u64 (z9 : Int)) 86 rfl rfl (by kernel_rfl) (by kernel_rfl) (by kernel_rfl) (by kernel_rfl) rfl (fun w' hw' => by obtain ⟨r0, r1⟩ := hw'; go_simp) S0 ?_
                  simp only [Act.put, List.setIfInBounds_toArray, List.set_cons_zero, List.set_cons_succ]
                  refine u_take (i := 10) (v := .int .u64 (z10 : Int)) 87 rfl rfl (by kernel_rfl) (by kernel_rfl) (by kernel_rfl) (by kernel_rfl) rfl (fun w' hw' => by obtain ⟨r0, r1⟩ := hw'; go_simp) S0 ?_
                  simp only [Act.put, List.setIfInBounds_toArray, List.set_cons_zero, List.set_cons_succ]
                  refine u_take (i := 11) (v := .pointer (some ⟨gi, 4, none⟩)) 88 rfl rfl (by kernel_rfl) (by kernel_rfl) (by kernel_rfl) (by kernel_rfl) rfl (fun w' hw' => by obtain ⟨r0, r1⟩ := hw'; go_simp) S0 ?_
                  simp only [Act.put, List.setIfInBounds_toArray, List.set_cons_zero, List.set_cons_succ]
                  refine u_last (w' := V1) (by kernel_rfl) rfl rfl rfl (by rw [HV1.out]; go_simp) (by kernel_rfl) ?_
                  clear S0 cN fN HV1
                  have hA1 : (A : Int) + 1 - 1 = (A : Int) := by omega
                  by_cases hx : x < 128
                  · have hxi : (x : Int) < 128 := by omega
                    have HDI : Hid (docI c t = (⟨cn, x0, x1, x2, z10⟩, A + 1)) := by
                      have := HDC.out z10 (j + 1) (HLA.out hx)
                      rw [show 1 + k + (j + 1) = A + 1 by have := HAJ.out; omega] at this
                      exact this
                    have HLE : A + 1 ≤ t.length + 1 := by omega
                    have HLS : Hid (V1.heap[gi]? = some (.cells #[.int .i64 (cn : Int), .int .i64 (x0 : Int), .int .i64 (x1 : Int), .int .i64 (x2 : Int), .int .u64 (z10 : Int)] 38 (0, 0)) ∧ V1.heap[w.heap.size]? = some (.cells #[.int .i64 0, .int .i64 0, .int .i64 0, .int .i64 0, .int .u64 0] 38 (0, 0)) ∧ V1.heap[w1.heap.size]? = some (.cells #[.int .i64 (k : Int), .bool true, .bool tb, .bool ob, .bool ib] 52 (0, 0)) ∧ Keeps (fun _ => False) w V1) := ⟨v0, v1, v2, kV1⟩
                    clear HMO HLA HDC hbad hgood HB
                    go_wp2_with fail
                    refine ⟨by first | trivial | rfl, ?_⟩
                    refine ⟨z10, A + 1, ?_⟩
                    repeat apply Exists.intro
                    exact ⟨⟨HLE, HDI, HLS⟩, rfl⟩
                  · have hxi : ¬ (x : Int) < 128 := by omega
                    have fin : Hid ((V1.heap[gi]? = some (.cells #[.int .i64 (cn : Int), .int .i64 (x0 : Int), .int .i64 (x1 : Int), .int .i64 (x2 : Int), .int .u64 (z10 : Int)] 38 (0, 0)) ∧ V1.heap[w.heap.size]? = some (.cells #[.int .i64 0, .int .i64 0, .int .i64 0, .int .i64 0, .int .u64 0] 38 (0, 0)) ∧ V1.heap[w1.heap.size]? = some (.cells #[.int .i64 (k : Int), .bool true, .bool tb, .bool ob, .bool ib] 52 (0, 0)) ∧ Keeps (fun _ => False) w V1) ∧ DN (t.drop k) (j + 1) z10 wt') := ⟨⟨v0, v1, v2, kV1⟩, HMO.out hx⟩
                    clear HMO HLA HDC hbad hgood HB v0 v1 v2 kV1
                    go_wp2_with fail
                    go_roundw
                    · exact ⟨j + 1, z10, wt', A + 1, by simp, by first | rfl | simp, by have := HAJ.out; omega, by omega, by omega, fin⟩
                    · simp [intOf]; omega
                · have HDI : Hid (docI c t = (⟨cn, x0, x1, x2, N⟩, A)) := by
                    have hD : (t.drop k).length = t.length - k := by simp
                    have := HDC.out N j (hdn.stop (by omega))
                    rw [show 1 + k + j = A by omega] at this
                    exact this
                  have HLE : A ≤ t.length + 1 := by omega
                  have HLS : Hid (wr.heap[gi]? = some (.cells #[.int .i64 (cn : Int), .int .i64 (x0 : Int), .int .i64 (x1 : Int), .int .i64 (x2 : Int), .int .u64 (N : Int)] 38 (0, 0)) ∧ wr.heap[w.heap.size]? = some (.cells #[.int .i64 0, .int .i64 0, .int .i64 0, .int .i64 0, .int .u64 0] 38 (0, 0)) ∧ wr.heap[w1.heap.size]? = some (.cells #[.int .i64 (k : Int), .bool true, .bool tb, .bool ob, .bool ib] 52 (0, 0)) ∧ Keeps (fun _ => False) w wr) := ⟨c0, c1, c2, kq⟩
                  clear HDC hbad hgood HB hh hdn c0 c1 c2 kq
                  by_cases hg1 : k + j < t.length
                  · have g1 : (A : Int) < (t.length : Int) + 1 := by omega
                    have g2 : ¬ (A : Int) < 1 + (k : Int) + 10 := by omega
                    clear hAj hgo
                    go_wp2_with fail
                    refine ⟨by first | trivial | rfl, ?_⟩
                    refine ⟨N, A, ?_⟩
                    repeat apply Exists.intro
                    exact ⟨⟨HLE, HDI, HLS⟩, rfl⟩
                  · have g1 : ¬ (A : Int) < (t.length : Int) + 1 := by omega
                    clear hAj hgo
                    go_wp2_with fail
                    refine ⟨by first | trivial | rfl, ?_⟩
                    refine ⟨N, A, ?_⟩
                    repeat apply Exists.intro
                    exact ⟨⟨HLE, HDI, HLS⟩, rfl⟩
    · have hli : (t.length : Int) + 1 < 1 + (m : Int) := by omega
      have hR := hbad.out (by
        cases hff : firstF (c :: t) with
        | none => rfl
        | some r =>
          obtain ⟨i, k⟩ := r
          have hd := docI_first hff
          obtain ⟨_, _, _, h4⟩ := firstF_facts hff
          unfold docI at hd
          rw [hmm] at hd
          have := (Prod.mk.inj hd).2
          simp only [List.length_cons] at h4
          omega)
      have kz := kF.row (Nat.le_refl w.heap.size) #[.int .i64 0, .int .i64 0, .int .i64 0, .int .i64 0, .int .u64 0]
      clear hbad hgood HB
      go_wp2_with (refine wpList_store_row' rfl 38 _ _ rfl w.heap.size _ rfl rfl 38 _ a2 size_ins rfl (by simp [Value.oneCell']) ?_)
      refine bodyPost_ret (ins_ret3 rfl _ _ w.heap.size _ _ a2 rfl rfl) rfl ?_
      exact ⟨hR, kz⟩
  · have IN := rinfo_no (c.toNat : Int) (by omega)
    have hR := hbad.out (by rw [firstF, if_neg hk])
    clear hbad hgood HB hk
    go_enter Tryd.func11, Tryd.ntmps11
    go_wp2_with fail
    refine (IN _).mono ?_
    rintro e w1 ⟨rfl, k1⟩
    have a1 : w1.heap[w.heap.size]? = some (.cells #[.int .i64 0, .int .i64 0, .int .i64 0, .int .i64 0, .int .u64 0] 38 (0, 0)) := (k1.block _ (by simp) (fun f => f)).trans (MapKept.heap_alloc _ _).1
    have a2 := ((MapKept.heap_alloc w1 (.cells #[.int .i64 0, .bool false, .bool false, .bool false, .bool false] 52)).2 _ (lt_of_block a1)).trans a1
    have kz := ((kA.trans k1).alloc (.cells #[.int .i64 0, .bool false, .bool false, .bool false, .bool false] 52)).row (Nat.le_refl w.heap.size) #[.int .i64 0, .int .i64 0, .int .i64 0, .int .i64 0, .int .u64 0]
    clear IN
    go_wp2_with (refine wpList_store_row' rfl 38 _ _ rfl w.heap.size _ rfl rfl 38 _ a2 size_ins rfl (by simp [Value.oneCell']) ?_)
    refine bodyPost_ret (ins_ret3 rfl _ _ w.heap.size _ _ a2 rfl rfl) rfl ?_
    exact ⟨hR, kz⟩
end Go.Proofs.YtijommlodgpphaaDoor
