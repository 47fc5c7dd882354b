
/- Programs where they lie; walks of All of both. No statement of the seat is proved here. -/
import Derived.Test.YtljapgoeomedkaaDoorDaD
namespace Go.Proofs.YtljapgoeomedkaaDoor
open Go.RowKit Go.Shelf

/-- Programs where they lie. -/
def Pgs (w : World) (v : Value) (Ps : List (List I5)) : Prop := ∃ a cap, v = .slice a Ps.length cap ∧ ∀ k (hk : k < Ps.length), ∃ g off pa pc, a = some ⟨g, off, none⟩ ∧ w.cell? ⟨g, off + k, none⟩ = some (.slice pa (Ps[k]).length pc) ∧ InsAt w (.slice pa (Ps[k]).length pc) Ps[k]
theorem Pgs.keeps {w w' : World} {v : Value} {Ps : List (List I5)} (h : Pgs w v Ps) (k : Keeps (fun _ => False) w w') : Pgs w' v Ps := by
  obtain ⟨a, cap, rfl, hc⟩ := h
  refine ⟨a, cap, rfl, fun j hj => ?_⟩
  obtain ⟨g, off, pa, pc, rfl, c0, hi⟩ := hc j hj
  refine ⟨g, off, pa, pc, rfl, ?_, hi.keeps k⟩
  rw [← c0]
  simp [World.cell?, k.block g (World.block_lt_of_cell? _ _ c0) (fun f => f)]
def pAt (Ps : List (List I5)) (k : Nat) : List I5 := (Ps[k]?).getD []
noncomputable def badF (Ps : List (List I5)) (k : Nat) : Bool := !decide ((verd (pAt Ps k)).2 = 0)
noncomputable def allV (Ps : List (List I5)) : Int × Int × Int := match firstK Ps.length (badF Ps) with
  | some k => (k, verd (pAt Ps k))
  | none => (-1, -1, 0)
theorem allV_some {Ps : List (List I5)} {k : Nat} (h1 : k < Ps.length) (h2 : badF Ps k = true) (h3 : ∀ j, j < k → badF Ps j = false) : allV Ps = ((k : Int), verd (pAt Ps k)) := by
  unfold allV; rw [firstK_some.2 ⟨h1, h2, h3⟩]
theorem allV_none {Ps : List (List I5)} (h : ∀ j, j < Ps.length → badF Ps j = false) : allV Ps = (-1, -1, 0) := by
  unfold allV; rw [firstK_none.2 h]

set_option maxRecDepth 100000 in
set_option maxHeartbeats 4000000 in
theorem all_any (v : Value) (Ps : List (List I5)) (hn : Ps.length < 140737488355328) (w : World) (h : Pgs w v Ps) (hG : Gb w) : Calls Tryd.prog 27 #[v] w fun e w' => e = .returned (.tuple #[.int .i64 (allV Ps).1, .agg (wrV (allV Ps).2.1 (allV Ps).2.2)]) ∧ Keeps (fun _ => False) w w' := by
  have HI : Hid (∀ X, Keeps (fun _ => False) w X → Pgs X v Ps ∧ Gb X) := fun X k => ⟨h.keeps k, hG.keeps k⟩
  obtain ⟨av, cap, rfl, -⟩ := h
  have A0 : (w.alloc (.cells (wrV 0 0) 40)).heap[w.heap.size]? = some (.cells (wrV 0 0) 40 (0, 0)) := heap_alloc_new _ _
  have KA := (Keeps.refl (fun _ => False) w).alloc (.cells (wrV 0 0) 40)
  unfold wrV at A0 KA
  clear hG
  go_enter Tryd.func27, Tryd.ntmps27
  go_wp2_with fail
  go_loopw [9] (fun m wr => ∃ k : Nat, m = .int .i64 k ∧ k ≤ Ps.length ∧ Hid ((∀ j, j < k → badF Ps j = false) ∧ Keeps (fun _ => False) w wr ∧ wr.heap[w.heap.size]? = some (.cells #[.int .i64 0, .int .i64 0] 40 (0, 0)))) (fun m _ => Ps.length - (intOf m).toNat)
  case atStart => exact ⟨0, rfl, Nat.zero_le _, ⟨fun j hj => by omega, KA, A0⟩⟩
  case round =>
    clear A0 KA
    obtain ⟨k, rfl, hkl, hh⟩ := hrel
    obtain ⟨hM, hK, hB⟩ := hh.out
    by_cases hlt : k < Ps.length
    · have hki : (k : Int) < Ps.length := by omega
      obtain ⟨⟨av', cap', hv, hc⟩, hGr⟩ := HI.out wr hK
      cases hv
      obtain ⟨pg, po, pa, pc, rfl, c0, hins⟩ := hc k hlt
      have PA := program_any _ _ wr hins hGr
      have h5 : Ps[k]'hlt = pAt Ps k := by simp [pAt, hlt]
      rw [h5] at c0 PA
      have hbk : badF Ps k = !decide ((verd (pAt Ps k)).2 = 0) := rfl
      have hv := fun h2 => allV_some (Ps := Ps) hlt h2 hM
      generalize hlen : (pAt Ps k).length = ln at *
      generalize hvd : verd (pAt Ps k) = vd at *
      obtain ⟨va, vb⟩ := vd
      dsimp only at PA hbk hv
      clear hc h5 hins hGr hh hlen hvd
      go_wp2_with fail
      refine PA.mono ?_
      rintro e w1 ⟨rfl, k1⟩
      have K1 := (hK.trans k1).alloc (.cells #[.int .i64 va, .int .i64 vb] 40)
      have B1 := (((k1.alloc (.cells #[.int .i64 va, .int .i64 vb] 40))).block _ (lt_of_block hB) (fun f => f)).trans hB
      have K0 := hK.trans k1
      have B0 := (k1.block _ (lt_of_block hB) (fun f => f)).trans hB
      unfold wrV
      clear PA hK hB k1 c0
      by_cases hb : vb = 0
      · subst hb
        have hM2 : Hid (∀ j, j < k + 1 → badF Ps j = false) := upto_more hM (by rw [hbk]; rfl)
        clear hM hbk hv
        go_wp2_with fail
        go_roundw
        · exact ⟨k + 1, by simp, by omega, ⟨hM2.out, K1, B1⟩⟩
        · simp [intOf]; omega
      · have hvv := hv (by rw [hbk]; simp [hb])
        have HV : Hid (_ = _) := hvv
        clear hM hbk hv hvv
        have c0 : w1.cell? ⟨w.heap.size, 0, none⟩ = some (.int .i64 0) := by rw [cell_of_block B0]; rfl
        have c1 : w1.cell? ⟨w.heap.size, 1, none⟩ = some (.int .i64 0) := by rw [cell_of_block B0]; rfl
        have f0 := frozen_of_block B0 0
        have f1 := frozen_of_block B0 1
        have ls := lt_of_block B0
        have b2 := block_set (block_set B0 0 (.int .i64 va)) 1 (.int .i64 vb)
        have K3 := (K0.setCell (p := ⟨w.heap.size, 0, none⟩) (.inl (Nat.le_refl _)) (.int .i64 va)).setCell (p := ⟨w.heap.size, 1, none⟩) (.inl (Nat.le_refl _)) (.int .i64 vb)
        have ka := (Keeps.refl (fun _ => False) ((w1.setCell ⟨w.heap.size, 0, none⟩ (.int .i64 va)).setCell ⟨w.heap.size, 1, none⟩ (.int .i64 vb))).alloc (.cells #[.int .i64 va, .int .i64 vb] 40)
        have B3 : ((((w1.setCell ⟨w.heap.size, 0, none⟩ (.int .i64 va)).setCell ⟨w.heap.size, 1, none⟩ (.int .i64 vb))).alloc (.cells #[.int .i64 va, .int .i64 vb] 40)).heap[w.heap.size]? = some (.cells (wrV va vb) 40 (0, 0)) := (ka.block _ (lt_of_block b2) (fun f => f)).trans b2
        have HZ : Hid (_ ∧ _) := ⟨K3.trans ka, B3⟩
        clear K3 ka B3 b2 K0 B0 K1 B1
        go_wp2_with fail
        go_region
        go_wp2_with fail
        refine bodyPost_ret (wrong_ret2 rfl _ _ w.heap.size (wrV va vb) HZ.out.2 rfl rfl) rfl ?_
        exact ⟨by rw [HV.out]; rfl, HZ.out.1.drewN 1⟩
    · have hki : ¬ (k : Int) < Ps.length := by omega
      obtain rfl : k = Ps.length := by omega
      have hv := allV_none hM
      clear hh hM
      go_wp2_with fail
      refine (fine_any _).mono ?_
      rintro e w1 ⟨rfl, k1⟩
      have K1 := hK.trans k1
      have B1 := (k1.block _ (lt_of_block hB) (fun f => f)).trans hB
      go_wp2_with (refine wpList_store_row rfl 40 _ _ rfl w.heap.size (wrV (-1) 0) rfl rfl 40 _ B1 (wr_size _ _) rfl (wr_all _ _) ?_)
      refine bodyPost_ret (wrong_ret2 rfl _ _ w.heap.size (wrV (-1) 0) (setRow_heap _ _ _ _ _ _ B1) rfl rfl) rfl ?_
      exact ⟨by rw [hv]; rfl, K1.row (Nat.le_refl _) _⟩
end Go.Proofs.YtljapgoeomedkaaDoor
