
/- The walk of reach (layer 25). No statement of the seat is proved here. -/
import Derived.Test.YtiacennkjjfifabTmD
namespace Go.Proofs.Ytiacennkjjfifab
open Go.RowKit

theorem enC_set5 (e : En) (x : Int) : (enC e).setIfInBounds 5 (.int .u64 x) = enC { e with key := x } := rfl
set_option maxHeartbeats 4000000 in
theorem reach_any {b g c : Nat} {s s1 : Wd} {at_ k e1 : Int} {E : En} (heq : Hid (reachF at_ k s = ((E, e1), s1))) (rms : Rm s 17) {w : World} (h : WdAt 65 w b g c s) :
    Calls Try.prog 19 #[.iface 62 (.pointer (some ⟨b, 0, none⟩)), .int .u64 at_, .int .u64 k] w fun e w' => e = .returned (.tuple #[E.v, .int .i64 e1]) ∧ Hs 65 w b g c w' s1 := by
  have mg := meth_get b
  have ng := nil_get b
  obtain ⟨E0, f, s2, h1, h2, h3⟩ := bnd_step heq.out
  have ok2 := wayF_ok h1 h.ok
  have HS := hid (Wy.start h)
  have HW := hid h1
  have H2 := hid h2
  have H3 := hid h3
  have R1 := hid (rms.le (j := 16) (by omega))
  have R2 : Hid (Rm s2 1) := hid (Rm.wayF (j := 1) rms h1 h.ok)
  have HOK := hid ok2
  clear h1 h2 h3 ok2 rms h heq
  go_enter Try.func19, Try.ntmps19
  go_wp2_with fail
  refine (way_any HW R1.out HS.out.hs.wd).mono ?_
  rintro e_ w2 ⟨rfl, k2⟩
  replace HS := hid (HS.out.acc k2)
  clear k2 HW R1
  unfold En.v enC
  have hbx := HS.out.bx.at_
  have HE2 := hid (Lo.new HS.out.hs.wd (.cells (enC E0) 50))
  have HS2 : Hid (Wy w b g c (w2.alloc (.cells (enC E0) 50)) s2) := hid ⟨HS.out.hs.new (keeps_new w2 _), HS.out.bx.after HS.out.hs.wd.ltb (keeps_new w2 _)⟩
  have hb2 := HS2.out.bx.at_
  have he2 : (w2.alloc (.cells (enC E0) 50)).heap[w2.heap.size]? = some (.cells (enC E0) 50 (0, 0)) := HE2.out.at_
  have ce3 : (w2.alloc (.cells (enC E0) 50)).cell? ⟨w2.heap.size, 3, none⟩ = some (.int .i64 E0.what) := by rw [cell_of_block he2]; rfl
  have ce4 : (w2.alloc (.cells (enC E0) 50)).cell? ⟨w2.heap.size, 4, none⟩ = some (.int .u64 E0.leaf) := by rw [cell_of_block he2]; rfl
  have ce5 : (w2.alloc (.cells (enC E0) 50)).cell? ⟨w2.heap.size, 5, none⟩ = some (.int .u64 E0.key) := by rw [cell_of_block he2]; rfl
  clear hbx hb2 he2
  dsimp only [enC] at ce3 ce4 ce5
  by_cases hf : f = 0
  · subst hf
    have h4 := H2.out rfl
    by_cases hw : E0.what = 1
    · rw [if_pos hw] at h4
      obtain ⟨x, g1, s3, h5, h6, h7⟩ := bnd_step h4
      have hwb : (E0.what == 1) = true := by simpa using hw
      have HG := hid h5
      have H6 := hid h6
      have H7 := hid h7
      clear h4 h5 h6 h7 H2 H3 hw
      have hlw := uw_id HOK.out.1.leaf
      go_wp2_with fail
      refine (tget_r HG (uw_isW _) R2.out HS2.out.hs.wd).mono ?_
      rintro e_ w3 ⟨rfl, k3⟩
      have HS3 := hid (HS2.out.acc k3)
      have HE3 := hid (HE2.out.hs k3)
      have he3 := HE3.out.at_
      have f5 := frozen_of_block he3 5
      have d5 : w3.cell? ⟨w2.heap.size, 5, none⟩ = some (.int .u64 E0.key) := by rw [cell_of_block he3]; rfl
      have HE4 := hid (HE3.out.set 5 (.int .u64 x))
      have HS4 : Hid (Wy w b g c (w3.setCell ⟨w2.heap.size, 5, none⟩ (.int .u64 x)) s3) := by
        have hq : w.heap.size < w2.heap.size := HS.out.bx.lt
        exact hid ⟨HS3.out.hs.set HE3.out (by omega) 5 _, HS3.out.bx.setOther _ HE3.out (by omega)⟩
      have hb4 := HS4.out.bx.at_
      have he4 := HE4.out.at_
      rw [enC_set5] at he4
      clear k3 HG ce3 ce4 ce5 he3
      by_cases hg : g1 = 0
      · subst hg
        obtain ⟨rfl, rfl, rfl⟩ := rtn_eq (H6.out rfl)
        have HF := hid (HS4.out.out (enC { E0 with key := x }))
        have HB := hid (setRow_at hb4 (enC { E0 with key := x }))
        clear H6 H7
        go_wp2_with (first
          | (refine wpList_load_row rfl 50 _ rfl w2.heap.size rfl 50 (enC { E0 with key := x }) (0, 0) _ he4 Try.underlying50 rfl (by rw [size_en]; rfl) ?_)
          | (refine wpList_store_row rfl 50 _ _ rfl w.heap.size (enC { E0 with key := x }) rfl rfl 50 (enC En.zero) hb4 (by rw [size_en]; rfl) rfl (enC_one _) ?_))
        refine bodyPost_ret (en_ret rfl _ _ w.heap.size { E0 with key := x } HB.out rfl) rfl ?_
        exact ⟨rfl, HF.out⟩
      · obtain ⟨rfl, rfl, rfl⟩ := H7.out hg
        have HF := hid (HS4.out.out (enC En.zero))
        have HB := hid (setRow_at hb4 (enC En.zero))
        clear H6 H7
        go_wp2_with (refine wpList_store_row rfl 50 _ _ rfl w.heap.size (enC En.zero) rfl rfl 50 (enC En.zero) hb4 (by rw [size_en]; rfl) rfl (enC_one _) ?_)
        refine bodyPost_ret (en_ret rfl _ _ w.heap.size En.zero HB.out rfl) rfl ?_
        exact ⟨rfl, HF.out⟩
    · rw [if_neg hw] at h4
      obtain ⟨rfl, rfl, rfl⟩ := rtn_eq h4
      have hwb : (E.what == 1) = false := by simpa using hw
      have hb2 := HS2.out.bx.at_
      have he2 := HE2.out.at_
      have HF := hid (HS2.out.out (enC E))
      have HB := hid (setRow_at hb2 (enC E))
      dsimp only [enC] at he2 hb2
      clear h4 H2 H3 hw
      go_wp2_with (first
        | (refine wpList_load_row rfl 50 _ rfl w2.heap.size rfl 50 (enC E) (0, 0) _ he2 Try.underlying50 rfl (by rw [size_en]; rfl) ?_)
        | (refine wpList_store_row rfl 50 _ _ rfl w.heap.size (enC E) rfl rfl 50 (enC En.zero) hb2 (by rw [size_en]; rfl) rfl (enC_one _) ?_))
      refine bodyPost_ret (en_ret rfl _ _ w.heap.size E HB.out rfl) rfl ?_
      exact ⟨rfl, HF.out⟩
  · obtain ⟨rfl, rfl, rfl⟩ := H3.out hf
    have hb2 := HS2.out.bx.at_
    have HF := hid (HS2.out.out (enC En.zero))
    have HB := hid (setRow_at hb2 (enC En.zero))
    dsimp only [enC] at hb2
    clear H2 H3
    go_wp2_with (refine wpList_store_row rfl 50 _ _ rfl w.heap.size (enC En.zero) rfl rfl 50 (enC En.zero) hb2 (by rw [size_en]; rfl) rfl (enC_one _) ?_)
    refine bodyPost_ret (en_ret rfl _ _ w.heap.size En.zero HB.out rfl) rfl ?_
    exact ⟨rfl, HF.out⟩
end Go.Proofs.Ytiacennkjjfifab
