
/- The law CheckNames. No statement of the seat is proved here. -/
import Derived.Test.YtljapgoeomedkaaDoorChL
namespace Go.Proofs.YtljapgoeomedkaaDoor
open Go.RowKit Go.Shelf

theorem halts_set {n k : Nat} (hk : k < n) : (List.replicate k iH ++ List.replicate (n - k) i0).set k iH = List.replicate (k + 1) iH ++ List.replicate (n - (k + 1)) i0 := by
  apply List.ext_getElem?
  intro j
  rw [List.getElem?_set]
  by_cases h : k = j
  · subst h
    rw [if_pos rfl, if_pos (by simp; omega), List.getElem?_append_left (by simp)]
    simp
  · rw [if_neg h]
    by_cases hj : j < k
    · rw [List.getElem?_append_left (by simpa using hj), List.getElem?_append_left (by simp; omega)]
      simp [hj, show j < k + 1 by omega]
    · rw [List.getElem?_append_right (by simp; omega), List.getElem?_append_right (by simp; omega)]
      simp only [List.length_replicate, List.getElem?_replicate]
      by_cases hn : j < n
      · rw [if_pos (by omega), if_pos (by omega)]
      · rw [if_neg (by omega), if_neg (by omega)]

set_option maxRecDepth 100000 in
set_option maxHeartbeats 4000000 in
theorem names_law (w : World) (hG : Gb w) : Calls Tryd.prog 8 #[] w fun e w' => e = .returned (.bool true) ∧ Keeps (fun _ => False) w w' := by
  obtain ⟨x, hmk, hB⟩ := run_prog w 257 (by decide)
  rw [show ((257 : Nat) : Int) = 257 from rfl] at hmk
  have KA := (Keeps.refl (fun _ => False) w).alloc (.cells x 50)
  have HG : Hid (∀ X, Keeps (fun _ => False) w X → Gb X) := fun X k => hG.keeps k
  clear hG
  go_enter Tryd.func8, Tryd.ntmps8
  go_wp2_with fail
  go_loopw [2] (fun m wr => ∃ k : Nat, m = .int .i64 k ∧ k ≤ 257 ∧ Hid (Keeps (fun _ => False) w wr ∧ InsB wr w.heap.size (List.replicate k iH ++ List.replicate (257 - k) i0))) (fun m _ => 257 - (intOf m).toNat)
  case atStart => exact ⟨0, rfl, by omega, ⟨KA, by simpa using hB⟩⟩
  case round =>
    clear hmk hB KA
    obtain ⟨k, rfl, hk, hh⟩ := hrel
    obtain ⟨hK, hB⟩ := hh.out
    by_cases hlt : k < 257
    · have hki : (k : Int) < 257 := by omega
      obtain ⟨W', r1, B', k'⟩ := hB.set (k := k) (by simp; omega) iH
      rw [halts_set hlt] at B'
      have K' := InsB.kept k' hK (Nat.le_refl _)
      have HR : Hid (_ = _) := r1
      clear hh hK hB r1 k'
      go_wp2_with (refine wpList_store_run rfl 50 _ _ rfl rfl rfl HR.out ?_)
      go_roundw
      · exact ⟨k + 1, by simp, by omega, ⟨K', B'⟩⟩
      · simp [intOf]; omega
    · have hki : ¬ (k : Int) < 257 := by omega
      obtain rfl : k = 257 := by omega
      rw [show List.replicate 257 iH ++ List.replicate (257 - 257) i0 = List.replicate 257 iH by simp] at hB
      have wfs : ∀ n, ∀ i ∈ List.replicate n iH, i.wf := fun n i hi => by rw [List.eq_of_mem_replicate hi]; exact wf_iH
      have hP : Hid (∀ X, Keeps (fun _ => False) wr X → Calls Tryd.prog 16 #[.slice (some ⟨w.heap.size, 0, none⟩) 256 257] X (fun e w' => e = .returned (.agg (wrV (-1) 0)) ∧ Keeps (fun _ => False) X w') ∧ Calls Tryd.prog 16 #[.slice (some ⟨w.heap.size, 0, none⟩) 257 257] X (fun e w' => e = .returned (.agg (wrV (-1) 200)) ∧ Keeps (fun _ => False) X w') ∧ Calls Tryd.prog 23 #[] X (fun e w' => e = .returned (.bool true) ∧ Keeps (fun _ => False) X w')) := fun X kX => by
        have gX := HG.out X (hK.trans kX)
        have bX := hB.keeps kX (fun f => f)
        have bY := bX.take 256
        rw [show (List.replicate 257 iH).take 256 = List.replicate 256 iH by simp] at bY
        have a := program_any _ _ X (bY.insAt 257 (wfs _) (by simp)) gX
        have b := program_any _ _ X (bX.insAt 257 (wfs _) (by simp)) gX
        rw [halts_verd (by decide) (by decide), List.length_replicate] at a
        rw [verd_count (.inr (by simp)), List.length_replicate] at b
        exact ⟨a, b, known_any X gX⟩
      clear hh hB
      go_wp2_with fail
      refine (hP.out wr (Keeps.refl _ _)).1.mono ?_
      rintro e w1 ⟨rfl, k1⟩
      unfold wrV
      go_wp2_with fail
      refine (hP.out w1 k1).2.1.mono ?_
      rintro e w2 ⟨rfl, k2⟩
      unfold wrV
      go_wp2_with fail
      refine (hP.out w2 (k1.trans k2)).2.2.mono ?_
      rintro e w3 ⟨rfl, k3⟩
      go_wp2_with fail
      go_ret
      exact ⟨rfl, ((hK.trans k1).trans k2).trans k3⟩
end Go.Proofs.YtljapgoeomedkaaDoor
