
/- The law's step, Drop (layer 23). No statement of the seat is proved here. -/
import Derived.Test.YtadbplbifjeghaaQxK
import Derived.Test.YtadbplbifjeghaaQwF
import Derived.Test.YtadbplbifjeghaaASeg
import Derived.Test.YtadbplbifjeghaaQwE
import Derived.Test.YtadbplbifjeghaaASegM
namespace Go.Proofs.Ytadbplbifjeghaa
open Go.RowKit

set_option maxRecDepth 100000 in
set_option maxHeartbeats 4000000 in
theorem step_6 {w0 w : World} {x t b g c b2 g2 c2 : Nat} {lv : Value} {A B : List Qe} {e : Qe} {s r : Wd} {N K : Int} (h : Wo w0 w x t b g c b2 g2 c2 lv (A ++ e :: B) s r) (iv : Iv s r N (A ++ e :: B) K) (hK : K + 4400000 < 4611686018427387904) (on word : Int) (hon : (wrap64 (on.tmod ((A ++ e :: B).length : Int) + ((A ++ e :: B).length : Int))).tmod ((A ++ e :: B).length : Int) = (A.length : Int)) :
    Calls Try.prog 7 #[.pointer (some ⟨x, 0, none⟩), .agg #[.int .i64 6, .int .i64 on, .int .u64 word]] w fun er w' => er = .returned (.bool true) ∧ ∃ lv' s' r', Wo w0 w' x t b g c b2 g2 c2 lv' (A ++ B) s' r' ∧ Iv s' r' N (A ++ B) (K + 400000) := by
  obtain ⟨al, kl, hlv, hcap, hptr⟩ := h.row.at (k := A.length) (e := e) (by simp)
  obtain ⟨m, hm⟩ : ∃ m, (A ++ e :: B).length = m := ⟨_, rfl⟩
  have hjm : A.length < m := by rw [← hm]; simp
  rw [hm] at hlv hon hcap
  subst hlv
  have hA := h.alloc (.cells #[.int .i64 6, .int .i64 on, .int .u64 word] 35)
  have heA := hA.es e (by simp)
  have cx0 := hA.x0
  have cx1 := hA.x1
  have cx2 := hA.x2
  have ct := hA.tw.tx.cell
  have ce0 := heA.c0
  have cp : (w.alloc (.cells #[.int .i64 6, .int .i64 on, .int .u64 word] 35)).cell? ⟨al, A.length, none⟩ = some (.pointer (some ⟨e.p, 0, none⟩)) := (World.cell?_of_block (Below.heap_alloc _ _ _ (World.block_lt_of_cell? _ _ hptr))).trans hptr
  have hm0 : (m : Int) ≠ 0 := by omega
  have hmj : (A.length : Int) < (m : Int) := by omega
  have HM := hid hm
  have HB0 := hid ((Keeps.refl (fun _ => False) w).alloc (.cells #[.int .i64 6, .int .i64 on, .int .u64 word] 35))
  have hobj : (w.alloc (.cells #[.int .i64 6, .int .i64 on, .int .u64 word] 35)).heap[w.heap.size]? = some (.cells #[.int .i64 6, .int .i64 on, .int .u64 word] 35 (0, 0)) := alloc_block w _
  have HNF : Hid (w.heap.size ∉ ftp x t b g b2 g2 (.slice (some ⟨al, 0, none⟩) m kl) (A ++ e :: B)) := hid (fun q => by have := h.lt _ q; omega)
  obtain ⟨s1, r1, r2, q1, q3, q4, _, q2⟩ := iv.drop
  have HIV := hid (q2 (by omega))
  have HE1 : Hid (_ = _) := q1
  have HG1 : Hid (_ = _) := q3
  have HG2 : Hid (_ = _) := q4
  clear q1 q3 q4 q2
  have hmE := iv.many
  rw [hm] at hmE
  have HW := hid hA
  have hwe := iv.small.2.2.1
  have HSM := hid iv.small
  clear h iv hA heA hptr
  go_enter Try.func7, Try.ntmps7
  go_wp2_with fail
  go_quiet (fail)
  go_wp2_with fail
  have HT : Hid (∀ q, Calls Try.prog 17 #[.iface 24 (.pointer (some ⟨t, 0, none⟩)), .int .u64 0, .int .u64 e.a] ((w.alloc (.cells #[.int .i64 6, .int .i64 on, .int .u64 word] 35)).drewN q) fun r' w' => r' = .returned _ ∧ Tw w' t b g c s1 ∧ Keeps (two b g) ((w.alloc (.cells #[.int .i64 6, .int .i64 on, .int .u64 word] 35)).drewN q) w') := hid (fun q => qdrop_r HE1 hwe (HW.out.tw.drewN q))
  refine wp_region_segs [(true, 9), (false, 3)] (by kernel_rfl) (by kernel_rfl) ?_
  intro q0
  simp only [wpSeg, List.take_succ_cons, List.take_zero, List.drop_succ_cons, List.drop_zero]
  repeat (go_big_quiet_step (fail))
  refine wpQuiet_nil ?_
  intro _ hw'
  obtain ⟨q1, hw''⟩ := hw'
  subst hw''
  try simp only [World.drewN_drewN]
  intro K2 hK'
  go_wp2_with fail
  refine (HT.out _).mono ?_
  rintro e_ w1 ⟨rfl, h1, k1⟩
  have hW1 := (HW.out.drewN _).tx k1 h1
  have cy1 := hW1.x1
  have HW1 := hid hW1
  clear HT h1 k1 HW HE1 hW1
  go_wp2_with (go_at_call 16; refine (num_any _ _).mono ?_; rintro e_ w_ ⟨rfl, hw_⟩; subst w_)
  have sx1 := six_of HW1.out.nd
  have hd1 : ∀ i ∈ e.fp, ¬ two b2 g2 i := fun i hi q => (sx1.ed e (by simp) i hi).1 (by rcases q with rfl | rfl <;> simp)
  refine (rqdrop_any e HG1 HG2 HSM.out.2.2.2.1 hwe (by have := HSM.out.1; omega) _ HW1.out.rw (HW1.out.es e (by simp)) hd1).mono ?_
  rintro e_ w2 ⟨rfl, hr2, k2⟩
  have hW2 := HW1.out.rf k2 hr2
  have dx2 := hW2.x2
  have HW2 := hid hW2
  clear HG1 HG2 HW1 hr2 k2 hW2 sx1 hd1
  go_wp2_with fail
  have hk1 : (A.length : Int) + 1 ≤ (m : Int) := by omega
  have hk2 : (A.length : Int) ≤ (kl : Int) := by omega
  have hk3 : (m : Int) ≤ (kl : Int) := by omega
  by_cases hkl : kl = A.length + 1
  all_goals
    refine wp_region_segs1 388 _ _ [(true, 14), (false, 4)] (by kernel_rfl) (by kernel_rfl) rfl rfl rfl rfl _ rfl ?_
    intro p0
    simp only [wpSeg, List.take_succ_cons, List.take_zero, List.drop_succ_cons, List.drop_zero, Act.put, List.setIfInBounds_toArray, List.set_cons_zero, List.set_cons_succ]
    repeat (go_big_quiet_step (fail))
    refine wpQuiet_nil ?_
    intro _ hw'
    obtain ⟨p1, hw''⟩ := hw'
    subst hw''
    try simp only [World.drewN_drewN]
    intro K3 hK3
    have hW2 := HW2.out.drewN (p0 + p1)
    have hrw : Pw (w2.drewN (p0 + p1)) (.slice (some ⟨al, 0, none⟩) (A ++ e :: B).length kl) (A ++ e :: B) := by
      have q := hW2.row
      rw [hm]; exact q
    obtain ⟨v', wa, hrun, hrow, hka, hown⟩ := hrw.cut (by omega) (k := A.length) (by omega) (if kl = A.length + 1 then ⟨al, 0, none⟩ else ⟨al, A.length + 1, none⟩) (by
      by_cases q : kl = A.length + 1
      · exact .inl q
      · exact .inr (if_neg q)) (kl - (A.length + 1))
    rw [hm] at hrun
    have HRN : Hid (_ = _) := hrun
    simp only [hkl, if_true, if_false] at HRN
    have her : (A ++ e :: B).eraseIdx A.length = A ++ B := by rw [List.eraseIdx_append_of_length_le (Nat.le_refl _)]; simp
    rw [her] at hrow
    have sx2 := six_of hW2.nd
    have hsub : ∀ e', e' ∈ A ++ B → e' ∈ A ++ e :: B := fun e' he => by
      rcases List.mem_append.1 he with he | he <;> simp [he]
    have hfm : ((A ++ B).flatMap Qe.fp).Nodup := by
      have q := sx2.fm
      rw [List.flatMap_append, List.flatMap_cons] at q
      rw [List.flatMap_append]
      exact q.sublist (List.Sublist.append (List.Sublist.refl _) (List.sublist_append_right _ _))
    have hWL := hW2.rows (E' := A ++ B) (lv' := v') (hka.mono fun _ _ f => f.elim) hrow (fun i hi => (hown i hi).imp (fun q => by rw [q]; rfl) id) (fun e' he => ⟨hW2.es e' (hsub e' he), fun i hi => hW2.lo i (in_e (hsub e' he) hi)⟩) ⟨fun e' he i hi => ⟨(sx2.ed e' (hsub e' he) i hi).1, (sx2.ed e' (hsub e' he) i hi).2, hW2.lt i (in_e (hsub e' he) hi)⟩, hfm⟩
    have bxa : wa.heap[x]? = some (.cells #[.pointer (some ⟨t, 0, none⟩), .pointer (some ⟨b2, 0, none⟩), .slice (some ⟨al, 0, none⟩) m kl] 31 (0, 0)) := (hka.block _ (lt_of_block hW2.bx) (fun f => f)).trans hW2.bx
    have fxa : wa.frozen? ⟨x, 2, none⟩ = false := frozen_of_block bxa _
    have cxa : wa.cell? ⟨x, 2, none⟩ = some (.slice (some ⟨al, 0, none⟩) m kl) := by rw [cell_of_block bxa]; rfl
    obtain ⟨av, kv, hv⟩ := hrow.form
    rw [List.length_append] at hv
    subst hv
    have HWL := hid hWL
    clear hrun hrow hka hown hrw hW2 her sx2 hsub hfm hWL bxa HW2 dx2
    refine wpList_append_run rfl _ _ 29 rfl rfl rfl HRN.out ?_
    clear HRN
    go_wp2_with fail
    refine atEndT_n ?_
    go_wp2_with fail
    go_ret
    exact ⟨rfl, _, _, _, HWL.out, HIV.out⟩
end Go.Proofs.Ytadbplbifjeghaa
