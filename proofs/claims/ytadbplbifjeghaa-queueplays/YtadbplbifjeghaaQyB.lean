
/- The law's step, Take (layer 23). No statement of the seat is proved here. -/
import Derived.Test.YtadbplbifjeghaaQxK
import Derived.Test.YtadbplbifjeghaaQwF
import Derived.Test.YtadbplbifjeghaaASeg
import Derived.Test.YtadbplbifjeghaaQwE
namespace Go.Proofs.Ytadbplbifjeghaa
open Go.RowKit

set_option maxRecDepth 100000 in
set_option maxHeartbeats 4000000 in
theorem step_2n {w0 w : World} {x t b g c b2 g2 c2 : Nat} {lv : Value} {A B : List Qe} {e : Qe} {s r : Wd} {N K : Int} (h : Wo w0 w x t b g c b2 g2 c2 lv (A ++ e :: B) s r) (iv : Iv s r N (A ++ e :: B) K) (hK : K + 4400000 < 4611686018427387904) (on word : Int) (hns : e.ns = []) (hon : (wrap64 (on.tmod ((A ++ e :: B).length : Int) + ((A ++ e :: B).length : Int))).tmod ((A ++ e :: B).length : Int) = (A.length : Int)) :
    Calls Try.prog 7 #[.pointer (some ⟨x, 0, none⟩), .agg #[.int .i64 2, .int .i64 on, .int .u64 word]] w fun er w' => er = .returned (.bool true) ∧ ∃ lv' E' s' r', E'.length = (A ++ e :: B).length ∧ Wo w0 w' x t b g c b2 g2 c2 lv' E' s' r' ∧ Iv s' r' N E' (K + 400000) ∧ nx s' = nx s := by
  obtain ⟨al, kl, hlv, hptr⟩ := h.ptr (i := A.length) (e := e) (by simp)
  obtain ⟨m, hm⟩ : ∃ m, (A ++ e :: B).length = m := ⟨_, rfl⟩
  have hjm : A.length < m := by rw [← hm]; simp
  rw [hm] at hlv hon
  subst hlv
  have hA := h.alloc (.cells #[.int .i64 2, .int .i64 on, .int .u64 word] 35)
  have heA := hA.es e (by simp)
  have cx0 := hA.x0
  have cx1 := hA.x1
  have cx2 := hA.x2
  have ct := hA.tw.tx.cell
  have ce0 := heA.c0
  have cp : (w.alloc (.cells #[.int .i64 2, .int .i64 on, .int .u64 word] 35)).cell? ⟨al, A.length, none⟩ = some (.pointer (some ⟨e.p, 0, none⟩)) := (World.cell?_of_block (Below.heap_alloc _ _ _ (World.block_lt_of_cell? _ _ hptr))).trans hptr
  have hm0 : (m : Int) ≠ 0 := by omega
  have hmj : (A.length : Int) < (m : Int) := by omega
  have HM := hid hm
  have HB0 := hid ((Keeps.refl (fun _ => False) w).alloc (.cells #[.int .i64 2, .int .i64 on, .int .u64 word] 35))
  have hobj : (w.alloc (.cells #[.int .i64 2, .int .i64 on, .int .u64 word] 35)).heap[w.heap.size]? = some (.cells #[.int .i64 2, .int .i64 on, .int .u64 word] 35 (0, 0)) := alloc_block w _
  have HNF : Hid (w.heap.size ∉ ftp x t b g b2 g2 (.slice (some ⟨al, 0, none⟩) m kl) (A ++ e :: B)) := hid (fun q => by have := h.lt _ q; omega)
  obtain ⟨s1, q1, qW, q2⟩ := iv.take0 hns
  have HE1 : Hid (_ = _) := q1
  have HIV := hid ((q2 (by omega)).more (K' := K + 400000) (by omega) (by omega))
  have HNX : Hid (nx s1 = nx s) := hid (by show oat s1.W 0 = oat s.W 0; rw [qW])
  clear q1 qW q2
  have HW := hid hA
  have hwe := iv.small.2.2.1
  have HSM := hid iv.small
  clear h iv hA heA hptr
  go_enter Try.func7, Try.ntmps7
  go_wp2_with fail
  go_quiet (fail)
  go_wp2_with fail
  have HT : Hid (∀ q, Calls Try.prog 23 #[.iface 24 (.pointer (some ⟨t, 0, none⟩)), .int .u64 0, .int .u64 e.a] ((w.alloc (.cells #[.int .i64 2, .int .i64 on, .int .u64 word] 35)).drewN q) fun r' w' => r' = .returned _ ∧ Tw w' t b g c s1 ∧ Keeps (two b g) ((w.alloc (.cells #[.int .i64 2, .int .i64 on, .int .u64 word] 35)).drewN q) w') := hid (fun q => qtake_r HE1 zero_isW hwe (HW.out.tw.drewN q))
  refine wp_region_segs [(true, 9), (false, 1), (true, 7)] (by kernel_rfl) (by kernel_rfl) ?_
  intro q0
  simp only [wpSeg, List.take_succ_cons, List.take_zero, List.drop_succ_cons, List.drop_zero]
  repeat (go_big_quiet_step (fail))
  refine wpQuiet_nil ?_
  intro _ hw'
  obtain ⟨q1, hw''⟩ := hw'
  subst hw''
  try simp only [World.drewN_drewN]
  intro K2 hK'
  go_wp2_with fail
  refine (HT.out _).mono ?_
  rintro e_ w1 ⟨rfl, h1, k1⟩
  have hW1 := (HW.out.drewN _).tx k1 h1
  have cy1 := hW1.x1
  have HW1 := hid (fun q => hW1.drewN q)
  clear HT h1 k1 HW HE1 hW1
  go_wp2_with fail
  repeat (go_big_quiet_step (fail))
  refine wpQuiet_nil ?_
  intro _ hw'
  obtain ⟨q2, hw''⟩ := hw'
  subst hw''
  try simp only [World.drewN_drewN]
  go_wp2_with fail
  have HW2 := hid (HW1.out q2)
  have he1 := HW2.out.es e (by simp)
  have sx1 := six_of HW2.out.nd
  have hd1 : ∀ i ∈ e.fp, ¬ two b2 g2 i := fun i hi q => (sx1.ed e (by simp) i hi).1 (by rcases q with rfl | rfl <;> simp)
  have hn1 : e.fp.Nodup := by have q := sx1.fm; rw [List.flatMap_append, List.flatMap_cons] at q; exact (List.nodup_append.1 (List.nodup_append.1 q).2.1).1
  refine (rqtake_none (b := b2) e _ he1 hns).mono ?_
  rintro e_ w2 ⟨rfl, hw2⟩
  subst w2
  clear he1 sx1 hd1 hn1
  go_wp2_with (go_at_call 16; refine (num_any _ _).mono ?_; rintro e_ w_ ⟨rfl, hw_⟩; subst w_)
  go_ret
  exact ⟨rfl, _, _, _, _, rfl, HW2.out, HIV.out, HNX.out⟩
set_option maxRecDepth 100000 in
set_option maxHeartbeats 4000000 in
theorem step_2y {w0 w : World} {x t b g c b2 g2 c2 : Nat} {lv : Value} {A B : List Qe} {e : Qe} {s r : Wd} {N K : Int} (h : Wo w0 w x t b g c b2 g2 c2 lv (A ++ e :: B) s r) (iv : Iv s r N (A ++ e :: B) K) (hK : K + 4400000 < 4611686018427387904) (on word : Int) {n : Int} {ns : List Int} (hns : e.ns = n :: ns) (hon : (wrap64 (on.tmod ((A ++ e :: B).length : Int) + ((A ++ e :: B).length : Int))).tmod ((A ++ e :: B).length : Int) = (A.length : Int)) :
    Calls Try.prog 7 #[.pointer (some ⟨x, 0, none⟩), .agg #[.int .i64 2, .int .i64 on, .int .u64 word]] w fun er w' => er = .returned (.bool true) ∧ ∃ lv' E' s' r', E'.length = (A ++ e :: B).length ∧ Wo w0 w' x t b g c b2 g2 c2 lv' E' s' r' ∧ Iv s' r' N E' (K + 400000) ∧ nx s' = nx s := by
  obtain ⟨al, kl, hlv, hptr⟩ := h.ptr (i := A.length) (e := e) (by simp)
  obtain ⟨m, hm⟩ : ∃ m, (A ++ e :: B).length = m := ⟨_, rfl⟩
  have hjm : A.length < m := by rw [← hm]; simp
  rw [hm] at hlv hon
  subst hlv
  have hA := h.alloc (.cells #[.int .i64 2, .int .i64 on, .int .u64 word] 35)
  have heA := hA.es e (by simp)
  have cx0 := hA.x0
  have cx1 := hA.x1
  have cx2 := hA.x2
  have ct := hA.tw.tx.cell
  have ce0 := heA.c0
  have cp : (w.alloc (.cells #[.int .i64 2, .int .i64 on, .int .u64 word] 35)).cell? ⟨al, A.length, none⟩ = some (.pointer (some ⟨e.p, 0, none⟩)) := (World.cell?_of_block (Below.heap_alloc _ _ _ (World.block_lt_of_cell? _ _ hptr))).trans hptr
  have hm0 : (m : Int) ≠ 0 := by omega
  have hmj : (A.length : Int) < (m : Int) := by omega
  have HM := hid hm
  have HB0 := hid ((Keeps.refl (fun _ => False) w).alloc (.cells #[.int .i64 2, .int .i64 on, .int .u64 word] 35))
  have hobj : (w.alloc (.cells #[.int .i64 2, .int .i64 on, .int .u64 word] 35)).heap[w.heap.size]? = some (.cells #[.int .i64 2, .int .i64 on, .int .u64 word] 35 (0, 0)) := alloc_block w _
  have HNF : Hid (w.heap.size ∉ ftp x t b g b2 g2 (.slice (some ⟨al, 0, none⟩) m kl) (A ++ e :: B)) := hid (fun q => by have := h.lt _ q; omega)
  obtain ⟨x1, ws, s1, r1, qws, q1, q3, qn, _, qx, q2⟩ := iv.take1 hns
  have HE1 : Hid (_ = _) := q1
  have HG : Hid (_ = _) := q3
  have HIV := hid (fun vn vw => (q2 vn vw (by omega)).more (K' := K + 400000) (by omega) (by omega))
  have HNX := hid qx
  clear q1 q3 qx q2
  have HW := hid hA
  have hwe := iv.small.2.2.1
  have HSM := hid iv.small
  clear h iv hA heA hptr
  go_enter Try.func7, Try.ntmps7
  go_wp2_with fail
  go_quiet (fail)
  go_wp2_with fail
  have HT : Hid (∀ q, Calls Try.prog 23 #[.iface 24 (.pointer (some ⟨t, 0, none⟩)), .int .u64 0, .int .u64 e.a] ((w.alloc (.cells #[.int .i64 2, .int .i64 on, .int .u64 word] 35)).drewN q) fun r' w' => r' = .returned _ ∧ Tw w' t b g c s1 ∧ Keeps (two b g) ((w.alloc (.cells #[.int .i64 2, .int .i64 on, .int .u64 word] 35)).drewN q) w') := hid (fun q => qtake_r HE1 zero_isW hwe (HW.out.tw.drewN q))
  refine wp_region_segs [(true, 9), (false, 1), (true, 7)] (by kernel_rfl) (by kernel_rfl) ?_
  intro q0
  simp only [wpSeg, List.take_succ_cons, List.take_zero, List.drop_succ_cons, List.drop_zero]
  repeat (go_big_quiet_step (fail))
  refine wpQuiet_nil ?_
  intro _ hw'
  obtain ⟨q1, hw''⟩ := hw'
  subst hw''
  try simp only [World.drewN_drewN]
  intro K2 hK'
  go_wp2_with fail
  refine (HT.out _).mono ?_
  rintro e_ w1 ⟨rfl, h1, k1⟩
  have hW1 := (HW.out.drewN _).tx k1 h1
  have cy1 := hW1.x1
  have HW1 := hid (fun q => hW1.drewN q)
  clear HT h1 k1 HW HE1 hW1
  go_wp2_with fail
  repeat (go_big_quiet_step (fail))
  refine wpQuiet_nil ?_
  intro _ hw'
  obtain ⟨q2, hw''⟩ := hw'
  subst hw''
  try simp only [World.drewN_drewN]
  go_wp2_with fail
  have HW2 := hid (HW1.out q2)
  have he1 := HW2.out.es e (by simp)
  have sx1 := six_of HW2.out.nd
  have hd1 : ∀ i ∈ e.fp, ¬ two b2 g2 i := fun i hi q => (sx1.ed e (by simp) i hi).1 (by rcases q with rfl | rfl <;> simp)
  have hn1 : e.fp.Nodup := by have q := sx1.fm; rw [List.flatMap_append, List.flatMap_cons] at q; exact (List.nodup_append.1 (List.nodup_append.1 q).2.1).1
  refine (rqtake_one HG qn e hns qws _ HW2.out.rw he1 hd1 hn1).mono ?_
  rintro e_ w2 ⟨rfl, vn', vw', hE', hr', k2, en, ew⟩
  have HWF := hid (HW2.out.one (S := fun i => two b2 g2 i ∨ i = e.p) k2 (fun i q => by rcases q with q | q; exact .inl q; exact .inr (by rw [q]; exact List.mem_cons_self)) hr' hE' rfl (fun i hi => .inl (by unfold Qe.fp at hi ⊢; rw [en, ew] at hi; exact hi)) (by unfold Qe.fp at hn1 ⊢; rw [en, ew]; exact hn1))
  clear he1 sx1 hd1 hn1 hE' hr' k2 en ew HG
  go_wp2_with (go_at_call 16; refine (num_any _ _).mono ?_; rintro e_ w_ ⟨rfl, hw_⟩; subst w_)
  go_ret
  exact ⟨rfl, _, _, _, _, by simp, HWF.out, HIV.out _ _, HNX.out⟩
end Go.Proofs.Ytadbplbifjeghaa
