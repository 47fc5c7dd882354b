
/- The law's step, First and Len (layer 23). No statement of the seat is proved here. -/
import Derived.Test.YtadbplbifjeghaaQxK
import Derived.Test.YtadbplbifjeghaaQwF
import Derived.Test.YtadbplbifjeghaaASeg
import Derived.Test.YtadbplbifjeghaaQwE
namespace Go.Proofs.Ytadbplbifjeghaa
open Go.RowKit

set_option maxRecDepth 100000 in
set_option maxHeartbeats 4000000 in
theorem step_3n {w0 w : World} {x t b g c b2 g2 c2 : Nat} {lv : Value} {A B : List Qe} {e : Qe} {s r : Wd} {N K : Int} (h : Wo w0 w x t b g c b2 g2 c2 lv (A ++ e :: B) s r) (iv : Iv s r N (A ++ e :: B) K) (hK : K + 4400000 < 4611686018427387904) (on word : Int) (hns : e.ns = []) (hon : (wrap64 (on.tmod ((A ++ e :: B).length : Int) + ((A ++ e :: B).length : Int))).tmod ((A ++ e :: B).length : Int) = (A.length : Int)) :
    Calls Try.prog 7 #[.pointer (some ⟨x, 0, none⟩), .agg #[.int .i64 3, .int .i64 on, .int .u64 word]] w fun er w' => er = .returned (.bool true) ∧ ∃ s', Wo w0 w' x t b g c b2 g2 c2 lv (A ++ e :: B) s' r ∧ Iv s' r N (A ++ e :: B) (K + 400000) := by
  obtain ⟨al, kl, hlv, hptr⟩ := h.ptr (i := A.length) (e := e) (by simp)
  obtain ⟨m, hm⟩ : ∃ m, (A ++ e :: B).length = m := ⟨_, rfl⟩
  have hjm : A.length < m := by rw [← hm]; simp
  rw [hm] at hlv hon
  subst hlv
  have hA := h.alloc (.cells #[.int .i64 3, .int .i64 on, .int .u64 word] 35)
  have heA := hA.es e (by simp)
  have cx0 := hA.x0
  have cx1 := hA.x1
  have cx2 := hA.x2
  have ct := hA.tw.tx.cell
  have ce0 := heA.c0
  have cp : (w.alloc (.cells #[.int .i64 3, .int .i64 on, .int .u64 word] 35)).cell? ⟨al, A.length, none⟩ = some (.pointer (some ⟨e.p, 0, none⟩)) := (World.cell?_of_block (Below.heap_alloc _ _ _ (World.block_lt_of_cell? _ _ hptr))).trans hptr
  have hm0 : (m : Int) ≠ 0 := by omega
  have hmj : (A.length : Int) < (m : Int) := by omega
  have HM := hid hm
  have HB0 := hid ((Keeps.refl (fun _ => False) w).alloc (.cells #[.int .i64 3, .int .i64 on, .int .u64 word] 35))
  have hobj : (w.alloc (.cells #[.int .i64 3, .int .i64 on, .int .u64 word] 35)).heap[w.heap.size]? = some (.cells #[.int .i64 3, .int .i64 on, .int .u64 word] 35 (0, 0)) := alloc_block w _
  have HNF : Hid (w.heap.size ∉ ftp x t b g b2 g2 (.slice (some ⟨al, 0, none⟩) m kl) (A ++ e :: B)) := hid (fun q => by have := h.lt _ q; omega)
  obtain ⟨s1, q1, qW, q2⟩ := iv.first
  have HIV := hid ((q2 (by omega)).more (K' := K + 400000) (by omega) (by omega))
  have hws : e.ws = [] := List.eq_nil_of_length_eq_zero (by rw [iv.small.2.1, hns]; rfl)
  rw [hws, hns] at q1
  have HE1 : Hid (Wd.qfirst e.a s = (((0, false), 0), s1)) := hid q1
  clear q1 qW q2
  have HW := hid hA
  have hwe := iv.small.2.2.1
  have HSM := hid iv.small
  clear h iv hA heA hptr
  go_enter Try.func7, Try.ntmps7
  go_wp2_with fail
  go_quiet (fail)
  go_wp2_with fail
  have HT : Hid (∀ q, Calls Try.prog 25 #[.iface 24 (.pointer (some ⟨t, 0, none⟩)), .int .u64 e.a] ((w.alloc (.cells #[.int .i64 3, .int .i64 on, .int .u64 word] 35)).drewN q) fun r' w' => r' = .returned _ ∧ Tw w' t b g c s1 ∧ Keeps (two b g) ((w.alloc (.cells #[.int .i64 3, .int .i64 on, .int .u64 word] 35)).drewN q) w') := hid (fun q => qfirst_r HE1 hwe (HW.out.tw.drewN q))
  refine wp_region_segs [(true, 9), (false, 1), (true, 7)] (by kernel_rfl) (by kernel_rfl) ?_
  intro q0
  simp only [wpSeg, List.take_succ_cons, List.take_zero, List.drop_succ_cons, List.drop_zero]
  repeat (go_big_quiet_step (fail))
  refine wpQuiet_nil ?_
  intro _ hw'
  obtain ⟨q1, hw''⟩ := hw'
  subst hw''
  try simp only [World.drewN_drewN]
  intro K2 hK'
  go_wp2_with fail
  refine (HT.out _).mono ?_
  rintro e_ w1 ⟨rfl, h1, k1⟩
  have hW1 := (HW.out.drewN _).tx k1 h1
  have HW1 := hid (fun q => hW1.drewN q)
  clear HT h1 k1 HW HE1 hW1
  go_wp2_with fail
  repeat (go_big_quiet_step (fail))
  refine wpQuiet_nil ?_
  intro _ hw'
  obtain ⟨q2, hw''⟩ := hw'
  subst hw''
  try simp only [World.drewN_drewN]
  have HW2 := hid (HW1.out q2)
  have he1 := HW2.out.es e (by simp)
  have ce2 := he1.c2
  obtain ⟨aw, kw, hvw⟩ := he1.rw.form
  rw [hws] at hvw
  rw [hvw, List.length_nil] at ce2
  clear he1
  go_wp2_with (go_at_call 16; refine (num_any _ _).mono ?_; rintro e_ w_ ⟨rfl, hw_⟩; subst w_)
  go_ret
  exact ⟨rfl, _, HW2.out, HIV.out⟩
set_option maxRecDepth 100000 in
set_option maxHeartbeats 4000000 in
theorem step_3y {w0 w : World} {x t b g c b2 g2 c2 : Nat} {lv : Value} {A B : List Qe} {e : Qe} {s r : Wd} {N K : Int} (h : Wo w0 w x t b g c b2 g2 c2 lv (A ++ e :: B) s r) (iv : Iv s r N (A ++ e :: B) K) (hK : K + 4400000 < 4611686018427387904) (on word : Int) {n : Int} {ns : List Int} (hns : e.ns = n :: ns) (hon : (wrap64 (on.tmod ((A ++ e :: B).length : Int) + ((A ++ e :: B).length : Int))).tmod ((A ++ e :: B).length : Int) = (A.length : Int)) :
    Calls Try.prog 7 #[.pointer (some ⟨x, 0, none⟩), .agg #[.int .i64 3, .int .i64 on, .int .u64 word]] w fun er w' => er = .returned (.bool true) ∧ ∃ s', Wo w0 w' x t b g c b2 g2 c2 lv (A ++ e :: B) s' r ∧ Iv s' r N (A ++ e :: B) (K + 400000) := by
  obtain ⟨al, kl, hlv, hptr⟩ := h.ptr (i := A.length) (e := e) (by simp)
  obtain ⟨m, hm⟩ : ∃ m, (A ++ e :: B).length = m := ⟨_, rfl⟩
  have hjm : A.length < m := by rw [← hm]; simp
  rw [hm] at hlv hon
  subst hlv
  have hA := h.alloc (.cells #[.int .i64 3, .int .i64 on, .int .u64 word] 35)
  have heA := hA.es e (by simp)
  have cx0 := hA.x0
  have cx1 := hA.x1
  have cx2 := hA.x2
  have ct := hA.tw.tx.cell
  have ce0 := heA.c0
  have cp : (w.alloc (.cells #[.int .i64 3, .int .i64 on, .int .u64 word] 35)).cell? ⟨al, A.length, none⟩ = some (.pointer (some ⟨e.p, 0, none⟩)) := (World.cell?_of_block (Below.heap_alloc _ _ _ (World.block_lt_of_cell? _ _ hptr))).trans hptr
  have hm0 : (m : Int) ≠ 0 := by omega
  have hmj : (A.length : Int) < (m : Int) := by omega
  have HM := hid hm
  have HB0 := hid ((Keeps.refl (fun _ => False) w).alloc (.cells #[.int .i64 3, .int .i64 on, .int .u64 word] 35))
  have hobj : (w.alloc (.cells #[.int .i64 3, .int .i64 on, .int .u64 word] 35)).heap[w.heap.size]? = some (.cells #[.int .i64 3, .int .i64 on, .int .u64 word] 35 (0, 0)) := alloc_block w _
  have HNF : Hid (w.heap.size ∉ ftp x t b g b2 g2 (.slice (some ⟨al, 0, none⟩) m kl) (A ++ e :: B)) := hid (fun q => by have := h.lt _ q; omega)
  obtain ⟨s1, q1, qW, q2⟩ := iv.first
  have HIV := hid ((q2 (by omega)).more (K' := K + 400000) (by omega) (by omega))
  obtain ⟨y, ws, hws⟩ : ∃ y ws, e.ws = y :: ws := by
    cases hq : e.ws with
    | nil => have := iv.small.2.1; rw [hq, hns] at this; simp at this
    | cons y ws => exact ⟨y, ws, rfl⟩
  rw [hws, hns] at q1
  have HE1 : Hid (Wd.qfirst e.a s = (((y, true), 0), s1)) := hid q1
  clear q1 qW q2
  have HW := hid hA
  have hwe := iv.small.2.2.1
  have HSM := hid iv.small
  clear h iv hA heA hptr
  go_enter Try.func7, Try.ntmps7
  go_wp2_with fail
  go_quiet (fail)
  go_wp2_with fail
  have HT : Hid (∀ q, Calls Try.prog 25 #[.iface 24 (.pointer (some ⟨t, 0, none⟩)), .int .u64 e.a] ((w.alloc (.cells #[.int .i64 3, .int .i64 on, .int .u64 word] 35)).drewN q) fun r' w' => r' = .returned _ ∧ Tw w' t b g c s1 ∧ Keeps (two b g) ((w.alloc (.cells #[.int .i64 3, .int .i64 on, .int .u64 word] 35)).drewN q) w') := hid (fun q => qfirst_r HE1 hwe (HW.out.tw.drewN q))
  refine wp_region_segs [(true, 9), (false, 1), (true, 7)] (by kernel_rfl) (by kernel_rfl) ?_
  intro q0
  simp only [wpSeg, List.take_succ_cons, List.take_zero, List.drop_succ_cons, List.drop_zero]
  repeat (go_big_quiet_step (fail))
  refine wpQuiet_nil ?_
  intro _ hw'
  obtain ⟨q1, hw''⟩ := hw'
  subst hw''
  try simp only [World.drewN_drewN]
  intro K2 hK'
  go_wp2_with fail
  refine (HT.out _).mono ?_
  rintro e_ w1 ⟨rfl, h1, k1⟩
  have hW1 := (HW.out.drewN _).tx k1 h1
  have HW1 := hid (fun q => hW1.drewN q)
  clear HT h1 k1 HW HE1 hW1
  go_wp2_with fail
  repeat (go_big_quiet_step (fail))
  refine wpQuiet_nil ?_
  intro _ hw'
  obtain ⟨q2, hw''⟩ := hw'
  subst hw''
  try simp only [World.drewN_drewN]
  have HW2 := hid (HW1.out q2)
  have he1 := HW2.out.es e (by simp)
  have ce2 := he1.c2
  have hrw := he1.rw
  rw [hws] at hrw
  obtain ⟨gw, ow, cw, hvw, _, cw0, _⟩ := hrw.cut
  rw [hvw] at ce2
  have hl0 : ((ws.length + 1 : Nat) : Int) > 0 := by omega
  have hl1 : 0 < ws.length + 1 := by omega
  clear he1 hrw
  go_wp2_with (go_at_call 16; refine (num_any _ _).mono ?_; rintro e_ w_ ⟨rfl, hw_⟩; subst w_)
  go_ret
  exact ⟨rfl, _, HW2.out, HIV.out⟩
set_option maxRecDepth 100000 in
set_option maxHeartbeats 4000000 in
theorem step_4 {w0 w : World} {x t b g c b2 g2 c2 : Nat} {lv : Value} {A B : List Qe} {e : Qe} {s r : Wd} {N K : Int} (h : Wo w0 w x t b g c b2 g2 c2 lv (A ++ e :: B) s r) (iv : Iv s r N (A ++ e :: B) K) (hK : K + 4400000 < 4611686018427387904) (on word : Int) (hon : (wrap64 (on.tmod ((A ++ e :: B).length : Int) + ((A ++ e :: B).length : Int))).tmod ((A ++ e :: B).length : Int) = (A.length : Int)) :
    Calls Try.prog 7 #[.pointer (some ⟨x, 0, none⟩), .agg #[.int .i64 4, .int .i64 on, .int .u64 word]] w fun er w' => er = .returned (.bool true) ∧ ∃ s', Wo w0 w' x t b g c b2 g2 c2 lv (A ++ e :: B) s' r ∧ Iv s' r N (A ++ e :: B) (K + 400000) := by
  obtain ⟨al, kl, hlv, hptr⟩ := h.ptr (i := A.length) (e := e) (by simp)
  obtain ⟨m, hm⟩ : ∃ m, (A ++ e :: B).length = m := ⟨_, rfl⟩
  have hjm : A.length < m := by rw [← hm]; simp
  rw [hm] at hlv hon
  subst hlv
  have hA := h.alloc (.cells #[.int .i64 4, .int .i64 on, .int .u64 word] 35)
  have heA := hA.es e (by simp)
  have cx0 := hA.x0
  have cx1 := hA.x1
  have cx2 := hA.x2
  have ct := hA.tw.tx.cell
  have ce0 := heA.c0
  have cp : (w.alloc (.cells #[.int .i64 4, .int .i64 on, .int .u64 word] 35)).cell? ⟨al, A.length, none⟩ = some (.pointer (some ⟨e.p, 0, none⟩)) := (World.cell?_of_block (Below.heap_alloc _ _ _ (World.block_lt_of_cell? _ _ hptr))).trans hptr
  have hm0 : (m : Int) ≠ 0 := by omega
  have hmj : (A.length : Int) < (m : Int) := by omega
  have HM := hid hm
  have HB0 := hid ((Keeps.refl (fun _ => False) w).alloc (.cells #[.int .i64 4, .int .i64 on, .int .u64 word] 35))
  have hobj : (w.alloc (.cells #[.int .i64 4, .int .i64 on, .int .u64 word] 35)).heap[w.heap.size]? = some (.cells #[.int .i64 4, .int .i64 on, .int .u64 word] 35 (0, 0)) := alloc_block w _
  have HNF : Hid (w.heap.size ∉ ftp x t b g b2 g2 (.slice (some ⟨al, 0, none⟩) m kl) (A ++ e :: B)) := hid (fun q => by have := h.lt _ q; omega)
  obtain ⟨s1, q1, qW, q2⟩ := iv.len
  have HIV := hid ((q2 (by omega)).more (K' := K + 400000) (by omega) (by omega))
  have hnl := iv.small.2.1
  have hl0 := iv.small.1
  have HE1 : Hid (_ = _) := q1
  clear q1 qW q2
  have HW := hid hA
  have hwe := iv.small.2.2.1
  have HSM := hid iv.small
  clear h iv hA heA hptr
  go_enter Try.func7, Try.ntmps7
  go_wp2_with fail
  go_quiet (fail)
  go_wp2_with fail
  have HT : Hid (∀ q, Calls Try.prog 26 #[.iface 24 (.pointer (some ⟨t, 0, none⟩)), .int .u64 e.a] ((w.alloc (.cells #[.int .i64 4, .int .i64 on, .int .u64 word] 35)).drewN q) fun r' w' => r' = .returned _ ∧ Tw w' t b g c s1 ∧ Keeps (two b g) ((w.alloc (.cells #[.int .i64 4, .int .i64 on, .int .u64 word] 35)).drewN q) w') := hid (fun q => qlen_r HE1 (HW.out.tw.drewN q))
  refine wp_region_segs [(true, 9), (false, 1), (true, 5)] (by kernel_rfl) (by kernel_rfl) ?_
  intro q0
  simp only [wpSeg, List.take_succ_cons, List.take_zero, List.drop_succ_cons, List.drop_zero]
  repeat (go_big_quiet_step (fail))
  refine wpQuiet_nil ?_
  intro _ hw'
  obtain ⟨q1, hw''⟩ := hw'
  subst hw''
  try simp only [World.drewN_drewN]
  intro K2 hK'
  go_wp2_with fail
  refine (HT.out _).mono ?_
  rintro e_ w1 ⟨rfl, h1, k1⟩
  have hW1 := (HW.out.drewN _).tx k1 h1
  have HW1 := hid (fun q => hW1.drewN q)
  clear HT h1 k1 HW HE1 hW1
  go_wp2_with fail
  repeat (go_big_quiet_step (fail))
  refine wpQuiet_nil ?_
  intro _ hw'
  obtain ⟨q2, hw''⟩ := hw'
  subst hw''
  try simp only [World.drewN_drewN]
  have HW2 := hid (HW1.out q2)
  have he1 := HW2.out.es e (by simp)
  have ce2 := he1.c2
  obtain ⟨aw, kw, hvw⟩ := he1.rw.form
  rw [hvw, hnl] at ce2
  have hwc : IntKind.u64.wrap ((e.ns.length : Nat) : Int) = (e.ns.length : Int) := by rw [IntKind.wrap_u64]; omega
  clear he1
  go_wp2_with (go_at_call 16; refine (num_any _ _).mono ?_; rintro e_ w_ ⟨rfl, hw_⟩; subst w_)
  go_ret
  exact ⟨rfl, _, HW2.out, HIV.out⟩
end Go.Proofs.Ytadbplbifjeghaa
