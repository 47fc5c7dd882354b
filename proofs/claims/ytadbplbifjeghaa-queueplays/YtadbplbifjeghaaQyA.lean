
/- The law's step, Put (layer 23). No statement of the seat is proved here. -/
import Derived.Test.YtadbplbifjeghaaQxK
import Derived.Test.YtadbplbifjeghaaQwF
import Derived.Test.YtadbplbifjeghaaASeg
import Derived.Test.YtadbplbifjeghaaQwE
namespace Go.Proofs.Ytadbplbifjeghaa
open Go.RowKit

theorem Iv.wlen {s r : Wd} {N K : Int} {E : List Qe} (h : Iv s r N E K) : s.W.length ≤ 1000 := by
  obtain ⟨bk, h1, _⟩ := h.ex
  have := h1.len
  have := h1.to1
  omega
theorem put_fp {e : Qe} {vn' vw' : Value} {a : Int} {ns ws : List Int} {n : Nat} (hlt : e.p < n) (hn : e.fp.Nodup) (h1 : ∀ i, vb vn' = some i → vb e.vn = some i ∨ n ≤ i) (h2 : ∀ i, vb vw' = some i → vb e.vw = some i ∨ n ≤ i) (h3 : ∀ i j, vb vn' = some i → vb vw' = some j → i ≠ j) :
    (∀ i ∈ Qe.fp ⟨e.p, vn', vw', a, ns, ws⟩, i ∈ e.fp ∨ n ≤ i) ∧ (Qe.fp ⟨e.p, vn', vw', a, ns, ws⟩).Nodup := by
  have hp := (List.nodup_cons.1 hn).1
  have hm : ∀ i, vb e.vn = some i → i ∈ e.fp := fun i q => List.mem_cons_of_mem _ (List.mem_append_left _ (by rw [q]; simp))
  have hw : ∀ i, vb e.vw = some i → i ∈ e.fp := fun i q => List.mem_cons_of_mem _ (List.mem_append_right _ (by rw [q]; simp))
  refine ⟨fun i hi => ?_, ?_⟩
  · rcases List.mem_cons.1 hi with rfl | hi
    · exact .inl List.mem_cons_self
    · rcases List.mem_append.1 hi with hi | hi
      · rcases h1 i (by simpa using hi) with q | q
        · exact .inl (hm i q)
        · exact .inr q
      · rcases h2 i (by simpa using hi) with q | q
        · exact .inl (hw i q)
        · exact .inr q
  · refine List.nodup_cons.2 ⟨fun hi => ?_, List.nodup_append.2 ⟨by cases vb vn' <;> simp, by cases vb vw' <;> simp, fun i hi j hj => h3 i j (by simpa using hi) (by simpa using hj)⟩⟩
    rcases List.mem_append.1 hi with hi | hi
    · rcases h1 _ (by simpa using hi) with q | q
      · exact hp (List.mem_append_left _ (by rw [q]; simp))
      · try dsimp only at q
        omega
    · rcases h2 _ (by simpa using hi) with q | q
      · exact hp (List.mem_append_right _ (by rw [q]; simp))
      · try dsimp only at q
        omega
set_option maxRecDepth 100000 in
set_option maxHeartbeats 4000000 in
theorem step_1 {w0 w : World} {x t b g c b2 g2 c2 : Nat} {lv : Value} {A B : List Qe} {e : Qe} {s r : Wd} {N K : Int} (h : Wo w0 w x t b g c b2 g2 c2 lv (A ++ e :: B) s r) (iv : Iv s r N (A ++ e :: B) K) (hK : K + 4400000 < 4611686018427387904) (on word : Int) (hword : isW word) (hon : (wrap64 (on.tmod ((A ++ e :: B).length : Int) + ((A ++ e :: B).length : Int))).tmod ((A ++ e :: B).length : Int) = (A.length : Int)) :
    Calls Try.prog 7 #[.pointer (some ⟨x, 0, none⟩), .agg #[.int .i64 1, .int .i64 on, .int .u64 word]] w fun er w' => er = .returned (.bool true) ∧ ∃ lv' E' s' r', E'.length = (A ++ e :: B).length ∧ Wo w0 w' x t b g c b2 g2 c2 lv' E' s' r' ∧ Iv s' r' N E' (K + 400000) ∧ nx s' ≤ nx s + 2 := by
  obtain ⟨al, kl, hlv, hptr⟩ := h.ptr (i := A.length) (e := e) (by simp)
  obtain ⟨m, hm⟩ : ∃ m, (A ++ e :: B).length = m := ⟨_, rfl⟩
  have hjm : A.length < m := by rw [← hm]; simp
  rw [hm] at hlv hon
  subst hlv
  have hA := h.alloc (.cells #[.int .i64 1, .int .i64 on, .int .u64 word] 35)
  have heA := hA.es e (by simp)
  have cx0 := hA.x0
  have cx1 := hA.x1
  have cx2 := hA.x2
  have ct := hA.tw.tx.cell
  have ce0 := heA.c0
  have cp : (w.alloc (.cells #[.int .i64 1, .int .i64 on, .int .u64 word] 35)).cell? ⟨al, A.length, none⟩ = some (.pointer (some ⟨e.p, 0, none⟩)) := (World.cell?_of_block (Below.heap_alloc _ _ _ (World.block_lt_of_cell? _ _ hptr))).trans hptr
  have hm0 : (m : Int) ≠ 0 := by omega
  have hmj : (A.length : Int) < (m : Int) := by omega
  have HM := hid hm
  have HB0 := hid ((Keeps.refl (fun _ => False) w).alloc (.cells #[.int .i64 1, .int .i64 on, .int .u64 word] 35))
  have hobj : (w.alloc (.cells #[.int .i64 1, .int .i64 on, .int .u64 word] 35)).heap[w.heap.size]? = some (.cells #[.int .i64 1, .int .i64 on, .int .u64 word] 35 (0, 0)) := alloc_block w _
  have HNF : Hid (w.heap.size ∉ ftp x t b g b2 g2 (.slice (some ⟨al, 0, none⟩) m kl) (A ++ e :: B)) := hid (fun q => by have := h.lt _ q; omega)
  have HLB : Hid (b < w.heap.size ∧ g < w.heap.size ∧ b2 < w.heap.size ∧ g2 < w.heap.size) := hid ⟨h.lt _ in_b, h.lt _ in_g, h.lt _ in_b2, h.lt _ in_g2⟩
  rcases iv.put (x := word) hword with ⟨s1, r1, q1, q3, qW, _, q2⟩ | ⟨a, s1, r1, q1, q3, qn, _, qx, q2⟩
  · have HE1 : Hid (_ = _) := q1
    have HG : Hid (_ = _) := q3
    have HIV := hid ((q2 (by omega)).more (K' := K + 400000) (by omega) (by omega))
    have HSW := hid qW
    have HNX : Hid (nx s1 ≤ nx s + 2) := hid (by show oat s1.W 0 ≤ oat s.W 0 + 2; rw [qW]; omega)
    clear q1 q3 qW q2
    have hwlen := iv.wlen
    have hwe := iv.small.2.2.1
    have hsm := iv.small
    have hA2 := hA
    clear h iv hA heA hptr
    go_enter Try.func7, Try.ntmps7
    go_wp2_with fail
    go_quiet (fail)
    have hX := hA2.drewN nq
    have cb := hA2.tw.wd.cell0
    obtain ⟨gc, cc, wC, hrun, hwr, hkC⟩ := app_copy ((w.alloc (.cells #[.int .i64 1, .int .i64 on, .int .u64 word] 35)).drewN nq) _ s.W hX.tw.wd.lies (by omega)
    have hszX : ((w.alloc (.cells #[.int .i64 1, .int .i64 on, .int .u64 word] 35)).drewN nq).heap.size = w.heap.size + 1 := by simp
    rw [hszX] at hrun hwr
    have HR : Hid (_ = _) := hrun
    have hC := hX.new hkC
    have hB := hX.alloc (.cells #[] 33)
    have eb0 := hB.x0
    have ebt := hB.tw.tx.cell
    have ebb := hB.tw.wd.cell0
    have dx0 := hC.x0
    have dx1 := hC.x1
    have dt := hC.tw.tx.cell
    have de0 := (hC.es e (by simp)).c0
    have hopC : wC.heap[w.heap.size]? = some (.cells #[.int .i64 1, .int .i64 on, .int .u64 word] 35 (0, 0)) := (hkC.block w.heap.size (by rw [hszX]; omega) (fun f => f)).trans hobj
    have do2 : wC.cell? ⟨w.heap.size, 2, none⟩ = some (.int .u64 word) := by rw [cell_of_block hopC]; rfl
    have HT : Hid (∀ q, Calls Try.prog 21 #[.iface 24 (.pointer (some ⟨t, 0, none⟩)), .int .u64 0, .int .u64 e.a, .int .u64 word] (wC.drewN q) fun r' w' => r' = .returned _ ∧ Tw w' t b g c s1 ∧ Keeps (two b g) (wC.drewN q) w') := hid (fun q => qpush_r HE1 zero_isW hwe hword (hC.tw.drewN q))
    have HC := hid (And.intro hC (And.intro hopC hwr))
    clear hX hA2 hrun hwr hkC hC hopC hobj hB
    go_wp2_with (at_builtin; refine wpList_append_run rfl _ _ 36 rfl rfl rfl HR.out ?_; clear HR)
    refine wp_region_segs [(true, 11), (false, 1), (true, 1)] (by kernel_rfl) (by kernel_rfl) ?_
    intro q0
    simp only [wpSeg, List.take_succ_cons, List.take_zero, List.drop_succ_cons, List.drop_zero]
    repeat (go_big_quiet_step (fail))
    refine wpQuiet_nil ?_
    intro _ hw'
    obtain ⟨p0, hw''⟩ := hw'
    subst hw''
    try simp only [World.drewN_drewN]
    intro K2 hK'
    go_wp2_with fail
    refine (HT.out _).mono ?_
    rintro e_ w1 ⟨rfl, h1, k1⟩
    have hW1 := (HC.out.1.drewN _).tx k1 h1
    have hbg := HC.out.1.lt b in_b
    have hgg := HC.out.1.lt g in_g
    have hnb : w.heap.size ≠ b := fun q => HNF.out (by rw [q]; exact in_b)
    have hng : w.heap.size ≠ g := fun q => HNF.out (by rw [q]; exact in_g)
    have hop1 : w1.heap[w.heap.size]? = some (.cells #[.int .i64 1, .int .i64 on, .int .u64 word] 35 (0, 0)) := (k1.block w.heap.size (lt_of_block HC.out.2.1) (fun q => by rcases q with q | q; exact hnb q; exact hng q)).trans HC.out.2.1
    have do2b : w1.cell? ⟨w.heap.size, 2, none⟩ = some (.int .u64 word) := by rw [cell_of_block hop1]; rfl
    have cy1 := hW1.x1
    have hwr1 : Wr w1 (w.heap.size + 1) (.slice (some ⟨gc, 0, none⟩) s.W.length cc) s.W := (HC.out.2.2.keeps ((Keeps.refl (fun _ => False) wC).drewN _) (fun _ f => f.elim)).keeps k1 (fun i q => by
      have hlb := HLB.out
      rcases q with q | q <;> omega)
    have HW1 := hid (fun q => hW1.drewN q)
    have HWR := hid (fun q => hwr1.keeps ((Keeps.refl (fun _ => False) w1).drewN q) (fun _ f => f.elim))
    clear HT h1 k1 HC HE1 hW1 hop1 hwr1 dx0 dx1 dt de0 do2
    go_wp2_with fail
    repeat (go_big_quiet_step (fail))
    refine wpQuiet_nil ?_
    intro _ hw'
    obtain ⟨p3, hw''⟩ := hw'
    subst hw''
    try simp only [World.drewN_drewN]
    go_wp2_with fail
    refine wp_region_segs [(true, 7), (false, 1), (true, 1)] (by kernel_rfl) (by kernel_rfl) ?_
    intro q5
    simp only [wpSeg, List.take_succ_cons, List.take_zero, List.drop_succ_cons, List.drop_zero]
    repeat (go_big_quiet_step (fail))
    refine wpQuiet_nil ?_
    intro _ hw'
    obtain ⟨p5, hw''⟩ := hw'
    subst hw''
    try simp only [World.drewN_drewN]
    intro K6 hK'
    go_wp2_with fail
    have sx1 := six_of (HW1.out 0).nd
    have hd1 : ∀ i ∈ e.fp, ¬ two b2 g2 i := fun i hi q => (sx1.ed e (by simp) i hi).1 (by rcases q with rfl | rfl <;> simp)
    have hn1 : e.fp.Nodup := by have q := sx1.fm; rw [List.flatMap_append, List.flatMap_cons] at q; exact (List.nodup_append.1 (List.nodup_append.1 q).2.1).1
    refine (rqput_any HG e word _ (HW1.out _).rw ((HW1.out _).es e (by simp)) hd1 hn1 (by have q1 := hsm.1; have q2 := hsm.2.1; omega)).mono ?_
    rintro e_ w2 ⟨rfl, hok, hno⟩
    obtain ⟨hr', _, k2⟩ := hno (by decide)
    have hWF := (HW1.out _).rf k2 hr'
    have cz0 := hWF.x0
    have czt := hWF.tw.tx.cell
    have czb := hWF.tw.wd.cell0
    rw [HSW.out] at czb
    have hlw := HLB.out
    have hwrF : Wr w2 (w.heap.size + 1) (.slice (some ⟨gc, 0, none⟩) s.W.length cc) s.W := (HWR.out _).keeps k2 (fun i q => by
      rcases q with q | q <;> omega)
    have hlF := hWF.tw.wd.lies
    rw [HSW.out] at hlF
    have HWS : Hid (∀ q, Calls Try.prog 9 #[.slice (some ⟨gc, 0, none⟩) s.W.length cc, .slice (some ⟨g, 0, none⟩) s.W.length c] (w2.drewN q) fun e w' => e = .returned (.bool true) ∧ ∃ m, w' = (w2.drewN q).drewN m) := hid (fun q => words_same _ _ s.W (by omega) (w2.drewN q) (hwrF.lies.keeps ((Keeps.refl (fun _ => False) w2).drewN q) (fun _ _ _ _ f => f)) (hlF.keeps ((Keeps.refl (fun _ => False) w2).drewN q) (fun _ _ _ _ f => f)))
    have HWF := hid (fun q => hWF.drewN q)
    clear hok hno sx1 hd1 hn1 hr' k2 hWF HG HWR HW1 hwrF hlF
    go_wp2_with fail
    repeat (go_big_quiet_step (fail))
    refine wpQuiet_nil ?_
    intro _ hw'
    obtain ⟨p7, hw''⟩ := hw'
    subst hw''
    try simp only [World.drewN_drewN]
    go_wp2_with (first | (go_at_call 16; refine (num_any _ _).mono ?_; rintro e_ w_ ⟨rfl, hw_⟩; subst w_) | (go_at_call 9; refine (HWS.out _).mono ?_; rintro e_ w3 ⟨rfl, m3, hw3⟩; subst hw3))
    try simp only [World.drewN_drewN]
    go_ret
    exact ⟨rfl, _, _, _, _, rfl, HWF.out _, HIV.out, HNX.out⟩
  · have HE1 : Hid (_ = _) := q1
    have HG : Hid (_ = _) := q3
    have HIV := hid (fun vn vw => (q2 vn vw (by omega)).more (K' := K + 400000) (by omega) (by omega))
    have HNX := hid qx
    clear q1 q3 qx q2
    have hwlen := iv.wlen
    have hwe := iv.small.2.2.1
    have hsm := iv.small
    have hA2 := hA
    clear h iv hA heA hptr
    go_enter Try.func7, Try.ntmps7
    go_wp2_with fail
    go_quiet (fail)
    have hX := hA2.drewN nq
    have cb := hA2.tw.wd.cell0
    obtain ⟨gc, cc, wC, hrun, hwr, hkC⟩ := app_copy ((w.alloc (.cells #[.int .i64 1, .int .i64 on, .int .u64 word] 35)).drewN nq) _ s.W hX.tw.wd.lies (by omega)
    have hszX : ((w.alloc (.cells #[.int .i64 1, .int .i64 on, .int .u64 word] 35)).drewN nq).heap.size = w.heap.size + 1 := by simp
    rw [hszX] at hrun hwr
    have HR : Hid (_ = _) := hrun
    have hC := hX.new hkC
    have hB := hX.alloc (.cells #[] 33)
    have eb0 := hB.x0
    have ebt := hB.tw.tx.cell
    have ebb := hB.tw.wd.cell0
    have dx0 := hC.x0
    have dx1 := hC.x1
    have dt := hC.tw.tx.cell
    have de0 := (hC.es e (by simp)).c0
    have hopC : wC.heap[w.heap.size]? = some (.cells #[.int .i64 1, .int .i64 on, .int .u64 word] 35 (0, 0)) := (hkC.block w.heap.size (by rw [hszX]; omega) (fun f => f)).trans hobj
    have do2 : wC.cell? ⟨w.heap.size, 2, none⟩ = some (.int .u64 word) := by rw [cell_of_block hopC]; rfl
    have HT : Hid (∀ q, Calls Try.prog 21 #[.iface 24 (.pointer (some ⟨t, 0, none⟩)), .int .u64 0, .int .u64 e.a, .int .u64 word] (wC.drewN q) fun r' w' => r' = .returned _ ∧ Tw w' t b g c s1 ∧ Keeps (two b g) (wC.drewN q) w') := hid (fun q => qpush_r HE1 zero_isW hwe hword (hC.tw.drewN q))
    have HC := hid (And.intro hC (And.intro hopC hwr))
    clear hX hA2 hrun hwr hkC hC hopC hobj hB
    go_wp2_with (at_builtin; refine wpList_append_run rfl _ _ 36 rfl rfl rfl HR.out ?_; clear HR)
    refine wp_region_segs [(true, 11), (false, 1), (true, 1)] (by kernel_rfl) (by kernel_rfl) ?_
    intro q0
    simp only [wpSeg, List.take_succ_cons, List.take_zero, List.drop_succ_cons, List.drop_zero]
    repeat (go_big_quiet_step (fail))
    refine wpQuiet_nil ?_
    intro _ hw'
    obtain ⟨p0, hw''⟩ := hw'
    subst hw''
    try simp only [World.drewN_drewN]
    intro K2 hK'
    go_wp2_with fail
    refine (HT.out _).mono ?_
    rintro e_ w1 ⟨rfl, h1, k1⟩
    have hW1 := (HC.out.1.drewN _).tx k1 h1
    have hbg := HC.out.1.lt b in_b
    have hgg := HC.out.1.lt g in_g
    have hnb : w.heap.size ≠ b := fun q => HNF.out (by rw [q]; exact in_b)
    have hng : w.heap.size ≠ g := fun q => HNF.out (by rw [q]; exact in_g)
    have hop1 : w1.heap[w.heap.size]? = some (.cells #[.int .i64 1, .int .i64 on, .int .u64 word] 35 (0, 0)) := (k1.block w.heap.size (lt_of_block HC.out.2.1) (fun q => by rcases q with q | q; exact hnb q; exact hng q)).trans HC.out.2.1
    have do2b : w1.cell? ⟨w.heap.size, 2, none⟩ = some (.int .u64 word) := by rw [cell_of_block hop1]; rfl
    have cy1 := hW1.x1
    have hwr1 : Wr w1 (w.heap.size + 1) (.slice (some ⟨gc, 0, none⟩) s.W.length cc) s.W := (HC.out.2.2.keeps ((Keeps.refl (fun _ => False) wC).drewN _) (fun _ f => f.elim)).keeps k1 (fun i q => by
      have hlb := HLB.out
      rcases q with q | q <;> omega)
    have HW1 := hid (fun q => hW1.drewN q)
    have HWR := hid (fun q => hwr1.keeps ((Keeps.refl (fun _ => False) w1).drewN q) (fun _ f => f.elim))
    clear HT h1 k1 HC HE1 hW1 hop1 hwr1 dx0 dx1 dt de0 do2
    go_wp2_with fail
    repeat (go_big_quiet_step (fail))
    refine wpQuiet_nil ?_
    intro _ hw'
    obtain ⟨p3, hw''⟩ := hw'
    subst hw''
    try simp only [World.drewN_drewN]
    go_wp2_with fail
    refine wp_region_segs [(true, 7), (false, 1), (true, 1)] (by kernel_rfl) (by kernel_rfl) ?_
    intro q5
    simp only [wpSeg, List.take_succ_cons, List.take_zero, List.drop_succ_cons, List.drop_zero]
    repeat (go_big_quiet_step (fail))
    refine wpQuiet_nil ?_
    intro _ hw'
    obtain ⟨p5, hw''⟩ := hw'
    subst hw''
    try simp only [World.drewN_drewN]
    intro K6 hK'
    go_wp2_with fail
    have sx1 := six_of (HW1.out 0).nd
    have hd1 : ∀ i ∈ e.fp, ¬ two b2 g2 i := fun i hi q => (sx1.ed e (by simp) i hi).1 (by rcases q with rfl | rfl <;> simp)
    have hn1 : e.fp.Nodup := by have q := sx1.fm; rw [List.flatMap_append, List.flatMap_cons] at q; exact (List.nodup_append.1 (List.nodup_append.1 q).2.1).1
    refine (rqput_any HG e word _ (HW1.out _).rw ((HW1.out _).es e (by simp)) hd1 hn1 (by have q1 := hsm.1; have q2 := hsm.2.1; omega)).mono ?_
    rintro e_ w2 ⟨rfl, hok, hno⟩
    obtain ⟨vn', vw', hE', hr', k2, f1, f2, f3⟩ := hok rfl
    have hpf := put_fp (a := e.a) (ns := e.ns ++ [a]) (ws := e.ws ++ [word]) ((HW1.out _).lt _ (in_e (e := e) (by simp) List.mem_cons_self)) hn1 f1 f2 f3
    have hWF := (HW1.out _).one k2 (fun i q => q) hr' hE' rfl hpf.1 hpf.2
    have HWF := hid (fun q => hWF.drewN q)
    clear hok hno sx1 hd1 hn1 hE' hr' k2 f1 f2 f3 hpf hWF HG HWR HW1
    go_wp2_with fail
    repeat (go_big_quiet_step (fail))
    refine wpQuiet_nil ?_
    intro _ hw'
    obtain ⟨p7, hw''⟩ := hw'
    subst hw''
    try simp only [World.drewN_drewN]
    go_wp2_with (go_at_call 16; refine (num_any _ _).mono ?_; rintro e_ w_ ⟨rfl, hw_⟩; subst w_)
    go_ret
    exact ⟨rfl, _, _, _, _, by simp, HWF.out _, HIV.out _ _, HNX.out⟩
end Go.Proofs.Ytadbplbifjeghaa
