
/- The law's step, Words (layer 23). No statement of the seat is proved here. -/
import Derived.Test.YtadbplbifjeghaaQxK
import Derived.Test.YtadbplbifjeghaaQwF
import Derived.Test.YtadbplbifjeghaaASeg
import Derived.Test.YtadbplbifjeghaaQwE
import Derived.Test.YtadbplbifjeghaaApqM
namespace Go.Proofs.Ytadbplbifjeghaa
open Go.RowKit

/-- Two lists in one row. -/
theorem apart_two (a1 a2 : Option Addr) (L n1 n2 : Nat) (ws : List Int) (hL : ws.length = L) (hl : L ≤ 900000) (w : World) (h1 : Wr w 0 (.slice a1 L n1) ws) (h2 : Wr w 0 (.slice a2 L n2) ws) (hs : ∀ i, (Value.slice a1 L n1).ownBlock = some i → (Value.slice a2 L n2).ownBlock ≠ some i) (q : Nat) :
    Calls Try.prog 27 #[.slice (some ⟨w.heap.size, 0, none⟩) 2 2] ((w.drewN q).alloc (.cells #[.slice a1 L n1, .slice a2 L n2] 36)) fun e w' => e = .returned (.bool true) ∧ Keeps (fun i => (Value.slice a1 L n1).ownBlock = some i ∨ (Value.slice a2 L n2).ownBlock = some i) ((w.drewN q).alloc (.cells #[.slice a1 L n1, .slice a2 L n2] 36)) w' := by
  have kA : Keeps (fun _ => False) w ((w.drewN q).alloc (.cells #[.slice a1 L n1, .slice a2 L n2] 36)) := ((Keeps.refl _ w).drewN q).alloc _
  have hb := alloc_block (w.drewN q) (.cells #[.slice a1 L n1, .slice a2 L n2] 36)
  have hc : ∀ (i : Nat) (v : Value) (n : Nat), ([(.slice a1 L n1, L), (.slice a2 L n2, L)] : Tq)[i]? = some (v, n) → (i = 0 ∧ v = .slice a1 L n1 ∧ n = L) ∨ (i = 1 ∧ v = .slice a2 L n2 ∧ n = L) := fun i v n h => by
    match i, h with
    | 0, h => cases h; exact .inl ⟨rfl, rfl, rfl⟩
    | 1, h => cases h; exact .inr ⟨rfl, rfl, rfl⟩
    | i + 2, h => simp at h
  have hon : ∀ i, Tq.on [(.slice a1 L n1, L), (.slice a2 L n2, L)] i → (Value.slice a1 L n1).ownBlock = some i ∨ (Value.slice a2 L n2).ownBlock = some i := fun i hi => by
    obtain ⟨j, v, n, h, e⟩ := hi
    rcases hc j v n h with ⟨_, rfl, _⟩ | ⟨_, rfl, _⟩
    · exact .inl e
    · exact .inr e
  have hlt : ∀ i, Tq.on [(.slice a1 L n1, L), (.slice a2 L n2, L)] i → i < w.heap.size := fun i hi => by
    rcases hon i hi with e | e
    · exact (own_block h1 e).1
    · exact (own_block h2 e).1
  refine (apart_wr (.slice (some ⟨w.heap.size, 0, none⟩) 2 2) [(.slice a1 L n1, L), (.slice a2 L n2, L)] _ ⟨fun i j v v' n n' g hi hj e1 e2 => ?_, fun i v n hi => ?_, by simp⟩ (fun j v n hj => ?_) ⟨some ⟨w.heap.size, 0, none⟩, 2, rfl, fun i v n hi => ⟨w.heap.size, rfl, ?_, fun q => by have := hlt _ q; omega⟩⟩).mono fun e w' ⟨h1, h2⟩ => ⟨h1, h2.mono fun i _ hi => hon i hi⟩
  · rcases hc i v n hi with ⟨rfl, rfl, _⟩ | ⟨rfl, rfl, _⟩ <;> rcases hc j v' n' hj with ⟨rfl, rfl, _⟩ | ⟨rfl, rfl, _⟩
    · rfl
    · exact absurd e2 (hs g e1)
    · exact absurd e1 (hs g e2)
    · rfl
  · rcases hc i v n hi with ⟨_, _, rfl⟩ | ⟨_, _, rfl⟩ <;> exact hl
  · rcases hc j v n hj with ⟨_, rfl, rfl⟩ | ⟨_, rfl, rfl⟩
    · exact ⟨ws, hL, own_keeps h1 kA (fun _ _ f => f)⟩
    · exact ⟨ws, hL, own_keeps h2 kA (fun _ _ f => f)⟩
  · rcases hc i v n hi with ⟨rfl, rfl, _⟩ | ⟨rfl, rfl, _⟩
    · exact cell_of_block hb 0
    · exact cell_of_block hb 1
set_option maxRecDepth 100000 in
set_option maxHeartbeats 4000000 in
theorem step_5 {w0 w : World} {x t b g c b2 g2 c2 : Nat} {lv : Value} {A B : List Qe} {e : Qe} {s r : Wd} {N K : Int} (h : Wo w0 w x t b g c b2 g2 c2 lv (A ++ e :: B) s r) (iv : Iv s r N (A ++ e :: B) K) (hK : K + 4400000 < 4611686018427387904) (on word : Int) (hon : (wrap64 (on.tmod ((A ++ e :: B).length : Int) + ((A ++ e :: B).length : Int))).tmod ((A ++ e :: B).length : Int) = (A.length : Int)) :
    Calls Try.prog 7 #[.pointer (some ⟨x, 0, none⟩), .agg #[.int .i64 5, .int .i64 on, .int .u64 word]] w fun er w' => er = .returned (.bool true) ∧ ∃ s', Wo w0 w' x t b g c b2 g2 c2 lv (A ++ e :: B) s' r ∧ Iv s' r N (A ++ e :: B) (K + 400000) := by
  obtain ⟨al, kl, hlv, hptr⟩ := h.ptr (i := A.length) (e := e) (by simp)
  obtain ⟨m, hm⟩ : ∃ m, (A ++ e :: B).length = m := ⟨_, rfl⟩
  have hjm : A.length < m := by rw [← hm]; simp
  rw [hm] at hlv hon
  subst hlv
  have hA := h.alloc (.cells #[.int .i64 5, .int .i64 on, .int .u64 word] 35)
  have heA := hA.es e (by simp)
  have cx0 := hA.x0
  have cx1 := hA.x1
  have cx2 := hA.x2
  have ct := hA.tw.tx.cell
  have ce0 := heA.c0
  have cp : (w.alloc (.cells #[.int .i64 5, .int .i64 on, .int .u64 word] 35)).cell? ⟨al, A.length, none⟩ = some (.pointer (some ⟨e.p, 0, none⟩)) := (World.cell?_of_block (Below.heap_alloc _ _ _ (World.block_lt_of_cell? _ _ hptr))).trans hptr
  have hm0 : (m : Int) ≠ 0 := by omega
  have hmj : (A.length : Int) < (m : Int) := by omega
  have HM := hid hm
  have HB0 := hid ((Keeps.refl (fun _ => False) w).alloc (.cells #[.int .i64 5, .int .i64 on, .int .u64 word] 35))
  have hobj : (w.alloc (.cells #[.int .i64 5, .int .i64 on, .int .u64 word] 35)).heap[w.heap.size]? = some (.cells #[.int .i64 5, .int .i64 on, .int .u64 word] 35 (0, 0)) := alloc_block w _
  have HNF : Hid (w.heap.size ∉ ftp x t b g b2 g2 (.slice (some ⟨al, 0, none⟩) m kl) (A ++ e :: B)) := hid (fun q => by have := h.lt _ q; omega)
  obtain ⟨s1, q1, qW, q2⟩ := iv.words
  have iv1 := q2 (by omega)
  obtain ⟨s2, q3, qW2, q4⟩ := iv1.words
  have HIV := hid ((q4 (by omega)).more (K' := K + 400000) (by omega) (by omega))
  have HE1 : Hid (_ = _) := q1
  have HE2 : Hid (_ = _) := q3
  have hwl := iv.small.2.1
  have hnl := iv.small.1
  clear q1 qW q2 q3 qW2 q4 iv1
  have HW := hid hA
  have hwe := iv.small.2.2.1
  obtain ⟨L, hL⟩ : ∃ L, e.ws.length = L := ⟨_, rfl⟩
  have hL1 : L ≤ 1000 := by omega
  clear h iv hA heA hptr
  go_enter Try.func7, Try.ntmps7
  go_wp2_with fail
  go_quiet (fail)
  go_wp2_with fail
  have HT : Hid (∀ q, Calls Try.prog 15 #[.iface 24 (.pointer (some ⟨t, 0, none⟩)), .int .u64 e.a] ((w.alloc (.cells #[.int .i64 5, .int .i64 on, .int .u64 word] 35)).drewN q) fun r' w' => ∃ v, r' = .returned (.tuple #[v, .int .i64 0]) ∧ Wr w' ((w.alloc (.cells #[.int .i64 5, .int .i64 on, .int .u64 word] 35)).drewN q).heap.size v e.ws ∧ Tw w' t b g c s1 ∧ Keeps (two b g) ((w.alloc (.cells #[.int .i64 5, .int .i64 on, .int .u64 word] 35)).drewN q) w') := hid (fun q => qwords_r HE1 hwe (HW.out.tw.drewN q))
  refine wp_region_segs [(true, 9), (false, 1), (true, 5)] (by kernel_rfl) (by kernel_rfl) ?_
  intro q0
  simp only [wpSeg, List.take_succ_cons, List.take_zero, List.drop_succ_cons, List.drop_zero]
  repeat (go_big_quiet_step (fail))
  refine wpQuiet_nil ?_
  intro _ hw'
  obtain ⟨q1, hw''⟩ := hw'
  subst hw''
  try simp only [World.drewN_drewN]
  intro K2 hK'
  go_wp2_with fail
  refine (HT.out _).mono ?_
  rintro e_ w1 ⟨v1, rfl, r1, h1, k1⟩
  have hW1 := (HW.out.drewN _).tx k1 h1
  have HW1 := hid (fun q => hW1.drewN q)
  have dx0 := hW1.x0
  have de0 := (hW1.es e (by simp)).c0
  have hbs : ((w.alloc (.cells #[.int .i64 5, .int .i64 on, .int .u64 word] 35)).drewN 0).heap.size = w.heap.size + 1 := by show (w.alloc (.cells #[.int .i64 5, .int .i64 on, .int .u64 word] 35)).heap.size = _; simp
  have r1' : Wr w1 (w.heap.size + 1) v1 e.ws := r1.base (Nat.le_of_eq hbs.symm)
  have HR1 := hid r1'
  obtain ⟨a1, n1, hv1⟩ := r1.form
  rw [hL] at hv1
  subst hv1
  have HSZ : Hid (∀ i, i ∈ ftp x t b g b2 g2 (.slice (some ⟨al, 0, none⟩) m kl) (A ++ e :: B) → i < w.heap.size + 1) := hid (fun i hi => by have q := HW.out.lt i hi; rw [← hbs]; exact q)
  have HSZ0 : Hid (w0.heap.size ≤ w.heap.size + 1) := hid (by have q := HW.out.kp.size; rw [← hbs]; exact q)
  clear HT h1 k1 HW HE1 hW1 r1 r1' hbs
  go_wp2_with fail
  repeat (go_big_quiet_step (fail))
  refine wpQuiet_nil ?_
  intro _ hw'
  obtain ⟨q2, hw''⟩ := hw'
  subst hw''
  try simp only [World.drewN_drewN]
  go_wp2_with fail
  have HT2 : Hid (∀ q, Calls Try.prog 15 #[.iface 24 (.pointer (some ⟨t, 0, none⟩)), .int .u64 e.a] (w1.drewN q) fun r' w' => ∃ v, r' = .returned (.tuple #[v, .int .i64 0]) ∧ Wr w' (w1.drewN q).heap.size v e.ws ∧ Tw w' t b g c s2 ∧ Keeps (two b g) (w1.drewN q) w') := hid (fun q => qwords_r HE2 hwe (HW1.out q).tw)
  refine wp_region_segs [(true, 9), (false, 1), (true, 5)] (by kernel_rfl) (by kernel_rfl) ?_
  intro p0
  simp only [wpSeg, List.take_succ_cons, List.take_zero, List.drop_succ_cons, List.drop_zero]
  repeat (go_big_quiet_step (fail))
  refine wpQuiet_nil ?_
  intro _ hw'
  obtain ⟨p1, hw''⟩ := hw'
  subst hw''
  try simp only [World.drewN_drewN]
  intro K2 hK'
  go_wp2_with fail
  refine (HT2.out _).mono ?_
  rintro e_ w2 ⟨v2, rfl, r2, h2, k2⟩
  have hW2 := (HW1.out _).tx k2 h2
  have hrr := HR1.out
  have hR1 : Wr w2 0 (.slice a1 L n1) e.ws := (Wr.base (own_keeps hrr (((Keeps.refl (two b g) w1).drewN _).trans k2) (fun i hi e => by
    have p1 := (own_block hrr hi).2
    have p2 := HSZ.out b in_b
    have p3 := HSZ.out g in_g
    rcases e with e | e <;> omega)) (Nat.zero_le _))
  have hR2 : Wr w2 0 v2 e.ws := r2.base (Nat.zero_le _)
  have hn1 : ∀ i, (Value.slice a1 L n1).ownBlock = some i → i ∉ ftp x t b g b2 g2 (.slice (some ⟨al, 0, none⟩) m kl) (A ++ e :: B) ∧ w0.heap.size ≤ i ∧ i < w1.heap.size := fun i e1 => by
    have p1 := own_block hrr e1
    exact ⟨fun hin => by have := HSZ.out i hin; omega, Nat.le_trans HSZ0.out p1.2, p1.1⟩
  have hn2 : ∀ i, v2.ownBlock = some i → i ∉ ftp x t b g b2 g2 (.slice (some ⟨al, 0, none⟩) m kl) (A ++ e :: B) ∧ w0.heap.size ≤ i ∧ w1.heap.size ≤ i := fun i e1 => by
    have p1 : w1.heap.size ≤ i := (own_block r2 e1).2
    exact ⟨fun hin => by have := (HW1.out 0).lt i hin; have e0 : (w1.drewN 0).heap.size = w1.heap.size := rfl; omega, by have := (HW1.out 0).kp.size; have e0 : (w1.drewN 0).heap.size = w1.heap.size := rfl; omega, p1⟩
  obtain ⟨a2, n2, hv2⟩ := r2.form
  rw [hL] at hv2
  subst hv2
  have ce2 := (hW2.es e (by simp)).c2
  have hre := (hW2.es e (by simp)).rw
  obtain ⟨aw, kw, hvw⟩ := hre.form
  rw [hL] at hvw
  rw [hvw] at ce2 hre
  have HL1 : Hid (∀ q, Lies (w2.drewN q) (.slice a1 L n1) e.ws) := hid (fun q => hR1.lies.keeps (S := fun _ => False) ((Keeps.refl _ w2).drewN q) (fun _ _ _ _ f => f))
  have HL2 : Hid (∀ q, Lies (w2.drewN q) (.slice a2 L n2) e.ws) := hid (fun q => hR2.lies.keeps (S := fun _ => False) ((Keeps.refl _ w2).drewN q) (fun _ _ _ _ f => f))
  have HLE : Hid (∀ q, Lies (w2.drewN q) (.slice aw L kw) e.ws) := hid (fun q => hre.lies.keeps (S := fun _ => False) ((Keeps.refl _ w2).drewN q) (fun _ _ _ _ f => f))
  have HRR := hid (And.intro hR1 hR2)
  have HNN := hid (And.intro hn1 hn2)
  have HW2 := hid hW2
  clear HT2 h2 k2 HW1 HE2 hW2 r2 hrr hR1 hR2 hn1 hn2 HR1 HSZ HSZ0 hre hvw dx0 de0
  go_wp2_with fail
  repeat (go_big_quiet_step (fail))
  refine wpQuiet_nil ?_
  intro _ hw'
  obtain ⟨q3, hw''⟩ := hw'
  subst hw''
  try simp only [World.drewN_drewN]
  have hLl : e.ws.length ≤ 17592186044416 := by omega
  go_wp2_with fail
  refine (num_any _ _).mono ?_
  rintro e_ w_ ⟨rfl, hw_⟩
  subst w_
  go_wp2_with fail
  refine (words_same _ _ e.ws hLl _ (HL1.out q3) (HLE.out q3)).mono ?_
  rintro e_ w3 ⟨rfl, m3, hw3⟩
  subst hw3
  simp only [World.drewN_drewN]
  go_wp2_with fail
  refine (words_same _ _ e.ws hLl _ (HL2.out _) (HLE.out _)).mono ?_
  rintro e_ w4 ⟨rfl, m4, hw4⟩
  subst hw4
  simp only [World.drewN_drewN]
  go_wp2_with fail
  refine (apart_two _ _ L n1 n2 e.ws hL (by omega) _ HRR.out.1 HRR.out.2 (fun i e1 e2 => by have p1 := (HNN.out.1 i e1).2.2; have p2 := (HNN.out.2 i e2).2.2; omega) _).mono ?_
  rintro e_ w5 ⟨rfl, k5⟩
  have HF := hid (((HW2.out.drewN _).alloc _).step k5 (fun i hi => by
    rcases hi with hi | hi
    · exact ⟨(HNN.out.1 i hi).1, (HNN.out.1 i hi).2.1⟩
    · exact ⟨(HNN.out.2 i hi).1, (HNN.out.2 i hi).2.1⟩))
  clear k5 HW2 HNN HRR HL1 HL2 HLE
  go_wp2_with fail
  go_ret
  exact ⟨rfl, _, HF.out, HIV.out⟩
end Go.Proofs.Ytadbplbifjeghaa
