
/- The law's step, New (layer 23). No statement of the seat is proved here. -/
import Derived.Test.YtadbplbifjeghaaQxK
import Derived.Test.YtadbplbifjeghaaQwF
import Derived.Test.YtadbplbifjeghaaASeg
import Derived.Test.YtadbplbifjeghaaQwE
import Derived.Test.YtadbplbifjeghaaQyA
namespace Go.Proofs.Ytadbplbifjeghaa
open Go.RowKit

set_option maxRecDepth 100000 in
set_option maxHeartbeats 4000000 in
theorem step_0 {w0 w : World} {x t b g c b2 g2 c2 : Nat} {lv : Value} {E : List Qe} {s r : Wd} {N K : Int} (h : Wo w0 w x t b g c b2 g2 c2 lv E s r) (iv : Iv s r N E K) (hK : K + 4400000 < 4611686018427387904) (hEl : E.length < 100000) (on word : Int) :
    Calls Try.prog 7 #[.pointer (some ⟨x, 0, none⟩), .agg #[.int .i64 0, .int .i64 on, .int .u64 word]] w fun er w' => er = .returned (.bool true) ∧ ∃ lv' E' s' r', (E' = E ∨ ∃ e, E' = E ++ [e]) ∧ (N - nx s < 3 ∨ ∃ e, E' = E ++ [e]) ∧ Wo w0 w' x t b g c b2 g2 c2 lv' E' s' r' ∧ Iv s' r' N E' (K + 400000) ∧ nx s' ≤ nx s + 3 := by
  obtain ⟨al, kl, hlv⟩ := h.form
  obtain ⟨m, hm⟩ : ∃ m, E.length = m := ⟨_, rfl⟩
  rw [hm] at hlv
  have hA := h.alloc (.cells #[.int .i64 0, .int .i64 on, .int .u64 word] 35)
  have hwlen := iv.wlen
  have HLB : Hid (b < w.heap.size ∧ g < w.heap.size ∧ b2 < w.heap.size ∧ g2 < w.heap.size) := hid ⟨h.lt _ in_b, h.lt _ in_g, h.lt _ in_b2, h.lt _ in_g2⟩
  have hB := hA.alloc (.cells #[] 33)
  have eb0 := hB.x0
  have ebt := hB.tw.tx.cell
  have ebb := hB.tw.wd.cell0
  obtain ⟨gc, cc, wC, hrun, hwr, hkC⟩ := app_copy (w.alloc (.cells #[.int .i64 0, .int .i64 on, .int .u64 word] 35)) _ s.W hA.tw.wd.lies (by omega)
  have hszX : (w.alloc (.cells #[.int .i64 0, .int .i64 on, .int .u64 word] 35)).heap.size = w.heap.size + 1 := by simp
  rw [hszX] at hrun hwr
  have HR : Hid (_ = _) := hrun
  have hC := hA.new hkC
  have dx0 := hC.x0
  have HC := hid (And.intro hC hwr)
  clear hrun hwr hkC hB hA hszX h
  rcases iv.new with ⟨s1, r1, q1, q3, qW, qn, q2⟩ | ⟨a, s1, r1, q1, q3, qa, qln, qx, q2⟩
  · have HE1 : Hid (_ = _) := q1
    have HG : Hid (_ = _) := q3
    have HIV := hid ((q2 (by omega)).more (K' := K + 400000) (by omega) (by omega))
    have HSW := hid qW
    have HNN := hid qn
    have HNX : Hid (nx s1 ≤ nx s + 3) := hid (by show oat s1.W 0 ≤ oat s.W 0 + 3; rw [qW]; omega)
    clear q1 q3 qW q2 iv hC qn
    go_enter Try.func7, Try.ntmps7
    go_wp2_with (at_builtin; refine wpList_append_run rfl _ _ 36 rfl rfl rfl HR.out ?_; clear HR)
    refine (qnew_r HE1 zero_isW HC.out.1.tw).mono ?_
    rintro e_ w1 ⟨rfl, h1, k1⟩
    have hW1 := HC.out.1.tx k1 h1
    have cy1 := hW1.x1
    have hwr1 : Wr w1 (w.heap.size + 1) (.slice (some ⟨gc, 0, none⟩) s.W.length cc) s.W := HC.out.2.keeps k1 (fun i q => by
      have hlb := HLB.out
      rcases q with q | q <;> omega)
    have HW1 := hid hW1
    have HWR := hid hwr1
    clear h1 k1 HC HE1 hW1 hwr1 dx0 eb0 ebt ebb
    go_wp2_with fail
    refine (rqnew_any HG w1 HW1.out.rw).mono ?_
    rintro e_ w2 ⟨v2, rfl, hr2, k2, hok, hno⟩
    have hv := hno (by decide)
    subst hv
    have hWF := HW1.out.rf k2 hr2
    have cz0 := hWF.x0
    have czt := hWF.tw.tx.cell
    have czb := hWF.tw.wd.cell0
    rw [HSW.out] at czb
    have hlw := HLB.out
    have hwrF : Wr w2 (w.heap.size + 1) (.slice (some ⟨gc, 0, none⟩) s.W.length cc) s.W := HWR.out.keeps k2 (fun i q => by
      rcases q with q | q <;> omega)
    have hlF := hWF.tw.wd.lies
    rw [HSW.out] at hlF
    have HWS : Hid (Calls Try.prog 9 #[.slice (some ⟨gc, 0, none⟩) s.W.length cc, .slice (some ⟨g, 0, none⟩) s.W.length c] w2 fun e w' => e = .returned (.bool true) ∧ ∃ m, w' = w2.drewN m) := hid (words_same _ _ s.W (by omega) w2 hwrF.lies hlF)
    have HWF := hid (fun q => hWF.drewN q)
    clear hok hno hr2 k2 hWF HG HWR HW1 hwrF hlF
    go_wp2_with (first | (go_at_call 16; refine (num_any _ _).mono ?_; rintro e_ w_ ⟨rfl, hw_⟩; subst w_) | (go_at_call 9; refine HWS.out.mono ?_; rintro e_ w3 ⟨rfl, m3, hw3⟩; subst hw3))
    go_ret
    exact ⟨rfl, _, _, _, _, .inl rfl, .inl HNN.out, HWF.out _, HIV.out, HNX.out⟩
  · have HE1 : Hid (_ = _) := q1
    have HG : Hid (_ = _) := q3
    have HIV := hid (fun p vn vw => (q2 p vn vw (by omega)).more (K' := K + 400000) (by omega) (by omega))
    have HNX := hid qx
    clear q1 q3 qx q2 iv hC
    go_enter Try.func7, Try.ntmps7
    go_wp2_with (at_builtin; refine wpList_append_run rfl _ _ 36 rfl rfl rfl HR.out ?_; clear HR)
    refine (qnew_r HE1 zero_isW HC.out.1.tw).mono ?_
    rintro e_ w1 ⟨rfl, h1, k1⟩
    have hW1 := HC.out.1.tx k1 h1
    have cy1 := hW1.x1
    have hwr1 : Wr w1 (w.heap.size + 1) (.slice (some ⟨gc, 0, none⟩) s.W.length cc) s.W := HC.out.2.keeps k1 (fun i q => by
      have hlb := HLB.out
      rcases q with q | q <;> omega)
    have HW1 := hid hW1
    have HWR := hid hwr1
    clear h1 k1 HC HE1 hW1 hwr1 dx0 eb0 ebt ebb
    go_wp2_with fail
    refine (rqnew_any HG w1 HW1.out.rw).mono ?_
    rintro e_ w2 ⟨v2, rfl, hr2, k2, hok, hno⟩
    obtain ⟨p, rfl, hp, hE⟩ := hok rfl
    have hWF := HW1.out.rf k2 hr2
    have hpw1 : ∀ i ∈ ftp x t b g b2 g2 lv E, i < w1.heap.size := HW1.out.lt
    have cz2 := hWF.x2
    have ce0 := hE.c0
    try dsimp only at ce0
    obtain ⟨lv', wa, hrun, hrow, hka, hown⟩ := hWF.row.push (by omega) ⟨p, .slice none 0 0, .slice none 0 0, a, [], []⟩
    try dsimp only at hrun
    have HR : Hid (_ = _) := hrun
    have hpn : ∀ i, i ∈ ftp x t b g b2 g2 lv E → p ≠ i := fun i hi q => by have := hpw1 i hi; omega
    have sx := six_of hWF.nd
    have hWL := hWF.rows (E' := E ++ [⟨p, .slice none 0 0, .slice none 0 0, a, [], []⟩]) hka hrow hown (fun e he => by
      rcases List.mem_append.1 he with he | he
      · exact ⟨hWF.es e he, fun i hi => hWF.lo i (in_e he hi)⟩
      · obtain rfl := List.mem_singleton.1 he
        refine ⟨hE, fun i hi => ?_⟩
        have hi' : i = p := by simpa [Qe.fp, vb] using hi
        have := HW1.out.kp.size
        omega) ⟨fun e he i hi => by
      rcases List.mem_append.1 he with he | he
      · exact ⟨(sx.ed e he i hi).1, (sx.ed e he i hi).2, hWF.lt i (in_e he hi)⟩
      · obtain rfl := List.mem_singleton.1 he
        have hi' : i = p := by simpa [Qe.fp, vb] using hi
        subst hi'
        exact ⟨fun q => hpn i (List.mem_append_left _ q) rfl, fun q => hpn i (in_row q) rfl, lt_of_block hE.bx⟩, by
      rw [List.flatMap_append]
      refine List.nodup_append.2 ⟨sx.fm, by simp [Qe.fp, vb], fun i hi j hj hij => ?_⟩
      have hj' : j = p := by simpa [Qe.fp, vb] using hj
      obtain ⟨e, he, hie⟩ := List.mem_flatMap.1 hi
      exact hpn i (in_e he hie) (by rw [hij, hj'])⟩
    have bxa : wa.heap[x]? = some (.cells #[.pointer (some ⟨t, 0, none⟩), .pointer (some ⟨b2, 0, none⟩), lv] 31 (0, 0)) := (hka.block _ (lt_of_block hWF.bx) (fun q => sx.rowd x q (by simp))).trans hWF.bx
    have fxa : wa.frozen? ⟨x, 2, none⟩ = false := frozen_of_block bxa _
    have cxa : wa.cell? ⟨x, 2, none⟩ = some lv := by rw [cell_of_block bxa]; rfl
    have epa : wa.cell? ⟨p, 0, none⟩ = some (.int .u64 a) := (World.cell?_of_block (hka.block p (lt_of_block hE.bx) (fun q => hpn p (in_row q) rfl))).trans ce0
    obtain ⟨al2, kl2, hl2⟩ : ∃ al2 kl2, lv' = .slice al2 (m + 1) kl2 := by
      obtain ⟨a', k', e'⟩ := hWL.form
      exact ⟨a', k', by rw [e']; simp [hm]⟩
    have hpx : p ≠ x := hpn x in_x
    have HWL := hid hWL
    subst hl2
    subst hlv
    clear hok hno hr2 k2 hWF HG HWR HW1 hrun hrow hka hown sx hpn hpw1 bxa hWL hE
    go_wp2_with (first | (go_at_call 16; refine (num_any _ _).mono ?_; rintro e_ w_ ⟨rfl, hw_⟩; subst w_) | (at_builtin; refine wpList_append_run rfl _ _ 29 rfl rfl rfl HR.out ?_; clear HR))
    go_ret
    exact ⟨by simp, _, _, _, _, .inr ⟨_, rfl⟩, .inr ⟨_, rfl⟩, HWL.out, HIV.out _ _ _, HNX.out⟩
end Go.Proofs.Ytadbplbifjeghaa
