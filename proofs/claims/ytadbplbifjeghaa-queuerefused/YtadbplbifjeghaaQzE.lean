
/- The law QueueRefused walked (layer 23). No statement of the seat is proved here. -/
import Derived.Test.YtadbplbifjeghaaQzD
namespace Go.Proofs.Ytadbplbifjeghaa
open Go.RowKit

theorem hon_one : (wrap64 ((0 : Int).tmod ((1 : Nat) : Int) + ((1 : Nat) : Int))).tmod ((1 : Nat) : Int) = ((0 : Nat) : Int) := by kernel_rfl
set_option maxRecDepth 100000 in
set_option maxHeartbeats 8000000 in
theorem ref_walk (a : Option Addr) (W : List Int) (c : Nat) (hcap : W.length ≤ c) (hWW : ∀ x ∈ W, isW x) (kd on word left code : Int) (hword : isW word) (w : World) (h : Lies w (.slice a W.length c) W) :
    Calls Try.prog 4 #[.slice a W.length c, .agg #[.int .i64 kd, .int .i64 on, .int .u64 word], .agg #[.int .i64 left, .int .i64 code]] w fun e w' => e = .returned (.bool true) ∧ Keeps (fun _ => False) w w' := by
  obtain ⟨LK, hLK, eLK⟩ := cyc kd 7 (by omega) (by omega)
  obtain ⟨L, hL, eL⟩ := cyc left 40 (by omega) (by omega)
  obtain ⟨LC, hLC, eLC⟩ := cyc code 300 (by omega) (by omega)
  obtain ⟨n, hn⟩ : ∃ n, W.length = n := ⟨_, rfl⟩
  obtain ⟨m, hm1, hm2⟩ : ∃ m, (150 < n → 150 = m) ∧ (n ≤ 150 → m = n) := by
    by_cases q : 150 < n
    · exact ⟨150, fun _ => rfl, fun h => by omega⟩
    · exact ⟨n, fun h => absurd h q, fun _ => rfl⟩
  have hmn : m ≤ n := by omega
  have hm150 : m ≤ 150 := by omega
  have HL : Hid (Lies w (.slice a m c) (W.take m)) := hid (by
    have p := h.cut m (by omega)
    rw [List.length_take, Nat.min_eq_left (by omega)] at p
    exact p)
  have HWW : Hid (∀ k, isW (oat (W.take m) k)) := hid (oat_isW fun x hx => hWW x (List.mem_of_mem_take hx))
  have hWl : (W.take m).length = m := by rw [List.length_take]; omega
  rw [hn] at hcap ⊢
  obtain ⟨W0, hW0⟩ : ∃ X, (w.alloc (.cells #[.int .i64 kd, .int .i64 on, .int .u64 word] 35)).alloc (.cells #[.int .i64 left, .int .i64 code] 51) = X := ⟨_, rfl⟩
  have hk0 : Keeps (fun _ => False) w W0 := by rw [← hW0]; exact ((Keeps.refl _ w).alloc _).alloc _
  have hb0 : W0.heap[w.heap.size]? = some (.cells #[.int .i64 kd, .int .i64 on, .int .u64 word] 35 (0, 0)) := by
    rw [← hW0]
    have p := alloc_block w (.cells #[.int .i64 kd, .int .i64 on, .int .u64 word] 35)
    exact (Below.heap_alloc _ _ _ (lt_of_block p)).trans p
  have hW0' : Hid (_ = _) := hW0
  have HK0 := hid hk0
  have HB0 := hid hb0
  clear h hk0 hb0 hW0
  go_enter Try.func4, Try.ntmps4
  go_wp2_with fail
  rw [hW0'.out]
  refine (laid_any 400 (by omega) _).mono ?_
  rintro e_ w1 ⟨b, g, c1, rfl, h1, k1, hb, hg⟩
  have H1 := hid (And.intro h1 (And.intro k1 (And.intro hb hg)))
  clear h1 k1 hb hg
  go_wp2_with fail
  refine (laid_any 400 (by omega) _).mono ?_
  rintro e_ w2 ⟨b2, g2, c2, rfl, h2, k2, hb2, hg2⟩
  have HS := hid (Wo.start H1.out.1 H1.out.2.1 H1.out.2.2.1 H1.out.2.2.2 h2 k2 (by simpa using hb2) (by simpa using hg2))
  obtain ⟨t, ht⟩ : ∃ t, w1.heap.size = t := ⟨_, rfl⟩
  obtain ⟨x, hx⟩ : ∃ x, w2.heap.size = x := ⟨_, rfl⟩
  rw [ht, hx] at HS
  clear H1 h2 k2 hb2 hg2
  have iv0 : Iv (laidW 400) (laidW 400) 400 [] 20 := (laidW_iv 400 (by omega) (by omega)).1
  have nx0 : nx (laidW 400) = 18 := (laidW_iv 400 (by omega) (by omega)).2
  have HI := hid (And.intro iv0 nx0)
  clear iv0 nx0
  by_cases h150 : 150 < n
  focus
    have h150i : 150 < (n : Int) := by omega
    go_wp2_with fail
    rw [hm1 h150]
  rotate_left
  focus
    have e : m = n := hm2 (by omega)
    subst e
    have h150i : ¬ 150 < (m : Int) := by omega
    go_wp2_with fail
  all_goals
    refine (step_0 HS.out HI.out.1 (by omega) (by simp) 0 0).mono ?_
    rintro e_ w3 ⟨rfl, lv, E, s1, r1, _, hE, HW3, iv3, nx3⟩
    obtain ⟨e, rfl⟩ : ∃ e, E = [e] := by
      rcases hE with q | ⟨e, rfl⟩
      · have := HI.out.2; omega
      · exact ⟨e, rfl⟩
    have nx3' : nx s1 ≤ 21 := by have := HI.out.2; omega
    have HW := hid (And.intro HW3 (And.intro iv3 nx3'))
    clear HS HI hE HW3 iv3 nx3 nx3'
    go_wp2_with fail
    go_loopw [10] (fun iv wr => ∃ k : Nat, k ≤ m ∧ iv = .int .i64 (k : Int) ∧ Hid (∃ lv e s r, Wo W0 wr x t b g c1 b2 g2 c2 lv [e] s r ∧ Iv s r 400 [e] (400020 + 800000 * k) ∧ nx s ≤ 21 + 2 * k)) (fun iv _ => m - (intOf iv).toNat)
    case atStart => exact ⟨0, by omega, rfl, hid ⟨lv, e, s1, r1, HW.out.1, HW.out.2.1, HW.out.2.2⟩⟩
    case round =>
      obtain ⟨k, hkm, rfl, hr⟩ := hrel
      clear HW
      obtain ⟨lv, e, s, r, hW, hI, hN⟩ := hr.out
      by_cases hlt : k < m
      · have hlt' : (k : Int) < (m : Int) := by omega
        obtain ⟨ga, off, rfl, hcell⟩ : ∃ ga off, a = some ⟨ga, off, none⟩ ∧ wr.cell? ⟨ga, off + k, none⟩ = some (.int .u64 (oat (W.take m) k)) := by
          obtain ⟨a', c', e1, hc⟩ := HL.out.keeps (HK0.out.trans hW.kp) (fun _ _ _ _ f => f)
          obtain ⟨rfl, _, rfl⟩ := Value.slice.inj e1
          exact hc k (by omega)
        have HR := hid (And.intro hW (And.intro hI hN))
        clear hr hW hI hN
        go_wp2_with fail
        refine (step_1 (A := []) (B := []) HR.out.1 HR.out.2.1 (by omega) 0 (oat (W.take m) k) (HWW.out k) hon_one).mono ?_
        rintro e_ w4 ⟨rfl, lv4, E4, s4, r4, hE4, hW4, hI4, hN4⟩
        obtain ⟨e4, rfl⟩ : ∃ e4, E4 = [e4] := List.length_eq_one_iff.1 hE4
        have hN4' : nx s4 ≤ 23 + 2 * k := by have := HR.out.2.2; omega
        have HR4 := hid (And.intro hW4 (And.intro hI4 hN4'))
        clear HR hW4 hI4 hN4 hN4' hE4 hcell
        by_cases h3 : (k : Int).tmod 3 = 2
        · go_wp2_with fail
          cases hns : e4.ns with
          | nil =>
            refine (step_2n (A := []) (B := []) HR4.out.1 HR4.out.2.1 (by omega) 0 0 hns hon_one).mono ?_
            rintro e_ w5 ⟨rfl, lv5, E5, s5, r5, hE5, hW5, hI5, hN5⟩
            obtain ⟨e5, rfl⟩ : ∃ e5, E5 = [e5] := List.length_eq_one_iff.1 hE5
            have HR5 := hid (And.intro hW5 (And.intro hI5 (show nx s5 ≤ 23 + 2 * k by have := HR4.out.2.2; omega)))
            clear HR4 hW5 hI5 hN5 hE5 hns
            go_wp2_with fail
            go_roundw
            case rel => exact ⟨k + 1, by omega, by go_num, hid ⟨lv5, e5, s5, r5, HR5.out.1, HR5.out.2.1.more (by omega) (by omega), by have := HR5.out.2.2; omega⟩⟩
            case measure => simp [intOf]; omega
          | cons n0 ns0 =>
            refine (step_2y (A := []) (B := []) HR4.out.1 HR4.out.2.1 (by omega) 0 0 hns hon_one).mono ?_
            rintro e_ w5 ⟨rfl, lv5, E5, s5, r5, hE5, hW5, hI5, hN5⟩
            obtain ⟨e5, rfl⟩ : ∃ e5, E5 = [e5] := List.length_eq_one_iff.1 hE5
            have HR5 := hid (And.intro hW5 (And.intro hI5 (show nx s5 ≤ 23 + 2 * k by have := HR4.out.2.2; omega)))
            clear HR4 hW5 hI5 hN5 hE5 hns
            go_wp2_with fail
            go_roundw
            case rel => exact ⟨k + 1, by omega, by go_num, hid ⟨lv5, e5, s5, r5, HR5.out.1, HR5.out.2.1.more (by omega) (by omega), by have := HR5.out.2.2; omega⟩⟩
            case measure => simp [intOf]; omega
        · go_wp2_with fail
          go_roundw
          case rel => exact ⟨k + 1, by omega, by go_num, hid ⟨lv4, e4, s4, r4, HR4.out.1, HR4.out.2.1.more (by omega) (by omega), by have := HR4.out.2.2; omega⟩⟩
          case measure => simp [intOf]; omega
      · have hkm' : k = m := by omega
        have hlt' : ¬ (k : Int) < (m : Int) := by omega
        have hb1 : wr.heap[w.heap.size]? = some (.cells #[.int .i64 kd, .int .i64 on, .int .u64 word] 35 (0, 0)) := (hW.kp.block _ (lt_of_block HB0.out) (fun f => f)).trans HB0.out
        have c0 : wr.cell? ⟨w.heap.size, 0, none⟩ = some (.int .i64 kd) := by rw [cell_of_block hb1]; rfl
        have f0 : wr.frozen? ⟨w.heap.size, 0, none⟩ = false := frozen_of_block hb1 0
        have hob : w.heap.size < W0.heap.size := lt_of_block HB0.out
        have hA : Wo w (wr.setCell ⟨w.heap.size, 0, none⟩ (.int .i64 LK)) x t b g c1 b2 g2 c2 lv [e] s r := (hW.base HK0.out).step ((Keeps.refl (fun i => i = w.heap.size) wr).setCell (p := ⟨w.heap.size, 0, none⟩) (.inr rfl) _) (fun i hi => by
          subst hi
          exact ⟨fun q => by have := hW.lo _ q; omega, Nat.le_refl _⟩)
        have bA : (wr.setCell ⟨w.heap.size, 0, none⟩ (.int .i64 LK)).heap[w.heap.size]? = some (.cells #[.int .i64 LK, .int .i64 on, .int .u64 word] 35 (0, 0)) := block_set hb1 0 _
        have hB := hA.calls 0
        have hC := hB.left L
        have hD := hC.code (1 + LC)
        have hbo : b ≠ w.heap.size := fun q => by have := hW.lo b in_b; omega
        have hgo : g ≠ w.heap.size := fun q => by have := hW.lo g in_g; omega
        have bD : ((((wr.setCell ⟨w.heap.size, 0, none⟩ (.int .i64 LK)).setCell ⟨b, 3, none⟩ (.int .i64 0)).setCell ⟨b, 1, none⟩ (.int .i64 L)).setCell ⟨b, 2, none⟩ (.int .i64 (1 + LC))).heap[w.heap.size]? = some (.cells #[.int .i64 LK, .int .i64 on, .int .u64 word] 35 (0, 0)) := by
          refine (Below.heap_setCell _ _ _ _ (Ne.symm hbo)).trans ((Below.heap_setCell _ _ _ _ (Ne.symm hbo)).trans ((Below.heap_setCell _ _ _ _ (Ne.symm hbo)).trans bA))
        have d0 := cell_of_block bD 0
        have d1 := cell_of_block bD 1
        have d2 := cell_of_block bD 2
        have xA := hA.x0
        have xB := hB.x0
        have xC := hC.x0
        have xD := hD.x0
        have yD := hD.x2
        have tA := hA.tw.tx.cell
        have tB := hB.tw.tx.cell
        have tC := hC.tw.tx.cell
        have fA := hA.tw.wd.frozen 3
        have fB := hB.tw.wd.frozen 1
        have fC := hC.tw.wd.frozen 2
        have gA := hA.tw.wd.cell3
        have gB := hB.tw.wd.cell1
        have gC := hC.tw.wd.cell2
        obtain ⟨al, kl, rfl, hptr⟩ := hD.ptr (i := 0) (e := e) rfl
        have e0 := (hD.es e (by simp)).c0
        have hwc : IntKind.i64.wrap (1 + (LC : Int)) = 1 + LC := by rw [IntKind.wrap_i64]; omega
        have HD := hid (And.intro hD (And.intro hI hN))
        clear hr hA hB hC hD bA hb1 hW hI hN
        have HBD := hid bD
        clear bD
        obtain ⟨wD, hwD⟩ : ∃ X, (((wr.setCell ⟨w.heap.size, 0, none⟩ (.int .i64 LK)).setCell ⟨b, 3, none⟩ (.int .i64 0)).setCell ⟨b, 1, none⟩ (.int .i64 L)).setCell ⟨b, 2, none⟩ (.int .i64 (1 + LC)) = X := ⟨_, rfl⟩
        have HWD : Hid (_ = _) := hwD
        rw [hwD] at HD HBD d0 d1 d2 xD yD hptr e0
        clear hwD
        go_wp2_with fail
        rw [HWD.out]
        clear HWD xA xB xC tA tB tC fA fB fC gA gB gC c0 f0
        refine wp_region_segs [(true, 14), (false, 1), (true, 5)] (by kernel_rfl) (by kernel_rfl) ?_
        intro q0
        simp only [wpSeg, List.take_succ_cons, List.take_zero, List.drop_succ_cons, List.drop_zero]
        repeat (go_big_quiet_step (fail))
        refine wpQuiet_nil ?_
        intro _ hw'
        obtain ⟨q1, hw''⟩ := hw'
        subst hw''
        try simp only [World.drewN_drewN]
        intro K2 hK'
        go_wp2_with fail
        refine (call_any t b g c1 _ LK on e.a word (HD.out.2.1.small (A := []) (B := [])).2.2.1 hword _ (HD.out.1.drewN _).tw).mono ?_
        rintro e_ w5 ⟨rfl, h5, k5⟩
        have HF : Hid (Refd L (1 + LC) LK (callW LK e.a word { s with l := L, c := 1 + LC, n := 0 })) := hid (callW_ref HD.out.2.1 (by omega) (by have := HD.out.2.2; omega) (kd := LK) (x := word) (c := 1 + LC) (by omega) (by omega) hword (by omega) (L := L) (by omega))
        have hE0 := (HD.out.1.drewN _).tx k5 h5
        have hbE0 : w5.heap[w.heap.size]? = _ := (k5.block w.heap.size (lt_of_block HBD.out) (fun q => by rcases q with q | q <;> omega)).trans HBD.out
        obtain ⟨R, hR⟩ : ∃ R, callW LK e.a word { s with l := L, c := 1 + LC, n := 0 } = R := ⟨_, rfl⟩
        rw [hR] at HF hE0 ⊢
        have HE := hid (fun q => hE0.drewN q)
        have HBE := hid hbE0
        clear hR h5 k5 HD HBD hE0 hbE0 d0 d1 d2 xD yD hptr e0
        go_wp2_with fail
        repeat (go_big_quiet_step (fail))
        refine wpQuiet_nil ?_
        intro _ hw'
        obtain ⟨q2, hw''⟩ := hw'
        subst hw''
        try simp only [World.drewN_drewN]
        have hE := HE.out q2
        have xE := hE.x0
        have tE := hE.tw.tx.cell
        have nE := hE.tw.wd.cell3
        have oE : (w5.drewN q2).cell? ⟨w.heap.size, 0, none⟩ = some (.int .i64 LK) := by rw [cell_of_block (w := w5.drewN q2) HBE.out]; rfl
        have hwL : IntKind.i64.wrap ((L : Int) + 1) = L + 1 := by rw [IntKind.wrap_i64]; omega
        have HK := hid hE.kp
        clear hE HE HBE
        by_cases hRL : (L : Int) < R.2.n
        · have hq1 := (HF.out.1 hRL).1
          have hq2 := (HF.out.1 hRL).2
          clear HF
          go_wp2_with fail
          refine (works_any _).mono ?_
          rintro e_ w6 ⟨rfl, k6⟩
          have HK6 := hid (HK.out.trans k6)
          clear HK k6
          go_wp2_with fail
          go_ret
          exact ⟨rfl, HK6.out⟩
        · have hq1 := (HF.out.2 hRL).1
          have hq2 := (HF.out.2 hRL).2
          clear HF
          by_cases hq3 : R.2.n ≤ 24
          · go_wp2_with fail
            refine (works_any _).mono ?_
            rintro e_ w6 ⟨rfl, k6⟩
            have HK6 := hid (HK.out.trans k6)
            clear HK k6
            go_wp2_with fail
            go_ret
            exact ⟨rfl, HK6.out⟩
          · have hq4 : 4 < (LK : Int) := by omega
            go_wp2_with fail
            refine (works_any _).mono ?_
            rintro e_ w6 ⟨rfl, k6⟩
            have HK6 := hid (HK.out.trans k6)
            clear HK k6
            go_wp2_with fail
            go_ret
            exact ⟨rfl, HK6.out⟩
end Go.Proofs.Ytadbplbifjeghaa
