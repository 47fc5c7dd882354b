
/- The law RankErrors, walked (layer 24). No statement of the seat is proved here. -/
import Derived.Test.YthlbeohogfjamaaRoG
namespace Go.Proofs.Ythlbeohogfjamaa
open Go.RowKit

set_option maxRecDepth 100000 in
set_option maxHeartbeats 8000000 in
theorem errors_walk (size : Int) (a : Option Addr) (n c' : Nat) (kd on bits wd : Int) (hbits : isW bits) (hwd : isW wd) (w : World) (ho : StepsAt w a n) (hnb : n * 32 ≤ 140737488351232) : Calls Try.prog 4 #[.int .i64 size, .slice a n c', stV kd on bits wd] w fun e w' => e = .returned (.bool true) ∧ Keeps (fun _ => False) w w' := by
  have HO := hid ho
  clear ho
  have w18 : isW 18 := lit_isW 18 (by omega)
  have w20 : isW 20 := lit_isW 20 (by omega)
  have hnn : n < 9223372036854775808 := by omega
  unfold stV
  clear hnb
  by_cases hbig : 60 < n
  · have hb' : (60 : Int) < (n : Int) := by omega
    go_enter Try.func4, Try.ntmps4
    go_wp2_with fail
    refine (cells_any size _).mono ?_
    rintro e_ w_ ⟨m, hm1, hm2, rfl, hw_⟩
    subst w_
    go_wp2_with fail
    refine (begin_any m hm1 hm2 _).mono ?_
    rintro e_ x0 ⟨b, g, c, rfl, h0, k0, lb, lg⟩
    have HE : Hid (Fe w (x0.heap.size + 1) b g c x0.heap.size kd on bits wd (x0.alloc (.cells #[.int .u64 18, .int .u64 20] 26)) (B3 m)) := by
      have hsz : (w.alloc (.cells #[.int .i64 kd, .int .i64 on, .int .u64 bits, .int .u64 wd] 33)).heap.size = w.heap.size + 1 := by simp
      rw [hsz] at lb lg
      have hb := h0.ltb
      have hg := h0.ltg
      have kn := keeps_new x0 (.cells #[.int .u64 18, .int .u64 20] 26)
      exact hid ⟨h0.kept kn (fun f => f) (fun f => f), (beg_of hm1 hm2).2.2.2.2, ((keeps_new w _).trans k0).trans kn, ((blk_new w _ _).kept k0 (fun f => f)).kept kn (fun f => f), alloc_block x0 _, by omega, by omega, by simp⟩
    clear h0 k0 lb lg
    go_wp2_with fail
    have KK := hid HE.out.k
    refine (known_any _).mono ?_
    rintro e_ w1 ⟨rfl, k1⟩
    replace KK := hid (KK.out.trans k1)
    clear k1
    go_wp2_with fail
    go_ret
    exact ⟨rfl, KK.out⟩
  · have hb' : (n : Int) ≤ 60 := by omega
    clear hbig
    go_enter Try.func4, Try.ntmps4
    go_wp2_with fail
    refine (cells_any size _).mono ?_
    rintro e_ w_ ⟨m, hm1, hm2, rfl, hw_⟩
    subst w_
    go_wp2_with fail
    refine (begin_any m hm1 hm2 _).mono ?_
    rintro e_ x0 ⟨b, g, c, rfl, h0, k0, lb, lg⟩
    have HE : Hid (Fe w (x0.heap.size + 1) b g c x0.heap.size kd on bits wd (x0.alloc (.cells #[.int .u64 18, .int .u64 20] 26)) (B3 m)) := by
      have hsz : (w.alloc (.cells #[.int .i64 kd, .int .i64 on, .int .u64 bits, .int .u64 wd] 33)).heap.size = w.heap.size + 1 := by simp
      rw [hsz] at lb lg
      have hb := h0.ltb
      have hg := h0.ltg
      have kn := keeps_new x0 (.cells #[.int .u64 18, .int .u64 20] 26)
      exact hid ⟨h0.kept kn (fun f => f) (fun f => f), (beg_of hm1 hm2).2.2.2.2, ((keeps_new w _).trans k0).trans kn, ((blk_new w _ _).kept k0 (fun f => f)).kept kn (fun f => f), alloc_block x0 _, by omega, by omega, by simp⟩
    clear h0 k0 lb lg
    go_wp2_with fail
    go_loopw [10] (fun i wr => ∃ k : Nat, k ≤ n ∧ i = .int .i64 k ∧ Hid (∃ s j, Fe w (x0.heap.size + 1) b g c x0.heap.size kd on bits wd wr s ∧ Cn s j ∧ j ≤ JB k)) (fun i _ => n - (intOf i).toNat)
    case atStart =>
      obtain ⟨j, hj, hcn⟩ := (beg_of hm1 hm2).2.2.2.1
      exact ⟨0, by omega, rfl, hid ⟨_, j, HE.out, hcn, hj⟩⟩
    case round =>
      obtain ⟨k, hk, rfl, hr⟩ := hrel
      clear HE
      by_cases hlt : k < n
      · obtain ⟨s, j, hE, hcn, hj⟩ := hr.out
        obtain ⟨gs, off, rfl, kd1, on1, bits1, wd1, hx1, hy1, c0, c1, c2, c3⟩ := (HO.out.keeps hE.k) k hlt
        have hkn : (k : Int) < (n : Int) := by omega
        have hwk : IntKind.i64.wrap ((k : Int) + 1) = ((k + 1 : Nat) : Int) := by rw [IntKind.wrap_i64]; omega
        obtain ⟨⟨⟨R, e1⟩, s1⟩, eq1⟩ : ∃ r, callF 0 18 20 kd1 bits1 wd1 s = r := ⟨_, rfl⟩
        have HE1 := hid eq1
        have hf0 : s.f < 0 := by rw [hE.f]; decide
        have HQ : Hid (∃ j', Cn s1 j' ∧ j' ≤ JB (k + 1) ∧ s1.f = -1) := by
          obtain ⟨T, hT, q⟩ := ex_call hf0 hcn (JB_top hj (by omega)) 0 18 20 kd1 bits1 wd1
          have q1 := q.cn
          have q2 := q.fc
          rw [eq1] at q1 q2
          exact hid ⟨_, q1, JB_add hj hT, q2.trans hE.f⟩
        have a0 := hE.ar.c0
        have a1 := hE.ar.c1
        have HC : Hid (∀ q, Calls Try.prog 11 #[.iface 24 (.pointer (some ⟨b, 0, none⟩)), .int .u64 0, .int .u64 18, .int .u64 20, .agg #[.int .i64 kd1, .int .i64 on1, .int .u64 bits1, .int .u64 wd1]] (wr.drewN q) fun e w' => (∃ n x y z l, e = .returned (.agg #[.float .f64 n, .int .u64 x, .bool y, .int .u64 z, l, .int .i64 e1])) ∧ ∃ j', Fe w (x0.heap.size + 1) b g c x0.heap.size kd on bits wd w' s1 ∧ Cn s1 j' ∧ j' ≤ JB (k + 1)) := fun q =>
          (do_ok HE1 zero_isW w18 w20 hx1 hy1 (hE.wd.drewN q)).mono fun e w' ⟨h1, h2, k2⟩ => by
            obtain ⟨j', z1, z2, z3⟩ := HQ.out
            exact ⟨h1, j', (hE.new ((Keeps.refl _ _).drewN q)).acc k2 h2 z3, z1, z2⟩
        clear hE hcn hj hr eq1 HE1 HQ hf0 HO
        go_wp2_with fail
        refine wp_region_tail 10 (by kernel_rfl) (by kernel_rfl) ?_
        simp only [List.take_succ_cons, List.take_zero, List.drop_succ_cons, List.drop_zero]
        repeat (go_big_quiet_step (fail))
        refine wpQuiet_nil ?_
        intro _ hw'
        obtain ⟨nq, hw''⟩ := hw'
        subst hw''
        try simp only [World.drewN_drewN]
        go_wp2_with fail
        refine (HC.out _).mono ?_
        rintro e_ w2 ⟨⟨v0, v1, v2, v3, v4, rfl⟩, j', z⟩
        have HN := hid z
        clear z HC c0 c1 c2 c3 a0 a1
        go_wp2_with fail
        go_roundw
        case rel => exact ⟨k + 1, by omega, by simp, hid ⟨s1, j', HN.out⟩⟩
        case measure => simp [intOf]; omega
      · obtain rfl : k = n := by omega
        obtain ⟨s, j, hE, _, _⟩ := hr.out
        clear hlt hr HO hk
        obtain ⟨⟨⟨R, e1⟩, s1⟩, eq1⟩ : ∃ r, callF 0 18 20 kd bits wd ⟨s.W, 0, 0, -1, 0⟩ = r := ⟨_, rfl⟩
        have hsW := hE.wd.ok
        obtain ⟨T, hT, hcT, hl1, hlo, hhi⟩ := fail_call s.W 0 18 20 kd bits wd eq1
        have hTB : T ≤ 30000000000 := hT
        have HE1 := hid eq1
        have HLO := hid hlo
        have HL1 := hid hl1
        have HHI := hid hhi
        have hwT : IntKind.i64.wrap (s1.g + s1.p) = (T : Int) := by rw [hcT.2.2, IntKind.wrap_i64]; omega
        have u0 := hE.wd.cell0
        have HX := hid hE
        clear hE eq1 hlo hhi hcT hT hl1
        go_wp2_with fail
        refine (over_any _ s.W hsW.1 hsW.2 _ HX.out.wd.lies).mono ?_
        rintro e_ x1 ⟨b1, g1, c1, rfl, h1, k1, lb, lg⟩
        have hsz := HX.out.sz
        replace HX := hid (HX.out.new k1)
        have HB1 : Hid (x0.heap.size + 1 ≤ b1 ∧ x0.heap.size + 1 ≤ g1) := hid ⟨by omega, by omega⟩
        have H1 := hid h1
        have a0 := HX.out.ar.c0
        have a1 := HX.out.ar.c1
        have t0 := HX.out.s0
        have t1 := HX.out.s1
        have t2 := HX.out.s2
        have t3 := HX.out.s3
        clear h1 k1 lb lg hsz u0
        go_wp2_with fail
        have hh := H1.out
        refine (do_ok HE1 zero_isW w18 w20 hbits hwd hh).mono ?_
        rintro e_ x2 ⟨⟨v0, v1, v2, v3, v4, rfl⟩, h2, k2⟩
        replace HX := hid (HX.out.own k2 (by rintro i (e | e) <;> (have := HB1.out; omega)))
        obtain ⟨N1, HG⟩ : ∃ N1, Hid (Fg N1 b1 g1 c1 x2 s1) := ⟨x2.heap.size, hid ⟨h2, ⟨h2.ltb, h2.ltg⟩, Nat.le_refl _⟩⟩
        clear hh h2 k2 H1 a0 a1 t0 t1 t2 t3
        have g1c := HG.out.wd.cell1
        have g2c := HG.out.wd.cell2
        go_wp2_with fail
        go_quiet (fail)
        have HZ : Hid (∀ q, Fe w (x0.heap.size + 1) b g c x0.heap.size kd on bits wd (x2.drewN q) s ∧ Fg N1 b1 g1 c1 (x2.drewN q) s1) := fun q => ⟨HX.out.new ((Keeps.refl _ _).drewN q), HG.out.new ((Keeps.refl _ _).drewN q)⟩
        clear g1c g2c HX HG
        go_wp2_with fail
        go_loopw [13] (fun i wr => ∃ k : Nat, k ≤ T ∧ k ≤ 120 ∧ i = .int .i64 k ∧ Hid (Fe w (x0.heap.size + 1) b g c x0.heap.size kd on bits wd wr s ∧ Fg N1 b1 g1 c1 wr s1)) (fun i _ => 120 - (intOf i).toNat)
        case atStart => exact ⟨0, by omega, by omega, rfl, hid (HZ.out _)⟩
        case round =>
          obtain ⟨k', hk1, hk2, rfl, hr⟩ := hrel
          clear HZ
          by_cases hkT : k' < T
          · by_cases hk60 : k' < 120
            · by_cases hp : k' % 2 = 1
              · skip
                obtain ⟨s2, eqk, hc2, hsc⟩ := HLO.out k' 5 (by decide) hkT
                have HEK := hid eqk
                have hw2 : IntKind.i64.wrap (s2.g + s2.p) = (k' : Int) + 1 := by rw [hc2.2.2, IntKind.wrap_i64]; omega
                have hwk1 : IntKind.i64.wrap ((k' : Int) + 1) = (k' : Int) + 1 := by rw [IntKind.wrap_i64]; omega
                clear eqk hc2
                have hkT' : (k' : Int) < (T : Int) := by omega
                have hk60' : (k' : Int) < 120 := by omega
                have hmod2 : (k' : Int) % 2 = 1 := by omega
                have hmod : (k' : Int).tmod 2 = 1 := by rw [Int.tmod_eq_emod_of_nonneg (by omega)]; exact hmod2
                have u0 := hr.out.1.wd.cell0
                go_wp2_with fail
                refine (over_any _ s.W hsW.1 hsW.2 _ hr.out.1.wd.lies).mono ?_
                rintro e_ y1 ⟨b2, g2, c2, rfl, h1, k1, lb, lg⟩
                have HX := hid (hr.out.1.new k1)
                have HG := hid (hr.out.2.new k1)
                have HB2 : Hid (N1 ≤ b2 ∧ N1 ≤ g2 ∧ x0.heap.size + 1 ≤ b2 ∧ x0.heap.size + 1 ≤ g2) := by
                  have z1 := hr.out.2.sz
                  have z2 := hr.out.1.sz
                  exact hid ⟨by omega, by omega, by omega, by omega⟩
                have H1 := hid h1
                have d3 := h1.cell3
                have d4 := h1.cell4
                have f3 := h1.frozen 3
                have f4 := h1.frozen 4
                clear h1 k1 lb lg u0 hr
                have H2 : Hid (WdAt (((y1.setCell ⟨b2, 3, none⟩ (.int .i64 (k' : Int))).setCell ⟨b2, 4, none⟩ (.int .i64 8)).setCell ⟨b2, 4, none⟩ (.int .i64 5)) b2 g2 c2 ⟨s.W, 0, 0, (k' : Int), 5⟩ ∧ Keeps (fun i => i = b2) y1 (((y1.setCell ⟨b2, 3, none⟩ (.int .i64 (k' : Int))).setCell ⟨b2, 4, none⟩ (.int .i64 8)).setCell ⟨b2, 4, none⟩ (.int .i64 5))) := hid ⟨((H1.out.failAt (k' : Int)).err 8).err 5, ((keeps_set y1 b2 3 _).trans (keeps_set _ b2 4 _)).trans (keeps_set _ b2 4 _)⟩
                have HX2 := hid (HX.out.own H2.out.2 (fun i e => by have := HB2.out; omega))
                have HG2 := hid (HG.out.own H2.out.2 (fun i e => by have := HB2.out; omega))
                clear HX HG H1
                have a0 := HX2.out.ar.c0
                have a1 := HX2.out.ar.c1
                have t0 := HX2.out.s0
                have t1 := HX2.out.s1
                have t2 := HX2.out.s2
                have t3 := HX2.out.s3
                go_wp2_with fail
                generalize (((y1.setCell ⟨b2, 3, none⟩ (.int .i64 (k' : Int))).setCell ⟨b2, 4, none⟩ (.int .i64 8)).setCell ⟨b2, 4, none⟩ (.int .i64 5)) = Y at H2 HX2 HG2 a0 a1 t0 t1 t2 t3 ⊢
                clear d3 d4 f3 f4
                have hh := H2.out.1
                refine (do_no HEK zero_isW w18 w20 hbits hwd hh).mono ?_
                rintro e_ y2 ⟨a2, c2', rfl, h2, k2⟩
                have HX3 := hid ((HX2.out.own k2 (by rintro i (e | e) <;> (have := HB2.out; omega))).new (keeps_new y2 (.cells #[.float .f64 0, .int .u64 0, .bool false, .int .u64 0, .slice a2 0 c2', .int .i64 5] 43)))
                have HG3 := hid ((HG2.out.own k2 (by rintro i (e | e) <;> (have := HB2.out; omega))).new (keeps_new y2 (.cells #[.float .f64 0, .int .u64 0, .bool false, .int .u64 0, .slice a2 0 c2', .int .i64 5] 43)))
                have HF : Hid (WdAt (y2.alloc (.cells #[.float .f64 0, .int .u64 0, .bool false, .int .u64 0, .slice a2 0 c2', .int .i64 5] 43)) b2 g2 c2 s2 ∧ Blk (y2.alloc (.cells #[.float .f64 0, .int .u64 0, .bool false, .int .u64 0, .slice a2 0 c2', .int .i64 5] 43)) y2.heap.size 43 #[.float .f64 0, .int .u64 0, .bool false, .int .u64 0, .slice a2 0 c2', .int .i64 5]) := hid ⟨h2.kept (keeps_new _ _) (fun f => f) (fun f => f), blk_new y2 _ _⟩
                clear hh h2 k2 H2 HX2 HG2 a0 a1 t0 t1 t2 t3
                go_wp2_with fail
                generalize y2.alloc (.cells #[.float .f64 0, .int .u64 0, .bool false, .int .u64 0, .slice a2 0 c2', .int .i64 5] 43) = Y4 at HX3 HG3 HF ⊢
                have p0 : Y4.cell? ⟨y2.heap.size, 0, none⟩ = some (.float .f64 0) := HF.out.2.cell rfl
                have p1 : Y4.cell? ⟨y2.heap.size, 1, none⟩ = some (.int .u64 0) := HF.out.2.cell rfl
                have p2 : Y4.cell? ⟨y2.heap.size, 2, none⟩ = some (.bool false) := HF.out.2.cell rfl
                have p3 : Y4.cell? ⟨y2.heap.size, 3, none⟩ = some (.int .u64 0) := HF.out.2.cell rfl
                have p4 : Y4.cell? ⟨y2.heap.size, 4, none⟩ = some (.slice a2 0 c2') := HF.out.2.cell rfl
                have p5 : Y4.cell? ⟨y2.heap.size, 5, none⟩ = some (.int .i64 5) := HF.out.2.cell rfl
                have e4 := HF.out.1.cell4
                rw [hsc] at e4
                refine wp_region_segs [(true, 9), (false, 1), (true, 16)] (by kernel_rfl) (by kernel_rfl) ?_
                intro q0
                simp only [wpSeg, List.take_succ_cons, List.take_zero, List.drop_succ_cons, List.drop_zero]
                repeat (go_big_quiet_step (fail))
                refine wpQuiet_nil ?_
                intro _ hw'
                obtain ⟨q1, hw''⟩ := hw'
                subst hw''
                try simp only [World.drewN_drewN]
                intro K hK'
                go_wp2_with fail
                refine (none_sl _ _ _ _).mono ?_
                rintro e_ y5 ⟨rfl, k5⟩
                have k5' : Keeps (fun _ => False) Y4 y5 := ((Keeps.refl (fun _ => False) Y4).drewN (q0 + q1)).trans k5
                have HX5 := hid (HX3.out.new k5')
                have HG5 := hid (HG3.out.new k5')
                have hwd5 := HF.out.1.kept k5' (fun f => f) (fun f => f)
                have z1 := hwd5.cell1
                have z2 := hwd5.cell2
                clear k5 k5' hwd5 HX3 HG3 HF p0 p1 p2 p3 p4 p5 e4
                go_wp2_with fail
                repeat (go_big_quiet_step (fail))
                refine wpQuiet_nil ?_
                intro _ hw'
                obtain ⟨q2, hw''⟩ := hw'
                subst hw''
                try simp only [World.drewN_drewN]
                have HN : Hid (∀ q, Fe w (x0.heap.size + 1) b g c x0.heap.size kd on bits wd (y5.drewN q) s ∧ Fg N1 b1 g1 c1 (y5.drewN q) s1) := fun q => ⟨HX5.out.new ((Keeps.refl _ _).drewN q), HG5.out.new ((Keeps.refl _ _).drewN q)⟩
                clear HX5 HG5 z1 z2
                go_wp2_with fail
                go_roundw
                case rel => exact ⟨k' + 1, by omega, by omega, by simp, hid (HN.out _)⟩
                case measure => simp [intOf]; omega
              · skip
                obtain ⟨s2, eqk, hc2, hsc⟩ := HLO.out k' 8 (by decide) hkT
                have HEK := hid eqk
                have hw2 : IntKind.i64.wrap (s2.g + s2.p) = (k' : Int) + 1 := by rw [hc2.2.2, IntKind.wrap_i64]; omega
                have hwk1 : IntKind.i64.wrap ((k' : Int) + 1) = (k' : Int) + 1 := by rw [IntKind.wrap_i64]; omega
                clear eqk hc2
                have hkT' : (k' : Int) < (T : Int) := by omega
                have hk60' : (k' : Int) < 120 := by omega
                have hmod2 : (k' : Int) % 2 = 0 := by omega
                have hmod : (k' : Int).tmod 2 = 0 := by rw [Int.tmod_eq_emod_of_nonneg (by omega)]; exact hmod2
                have u0 := hr.out.1.wd.cell0
                go_wp2_with fail
                refine (over_any _ s.W hsW.1 hsW.2 _ hr.out.1.wd.lies).mono ?_
                rintro e_ y1 ⟨b2, g2, c2, rfl, h1, k1, lb, lg⟩
                have HX := hid (hr.out.1.new k1)
                have HG := hid (hr.out.2.new k1)
                have HB2 : Hid (N1 ≤ b2 ∧ N1 ≤ g2 ∧ x0.heap.size + 1 ≤ b2 ∧ x0.heap.size + 1 ≤ g2) := by
                  have z1 := hr.out.2.sz
                  have z2 := hr.out.1.sz
                  exact hid ⟨by omega, by omega, by omega, by omega⟩
                have H1 := hid h1
                have d3 := h1.cell3
                have d4 := h1.cell4
                have f3 := h1.frozen 3
                have f4 := h1.frozen 4
                clear h1 k1 lb lg u0 hr
                have H2 : Hid (WdAt ((y1.setCell ⟨b2, 3, none⟩ (.int .i64 (k' : Int))).setCell ⟨b2, 4, none⟩ (.int .i64 8)) b2 g2 c2 ⟨s.W, 0, 0, (k' : Int), 8⟩ ∧ Keeps (fun i => i = b2) y1 ((y1.setCell ⟨b2, 3, none⟩ (.int .i64 (k' : Int))).setCell ⟨b2, 4, none⟩ (.int .i64 8))) := hid ⟨(H1.out.failAt (k' : Int)).err 8, (keeps_set y1 b2 3 _).trans (keeps_set _ b2 4 _)⟩
                have HX2 := hid (HX.out.own H2.out.2 (fun i e => by have := HB2.out; omega))
                have HG2 := hid (HG.out.own H2.out.2 (fun i e => by have := HB2.out; omega))
                clear HX HG H1
                have a0 := HX2.out.ar.c0
                have a1 := HX2.out.ar.c1
                have t0 := HX2.out.s0
                have t1 := HX2.out.s1
                have t2 := HX2.out.s2
                have t3 := HX2.out.s3
                go_wp2_with fail
                generalize ((y1.setCell ⟨b2, 3, none⟩ (.int .i64 (k' : Int))).setCell ⟨b2, 4, none⟩ (.int .i64 8)) = Y at H2 HX2 HG2 a0 a1 t0 t1 t2 t3 ⊢
                clear d3 d4 f3 f4
                have hh := H2.out.1
                refine (do_no HEK zero_isW w18 w20 hbits hwd hh).mono ?_
                rintro e_ y2 ⟨a2, c2', rfl, h2, k2⟩
                have HX3 := hid ((HX2.out.own k2 (by rintro i (e | e) <;> (have := HB2.out; omega))).new (keeps_new y2 (.cells #[.float .f64 0, .int .u64 0, .bool false, .int .u64 0, .slice a2 0 c2', .int .i64 8] 43)))
                have HG3 := hid ((HG2.out.own k2 (by rintro i (e | e) <;> (have := HB2.out; omega))).new (keeps_new y2 (.cells #[.float .f64 0, .int .u64 0, .bool false, .int .u64 0, .slice a2 0 c2', .int .i64 8] 43)))
                have HF : Hid (WdAt (y2.alloc (.cells #[.float .f64 0, .int .u64 0, .bool false, .int .u64 0, .slice a2 0 c2', .int .i64 8] 43)) b2 g2 c2 s2 ∧ Blk (y2.alloc (.cells #[.float .f64 0, .int .u64 0, .bool false, .int .u64 0, .slice a2 0 c2', .int .i64 8] 43)) y2.heap.size 43 #[.float .f64 0, .int .u64 0, .bool false, .int .u64 0, .slice a2 0 c2', .int .i64 8]) := hid ⟨h2.kept (keeps_new _ _) (fun f => f) (fun f => f), blk_new y2 _ _⟩
                clear hh h2 k2 H2 HX2 HG2 a0 a1 t0 t1 t2 t3
                go_wp2_with fail
                generalize y2.alloc (.cells #[.float .f64 0, .int .u64 0, .bool false, .int .u64 0, .slice a2 0 c2', .int .i64 8] 43) = Y4 at HX3 HG3 HF ⊢
                have p0 : Y4.cell? ⟨y2.heap.size, 0, none⟩ = some (.float .f64 0) := HF.out.2.cell rfl
                have p1 : Y4.cell? ⟨y2.heap.size, 1, none⟩ = some (.int .u64 0) := HF.out.2.cell rfl
                have p2 : Y4.cell? ⟨y2.heap.size, 2, none⟩ = some (.bool false) := HF.out.2.cell rfl
                have p3 : Y4.cell? ⟨y2.heap.size, 3, none⟩ = some (.int .u64 0) := HF.out.2.cell rfl
                have p4 : Y4.cell? ⟨y2.heap.size, 4, none⟩ = some (.slice a2 0 c2') := HF.out.2.cell rfl
                have p5 : Y4.cell? ⟨y2.heap.size, 5, none⟩ = some (.int .i64 8) := HF.out.2.cell rfl
                have e4 := HF.out.1.cell4
                rw [hsc] at e4
                refine wp_region_segs [(true, 9), (false, 1), (true, 16)] (by kernel_rfl) (by kernel_rfl) ?_
                intro q0
                simp only [wpSeg, List.take_succ_cons, List.take_zero, List.drop_succ_cons, List.drop_zero]
                repeat (go_big_quiet_step (fail))
                refine wpQuiet_nil ?_
                intro _ hw'
                obtain ⟨q1, hw''⟩ := hw'
                subst hw''
                try simp only [World.drewN_drewN]
                intro K hK'
                go_wp2_with fail
                refine (none_sl _ _ _ _).mono ?_
                rintro e_ y5 ⟨rfl, k5⟩
                have k5' : Keeps (fun _ => False) Y4 y5 := ((Keeps.refl (fun _ => False) Y4).drewN (q0 + q1)).trans k5
                have HX5 := hid (HX3.out.new k5')
                have HG5 := hid (HG3.out.new k5')
                have hwd5 := HF.out.1.kept k5' (fun f => f) (fun f => f)
                have z1 := hwd5.cell1
                have z2 := hwd5.cell2
                clear k5 k5' hwd5 HX3 HG3 HF p0 p1 p2 p3 p4 p5 e4
                go_wp2_with fail
                repeat (go_big_quiet_step (fail))
                refine wpQuiet_nil ?_
                intro _ hw'
                obtain ⟨q2, hw''⟩ := hw'
                subst hw''
                try simp only [World.drewN_drewN]
                have HN : Hid (∀ q, Fe w (x0.heap.size + 1) b g c x0.heap.size kd on bits wd (y5.drewN q) s ∧ Fg N1 b1 g1 c1 (y5.drewN q) s1) := fun q => ⟨HX5.out.new ((Keeps.refl _ _).drewN q), HG5.out.new ((Keeps.refl _ _).drewN q)⟩
                clear HX5 HG5 z1 z2
                go_wp2_with fail
                go_roundw
                case rel => exact ⟨k' + 1, by omega, by omega, by simp, hid (HN.out _)⟩
                case measure => simp [intOf]; omega
            · have hkT' : (k' : Int) < (T : Int) := by omega
              have hge : ¬ ((k' : Int) < 120) := by omega
              obtain ⟨s3, eq3, hs3⟩ := HHI.out 8 (by decide)
              have HE3 := hid eq3
              clear eq3
              have hl1' : s1.W.length ≤ 17592186044416 := by rw [HL1.out]; exact Nat.le_trans hsW.2 (by omega)
              have u0 := hr.out.1.wd.cell0
              go_wp2_with fail
              refine (over_any _ s.W hsW.1 hsW.2 _ hr.out.1.wd.lies).mono ?_
              rintro e_ y1 ⟨b3, g3, c3, rfl, h1, k1, lb, lg⟩
              have HX := hid (hr.out.1.new k1)
              have HG := hid (hr.out.2.new k1)
              have HB3 : Hid (N1 ≤ b3 ∧ N1 ≤ g3 ∧ x0.heap.size + 1 ≤ b3 ∧ x0.heap.size + 1 ≤ g3) := by
                have z1 := hr.out.2.sz
                have z2 := hr.out.1.sz
                exact hid ⟨by omega, by omega, by omega, by omega⟩
              have H1 := hid h1
              have d3 := h1.cell3
              have d4 := h1.cell4
              have f3 := h1.frozen 3
              have f4 := h1.frozen 4
              clear h1 k1 lb lg u0 hr
              have H2 : Hid (WdAt ((y1.setCell ⟨b3, 3, none⟩ (.int .i64 (T : Int))).setCell ⟨b3, 4, none⟩ (.int .i64 8)) b3 g3 c3 ⟨s.W, 0, 0, (T : Int), 8⟩ ∧ Keeps (fun i => i = b3) y1 ((y1.setCell ⟨b3, 3, none⟩ (.int .i64 (T : Int))).setCell ⟨b3, 4, none⟩ (.int .i64 8))) := hid ⟨(H1.out.failAt (T : Int)).err 8, (keeps_set y1 b3 3 _).trans (keeps_set _ b3 4 _)⟩
              replace HX := hid (HX.out.own H2.out.2 (fun i e => by have := HB3.out; omega))
              replace HG := hid (HG.out.own H2.out.2 (fun i e => by have := HB3.out; omega))
              have a0 := HX.out.ar.c0
              have a1 := HX.out.ar.c1
              have t0 := HX.out.s0
              have t1 := HX.out.s1
              have t2 := HX.out.s2
              have t3 := HX.out.s3
              clear H1
              go_wp2_with fail
              generalize ((y1.setCell ⟨b3, 3, none⟩ (.int .i64 (T : Int))).setCell ⟨b3, 4, none⟩ (.int .i64 8)) = Y at H2 HX HG a0 a1 t0 t1 t2 t3 ⊢
              clear d3 d4 f3 f4
              refine (do_ok HE3 zero_isW w18 w20 hbits hwd H2.out.1).mono ?_
              rintro e_ z2 ⟨⟨v0, v1, v2, v3, v4, rfl⟩, h3, k3⟩
              replace HX := hid (HX.out.own k3 (by rintro i (e | e) <;> (have := HB3.out; omega)))
              replace HG := hid (HG.out.own k3 (by rintro i (e | e) <;> (have := HB3.out; omega)))
              have H3 := hid h3
              clear h3 k3 a0 a1 t0 t1 t2 t3 H2
              go_wp2_with fail
              have u3 := H3.out.cell0
              have u1 := HG.out.wd.cell0
              rw [hs3] at u3
              refine wp_region_segs [(true, 8), (false, 5)] (by kernel_rfl) (by kernel_rfl) ?_
              intro q0
              simp only [wpSeg, List.take_succ_cons, List.take_zero, List.drop_succ_cons, List.drop_zero]
              repeat (go_big_quiet_step (fail))
              refine wpQuiet_nil ?_
              intro _ hw'
              obtain ⟨q1, hw''⟩ := hw'
              subst hw''
              try simp only [World.drewN_drewN]
              intro K2 hK'
              go_wp2_with fail
              have hL3 : Lies (z2.drewN (q0 + q1)) (.slice (adr g3 c3) s1.W.length c3) s1.W := by
                have q := (H3.out.drewN (q0 + q1)).lies
                rw [hs3] at q
                exact q
              refine (words_same _ _ s1.W hl1' _ hL3 (HG.out.wd.drewN (q0 + q1)).lies).mono ?_
              rintro e_ z4 ⟨rfl, mq, hw4⟩
              have HK : Hid (Keeps (fun _ => False) w z4) := by rw [hw4]; exact hid (HX.out.k.trans (((Keeps.refl _ _).drewN _).trans ((Keeps.refl _ _).drewN mq)))
              clear hw4 hL3 u3 u1 HX HG H3
              go_wp2_with fail
              refine (known_any _).mono ?_
              rintro e_ z5 ⟨rfl, k5⟩
              replace HK := hid (HK.out.trans k5)
              clear k5
              go_wp2_with fail
              go_ret
              exact ⟨rfl, HK.out⟩
          · have hge : ¬ ((k' : Int) < (T : Int)) := by omega
            obtain ⟨s3, eq3, hs3⟩ := HHI.out 8 (by decide)
            have HE3 := hid eq3
            clear eq3
            have hl1' : s1.W.length ≤ 17592186044416 := by rw [HL1.out]; exact Nat.le_trans hsW.2 (by omega)
            have u0 := hr.out.1.wd.cell0
            go_wp2_with fail
            refine (over_any _ s.W hsW.1 hsW.2 _ hr.out.1.wd.lies).mono ?_
            rintro e_ y1 ⟨b3, g3, c3, rfl, h1, k1, lb, lg⟩
            have HX := hid (hr.out.1.new k1)
            have HG := hid (hr.out.2.new k1)
            have HB3 : Hid (N1 ≤ b3 ∧ N1 ≤ g3 ∧ x0.heap.size + 1 ≤ b3 ∧ x0.heap.size + 1 ≤ g3) := by
              have z1 := hr.out.2.sz
              have z2 := hr.out.1.sz
              exact hid ⟨by omega, by omega, by omega, by omega⟩
            have H1 := hid h1
            have d3 := h1.cell3
            have d4 := h1.cell4
            have f3 := h1.frozen 3
            have f4 := h1.frozen 4
            clear h1 k1 lb lg u0 hr
            have H2 : Hid (WdAt ((y1.setCell ⟨b3, 3, none⟩ (.int .i64 (T : Int))).setCell ⟨b3, 4, none⟩ (.int .i64 8)) b3 g3 c3 ⟨s.W, 0, 0, (T : Int), 8⟩ ∧ Keeps (fun i => i = b3) y1 ((y1.setCell ⟨b3, 3, none⟩ (.int .i64 (T : Int))).setCell ⟨b3, 4, none⟩ (.int .i64 8))) := hid ⟨(H1.out.failAt (T : Int)).err 8, (keeps_set y1 b3 3 _).trans (keeps_set _ b3 4 _)⟩
            replace HX := hid (HX.out.own H2.out.2 (fun i e => by have := HB3.out; omega))
            replace HG := hid (HG.out.own H2.out.2 (fun i e => by have := HB3.out; omega))
            have a0 := HX.out.ar.c0
            have a1 := HX.out.ar.c1
            have t0 := HX.out.s0
            have t1 := HX.out.s1
            have t2 := HX.out.s2
            have t3 := HX.out.s3
            clear H1
            go_wp2_with fail
            generalize ((y1.setCell ⟨b3, 3, none⟩ (.int .i64 (T : Int))).setCell ⟨b3, 4, none⟩ (.int .i64 8)) = Y at H2 HX HG a0 a1 t0 t1 t2 t3 ⊢
            clear d3 d4 f3 f4
            refine (do_ok HE3 zero_isW w18 w20 hbits hwd H2.out.1).mono ?_
            rintro e_ z2 ⟨⟨v0, v1, v2, v3, v4, rfl⟩, h3, k3⟩
            replace HX := hid (HX.out.own k3 (by rintro i (e | e) <;> (have := HB3.out; omega)))
            replace HG := hid (HG.out.own k3 (by rintro i (e | e) <;> (have := HB3.out; omega)))
            have H3 := hid h3
            clear h3 k3 a0 a1 t0 t1 t2 t3 H2
            go_wp2_with fail
            have u3 := H3.out.cell0
            have u1 := HG.out.wd.cell0
            rw [hs3] at u3
            refine wp_region_segs [(true, 8), (false, 5)] (by kernel_rfl) (by kernel_rfl) ?_
            intro q0
            simp only [wpSeg, List.take_succ_cons, List.take_zero, List.drop_succ_cons, List.drop_zero]
            repeat (go_big_quiet_step (fail))
            refine wpQuiet_nil ?_
            intro _ hw'
            obtain ⟨q1, hw''⟩ := hw'
            subst hw''
            try simp only [World.drewN_drewN]
            intro K2 hK'
            go_wp2_with fail
            have hL3 : Lies (z2.drewN (q0 + q1)) (.slice (adr g3 c3) s1.W.length c3) s1.W := by
              have q := (H3.out.drewN (q0 + q1)).lies
              rw [hs3] at q
              exact q
            refine (words_same _ _ s1.W hl1' _ hL3 (HG.out.wd.drewN (q0 + q1)).lies).mono ?_
            rintro e_ z4 ⟨rfl, mq, hw4⟩
            have HK : Hid (Keeps (fun _ => False) w z4) := by rw [hw4]; exact hid (HX.out.k.trans (((Keeps.refl _ _).drewN _).trans ((Keeps.refl _ _).drewN mq)))
            clear hw4 hL3 u3 u1 HX HG H3
            go_wp2_with fail
            refine (known_any _).mono ?_
            rintro e_ z5 ⟨rfl, k5⟩
            replace HK := hid (HK.out.trans k5)
            clear k5
            go_wp2_with fail
            go_ret
            exact ⟨rfl, HK.out⟩
end Go.Proofs.Ythlbeohogfjamaa
