
/- The law ListErrors, walked (layer 21). No statement of the seat is proved here. -/
import Derived.Test.YtbdekpccddmehaaLeG
namespace Go.Proofs.Ytbdekpccddmehaa
open Go.RowKit

set_option maxRecDepth 100000 in
set_option maxHeartbeats 8000000 in
theorem errors_walk (size : Int) (a : Option Addr) (n c' : Nat) (kd on key : Int) (hkey : isW key) (w : World) (ho : StepsAt w a n) (hnb : n * 24 ≤ 140737488351232) : Calls Try.prog 4 #[.int .i64 size, .slice a n c', .agg #[.int .i64 kd, .int .i64 on, .int .u64 key]] w fun e w' => e = .returned (.bool true) ∧ Keeps (fun _ => False) w w' := by
  have HO := hid ho
  clear ho
  have w18 : isW 18 := lit_isW 18 (by omega)
  have hnn : n < 9223372036854775808 := by omega
  clear hnb
  by_cases hbig : 60 < n
  · have hb' : (60 : Int) < (n : Int) := by omega
    go_enter Try.func4, Try.ntmps4
    go_wp2_with fail
    refine (cells_any size _).mono ?_
    rintro e_ w_ ⟨m, hm1, hm2, rfl, hw_⟩
    subst w_
    go_wp2_with fail
    refine (begin_any m hm1 hm2 _).mono ?_
    rintro e_ x0 ⟨b, g, c, rfl, h0, k0, lb, lg⟩
    have HE : Hid (Er w (x0.heap.size + 1) b g c x0.heap.size kd on key (x0.alloc (.cells #[.int .u64 18, .int .u64 20] 26)) (B3 m)) := by
      have hsz : (w.alloc (.cells #[.int .i64 kd, .int .i64 on, .int .u64 key] 33)).heap.size = w.heap.size + 1 := by simp
      rw [hsz] at lb lg
      have hb := h0.ltb
      have hg := h0.ltg
      have kn := keeps_new x0 (.cells #[.int .u64 18, .int .u64 20] 26)
      exact hid ⟨h0.kept kn (fun f => f) (fun f => f), (beg_of hm1 hm2).2.2.2.2, ((keeps_new w _).trans k0).trans kn, (kn.block _ (by omega) (fun f => f)).trans ((k0.block _ (by omega) (fun f => f)).trans (alloc_block w _)), alloc_block x0 _, by omega, by omega, by simp⟩
    clear h0 k0 lb lg
    go_wp2_with fail
    have KK := hid HE.out.k
    refine (known_any _).mono ?_
    rintro e_ w1 ⟨rfl, k1⟩
    replace KK := hid (KK.out.trans k1)
    clear k1
    go_wp2_with fail
    go_ret
    exact ⟨rfl, KK.out⟩
  · have hb' : (n : Int) ≤ 60 := by omega
    clear hbig
    go_enter Try.func4, Try.ntmps4
    go_wp2_with fail
    refine (cells_any size _).mono ?_
    rintro e_ w_ ⟨m, hm1, hm2, rfl, hw_⟩
    subst w_
    go_wp2_with fail
    refine (begin_any m hm1 hm2 _).mono ?_
    rintro e_ x0 ⟨b, g, c, rfl, h0, k0, lb, lg⟩
    have HE : Hid (Er w (x0.heap.size + 1) b g c x0.heap.size kd on key (x0.alloc (.cells #[.int .u64 18, .int .u64 20] 26)) (B3 m)) := by
      have hsz : (w.alloc (.cells #[.int .i64 kd, .int .i64 on, .int .u64 key] 33)).heap.size = w.heap.size + 1 := by simp
      rw [hsz] at lb lg
      have hb := h0.ltb
      have hg := h0.ltg
      have kn := keeps_new x0 (.cells #[.int .u64 18, .int .u64 20] 26)
      exact hid ⟨h0.kept kn (fun f => f) (fun f => f), (beg_of hm1 hm2).2.2.2.2, ((keeps_new w _).trans k0).trans kn, (kn.block _ (by omega) (fun f => f)).trans ((k0.block _ (by omega) (fun f => f)).trans (alloc_block w _)), alloc_block x0 _, by omega, by omega, by simp⟩
    clear h0 k0 lb lg
    go_wp2_with fail
    go_loopw [10] (fun i wr => ∃ k : Nat, k ≤ n ∧ i = .int .i64 k ∧ Hid (∃ s j, Er w (x0.heap.size + 1) b g c x0.heap.size kd on key wr s ∧ Cn s j ∧ j ≤ JB k)) (fun i _ => n - (intOf i).toNat)
    case atStart =>
      obtain ⟨j, hj, hcn⟩ := (beg_of hm1 hm2).2.2.2.1
      exact ⟨0, by omega, rfl, hid ⟨_, j, HE.out, hcn, hj⟩⟩
    case round =>
      obtain ⟨k, hk, rfl, hr⟩ := hrel
      clear HE
      by_cases hlt : k < n
      · obtain ⟨s, j, hE, hcn, hj⟩ := hr.out
        obtain ⟨gs, off, rfl, kd1, on1, x1, hx1, c0, c1, c2⟩ := (HO.out.keeps hE.k) k hlt
        have hkn : (k : Int) < (n : Int) := by omega
        have hwk : IntKind.i64.wrap ((k : Int) + 1) = ((k + 1 : Nat) : Int) := by rw [IntKind.wrap_i64]; omega
        by_cases h9 : kd1 = 9
        · subst h9
          have HN := hid (And.intro hE (And.intro hcn (JB_next hj)))
          clear hE hcn hj hr
          go_wp2_with fail
          go_roundw
          case rel => exact ⟨k + 1, by omega, by simp, hid ⟨s, j, HN.out⟩⟩
          case measure => simp [intOf]; omega
        · have h9b : (kd1 != 9) = true := by simpa using h9
          obtain ⟨⟨R, s1⟩, eq1⟩ : ∃ r, s.call 0 18 kd1 x1 = r := ⟨_, rfl⟩
          have HE1 := hid eq1
          have hf0 : s.f < 0 := by rw [hE.f]; decide
          have HQ : Hid (∃ j', Cn s1 j' ∧ j' ≤ JB (k + 1) ∧ s1.f = -1) := by
            obtain ⟨T, hT, q⟩ := ex_call hE.wd.ok hf0 hcn (JB_top hj (by omega)) 0 18 kd1 x1
            have q1 := q.cn
            have q2 := q.fc
            unfold callF at q1 q2
            rw [eq1] at q1 q2
            exact hid ⟨_, q1, JB_add hj hT, q2.trans hE.f⟩
          have a0 := hE.ar.c0
          have HX := hid hE
          have HC : Hid (∀ q, Calls Try.prog 11 #[.iface 24 (.pointer (some ⟨b, 0, none⟩)), .int .u64 0, .int .u64 18, .agg #[.int .i64 kd1, .int .i64 on1, .int .u64 x1]] (wr.drewN q) fun e w' => ∃ v, e = .returned (.agg #[.int .u64 R.w, .bool R.h, v, .int .i64 R.e]) ∧ ∃ j', Er w (x0.heap.size + 1) b g c x0.heap.size kd on key w' s1 ∧ Cn s1 j' ∧ j' ≤ JB (k + 1)) := fun q =>
            (do_r HE1 zero_isW w18 hx1 (.inr hf0) (hE.wd.drewN q)).mono fun e w' ⟨v, e1, _, h2, k2⟩ => by
              obtain ⟨j', z1, z2, z3⟩ := HQ.out
              exact ⟨v, e1, j', (hE.new ((Keeps.refl _ _).drewN q)).acc k2 h2 z3, z1, z2⟩
          clear hE hcn hj hr eq1 HE1 HQ HX hf0 HO
          go_wp2_with fail
          refine wp_region_tail 8 (by kernel_rfl) (by kernel_rfl) ?_
          simp only [List.take_succ_cons, List.take_zero, List.drop_succ_cons, List.drop_zero]
          repeat (go_big_quiet_step (fail))
          refine wpQuiet_nil ?_
          intro _ hw'
          obtain ⟨nq, hw''⟩ := hw'
          subst hw''
          try simp only [World.drewN_drewN]
          go_wp2_with fail
          refine (HC.out _).mono ?_
          rintro e_ w2 ⟨v, rfl, j', z⟩
          have HN := hid z
          clear z HC c0 c1 c2 a0
          go_wp2_with fail
          go_roundw
          case rel => exact ⟨k + 1, by omega, by simp, hid ⟨s1, j', HN.out⟩⟩
          case measure => simp [intOf]; omega
      · obtain rfl : k = n := by omega
        obtain ⟨s, j, hE, _, _⟩ := hr.out
        clear hlt hr HO hk
        obtain ⟨⟨R, s1⟩, eq1⟩ : ∃ r, (⟨s.W, 0, 0, -1, 0⟩ : Wd).call 0 18 kd key = r := ⟨_, rfl⟩
        have hsW := hE.wd.ok
        obtain ⟨T, hT, hcT, hl1, hlo, hhi⟩ := fail_call hsW 18 kd key eq1
        have hRl : R.L.length ≤ 17592186044416 := by
          have q := call_len (s := ⟨s.W, 0, 0, -1, 0⟩) hsW (.inr neg1) 0 18 kd key
          rw [eq1] at q
          exact Nat.le_trans q (by omega)
        have HE1 := hid eq1
        have HLO := hid hlo
        have HHI := hid hhi
        have hwT : IntKind.i64.wrap (s1.g + s1.p) = (T : Int) := by rw [hcT.2.2, IntKind.wrap_i64]; omega
        have u0 := hE.wd.cell0
        have HX := hid hE
        clear hE eq1 hlo hhi hcT
        go_wp2_with fail
        refine (over_any _ s.W hsW.1 hsW.2 _ HX.out.wd.lies).mono ?_
        rintro e_ x1 ⟨b1, g1, c1, rfl, h1, k1, lb, lg⟩
        have hsz := HX.out.sz
        replace HX := hid (HX.out.new k1)
        have HB1 : Hid (x0.heap.size + 1 ≤ b1 ∧ x0.heap.size + 1 ≤ g1) := hid ⟨by omega, by omega⟩
        have H1 := hid h1
        have a0 := HX.out.ar.c0
        have t0 := HX.out.s0
        have t1 := HX.out.s1
        have t2 := HX.out.s2
        clear h1 k1 lb lg hsz u0
        go_wp2_with fail
        have hh := H1.out
        refine (do_r HE1 zero_isW w18 hkey (.inr neg1) hh).mono ?_
        rintro e_ x2 ⟨v, rfl, r2, h2, k2⟩
        obtain ⟨av, cv, rfl⟩ := r2.form
        replace HX := hid (HX.out.own k2 (by rintro i (e | e) <;> (have := HB1.out; omega)))
        have HG : Hid (Eg (x2.heap.size + 1) b1 g1 c1 x2.heap.size x1.heap.size R (.slice av R.L.length cv) (x2.alloc (.cells #[.int .u64 R.w, .bool R.h, .slice av R.L.length cv, .int .i64 R.e] 38)) s1) := by
          have kn := keeps_new x2 (.cells #[.int .u64 R.w, .bool R.h, .slice av R.L.length cv, .int .i64 R.e] 38)
          have z1 := h2.ltb
          have z2 := h2.ltg
          exact hid ⟨h2.kept kn (fun f => f) (fun f => f), alloc_block x2 _, own_keeps r2 kn (fun _ _ f => f), by omega, fun i hi => by have := (own_block r2 hi).1; omega, by simp⟩
        replace HX := hid (HX.out.new (keeps_new x2 (.cells #[.int .u64 R.w, .bool R.h, .slice av R.L.length cv, .int .i64 R.e] 38)))
        clear hh h2 k2 r2 H1 a0 t0 t1 t2
        go_wp2_with fail
        generalize x2.alloc (.cells #[.int .u64 R.w, .bool R.h, .slice av R.L.length cv, .int .i64 R.e] 38) = X3 at HX HG ⊢
        have g1c := HG.out.wd.cell1
        have g2c := HG.out.wd.cell2
        go_quiet (fail)
        have HZ : Hid (∀ q, Er w (x0.heap.size + 1) b g c x0.heap.size kd on key (X3.drewN q) s ∧ Eg (x2.heap.size + 1) b1 g1 c1 x2.heap.size x1.heap.size R (.slice av R.L.length cv) (X3.drewN q) s1) := fun q => ⟨HX.out.new ((Keeps.refl _ _).drewN q), HG.out.own' (S := fun _ => False) ((Keeps.refl _ _).drewN q) (fun _ f => f.elim)⟩
        clear g1c g2c HX HG
        go_wp2_with fail
        go_loopw [14] (fun i wr => ∃ k : Nat, k ≤ T ∧ k ≤ 60 ∧ i = .int .i64 k ∧ Hid (Er w (x0.heap.size + 1) b g c x0.heap.size kd on key wr s ∧ Eg (x2.heap.size + 1) b1 g1 c1 x2.heap.size x1.heap.size R (.slice av R.L.length cv) wr s1)) (fun i _ => 60 - (intOf i).toNat)
        case atStart => exact ⟨0, by omega, by omega, rfl, hid (HZ.out _)⟩
        case round =>
          obtain ⟨k', hk1, hk2, rfl, hr⟩ := hrel
          clear HZ
          by_cases hkT : k' < T
          · by_cases hk60 : k' < 60
            · by_cases hp : k' % 2 = 1
              · skip
                obtain ⟨s2, eqk, hc2⟩ := HLO.out k' 5 (by decide) hkT
                have HEK := hid eqk
                have hw2 : IntKind.i64.wrap (s2.g + s2.p) = (k' : Int) + 1 := by rw [hc2.2.2, IntKind.wrap_i64]; omega
                have hwk1 : IntKind.i64.wrap ((k' : Int) + 1) = (k' : Int) + 1 := by rw [IntKind.wrap_i64]; omega
                clear eqk hc2
                have hkT' : (k' : Int) < (T : Int) := by omega
                have hk60' : (k' : Int) < 60 := by omega
                have hmod2 : (k' : Int) % 2 = 1 := by omega
                have hmod : (k' : Int).tmod 2 = 1 := by rw [Int.tmod_eq_emod_of_nonneg (by omega)]; exact hmod2
                have u0 := hr.out.1.wd.cell0
                go_wp2_with fail
                refine (over_any _ s.W hsW.1 hsW.2 _ hr.out.1.wd.lies).mono ?_
                rintro e_ y1 ⟨b2, g2, c2, rfl, h1, k1, lb, lg⟩
                have HX := hid (hr.out.1.new k1)
                have HG := hid (hr.out.2.own' k1 (fun _ f => f.elim))
                have HB2 : Hid (x2.heap.size + 1 ≤ b2 ∧ x2.heap.size + 1 ≤ g2 ∧ x0.heap.size + 1 ≤ b2 ∧ x0.heap.size + 1 ≤ g2) := by
                  have z1 := hr.out.2.sz
                  have z2 := hr.out.1.sz
                  exact hid ⟨by omega, by omega, by omega, by omega⟩
                have H1 := hid h1
                have d3 := h1.cell3
                have d4 := h1.cell4
                have f3 := h1.frozen 3
                have f4 := h1.frozen 4
                clear h1 k1 lb lg u0 hr
                have H2 : Hid (WdAt (((y1.setCell ⟨b2, 3, none⟩ (.int .i64 (k' : Int))).setCell ⟨b2, 4, none⟩ (.int .i64 8)).setCell ⟨b2, 4, none⟩ (.int .i64 5)) b2 g2 c2 ⟨s.W, 0, 0, (k' : Int), 5⟩ ∧ Keeps (fun i => i = b2) y1 (((y1.setCell ⟨b2, 3, none⟩ (.int .i64 (k' : Int))).setCell ⟨b2, 4, none⟩ (.int .i64 8)).setCell ⟨b2, 4, none⟩ (.int .i64 5))) := hid ⟨((H1.out.failAt (k' : Int)).err 8).err 5, ((keeps_cell y1 b2 3 _).trans (keeps_cell _ b2 4 _)).trans (keeps_cell _ b2 4 _)⟩
                have HX2 := hid (HX.out.own H2.out.2 (fun i e => by have := HB2.out; omega))
                have HG2 := hid (HG.out.own' H2.out.2 (fun i e => by have := HB2.out; omega))
                clear HX HG H1
                have a0 := HX2.out.ar.c0
                have t0 := HX2.out.s0
                have t1 := HX2.out.s1
                have t2 := HX2.out.s2
                go_wp2_with fail
                generalize (((y1.setCell ⟨b2, 3, none⟩ (.int .i64 (k' : Int))).setCell ⟨b2, 4, none⟩ (.int .i64 8)).setCell ⟨b2, 4, none⟩ (.int .i64 5)) = Y at H2 HX2 HG2 a0 t0 t1 t2 ⊢
                clear d3 d4 f3 f4
                have hh := H2.out.1
                refine (do_r HEK zero_isW w18 hkey (.inl (show (5 : Int) ≠ 0 by decide)) hh).mono ?_
                rintro e_ y2 ⟨v2, rfl, r2, h2, k2⟩
                obtain ⟨a2, c2', rfl⟩ := r2.form
                have HX3 := hid ((HX2.out.own k2 (by rintro i (e | e) <;> (have := HB2.out; omega))).new (keeps_new y2 (.cells #[.int .u64 0, .bool false, .slice a2 0 c2', .int .i64 5] 38)))
                have HG3 := hid ((HG2.out.own' k2 (by rintro i (e | e) <;> (have := HB2.out; omega))).own' (keeps_new y2 (.cells #[.int .u64 0, .bool false, .slice a2 0 c2', .int .i64 5] 38)) (fun _ f => f.elim))
                have HF : Hid (WdAt (y2.alloc (.cells #[.int .u64 0, .bool false, .slice a2 0 c2', .int .i64 5] 38)) b2 g2 c2 s2 ∧ RpAt (y2.alloc (.cells #[.int .u64 0, .bool false, .slice a2 0 c2', .int .i64 5] 38)) y2.heap.size 0 false (.slice a2 0 c2') 5 ∧ Lies (y2.alloc (.cells #[.int .u64 0, .bool false, .slice a2 0 c2', .int .i64 5] 38)) (.slice a2 0 c2') []) := hid ⟨h2.kept (keeps_new _ _) (fun f => f) (fun f => f), alloc_block y2 _, r2.lies.keeps (keeps_new _ _) (fun _ _ _ _ f => f)⟩
                have hsc : s2.c = 5 := by
                  have q := call_like ⟨s.W, 0, 0, (k' : Int), 5⟩ 0 18 kd key
                  rw [HEK.out] at q
                  exact q.1
                clear hh h2 k2 r2 H2 HX2 HG2 a0 t0 t1 t2
                go_wp2_with fail
                generalize y2.alloc (.cells #[.int .u64 0, .bool false, .slice a2 0 c2', .int .i64 5] 38) = Y4 at HX3 HG3 HF ⊢
                have p0 := HF.out.2.1.c0
                have p1 := HF.out.2.1.c1
                have p2 := HF.out.2.1.c2
                have p3 := HF.out.2.1.c3
                have e4 := HF.out.1.cell4
                rw [hsc] at e4
                refine wp_region_segs [(true, 6), (false, 1), (true, 15)] (by kernel_rfl) (by kernel_rfl) ?_
                intro q0
                simp only [wpSeg, List.take_succ_cons, List.take_zero, List.drop_succ_cons, List.drop_zero]
                repeat (go_big_quiet_step (fail))
                refine wpQuiet_nil ?_
                intro _ hw'
                obtain ⟨q1, hw''⟩ := hw'
                subst hw''
                try simp only [World.drewN_drewN]
                intro K hK'
                go_wp2_with fail
                have hln : Lies (Y4.drewN (q0 + q1)) (.slice none 0 0) [] := ⟨none, 0, rfl, fun i hi => absurd hi (by simp)⟩
                refine (same_any 0 5 false (.slice a2 0 c2') (.slice none 0 0) [] (by simp) _ (HF.out.2.2.keeps ((Keeps.refl (fun _ => False) Y4).drewN (q0 + q1)) (fun _ _ _ _ f => f)) hln).mono ?_
                rintro e_ y5 ⟨rfl, k5⟩
                have k5' : Keeps (fun _ => False) Y4 y5 := ((Keeps.refl (fun _ => False) Y4).drewN (q0 + q1)).trans k5
                have HX5 := hid (HX3.out.new k5')
                have HG5 := hid (HG3.out.own' k5' (fun _ f => f.elim))
                have hwd5 := HF.out.1.kept k5' (fun f => f) (fun f => f)
                have z1 := hwd5.cell1
                have z2 := hwd5.cell2
                clear k5 k5' hwd5 hln HX3 HG3 HF p0 p1 p2 p3 e4
                go_wp2_with fail
                repeat (go_big_quiet_step (fail))
                refine wpQuiet_nil ?_
                intro _ hw'
                obtain ⟨q2, hw''⟩ := hw'
                subst hw''
                try simp only [World.drewN_drewN]
                have HN : Hid (∀ q, Er w (x0.heap.size + 1) b g c x0.heap.size kd on key (y5.drewN q) s ∧ Eg (x2.heap.size + 1) b1 g1 c1 x2.heap.size x1.heap.size R (.slice av R.L.length cv) (y5.drewN q) s1) := fun q => ⟨HX5.out.new ((Keeps.refl _ _).drewN q), HG5.out.own' (S := fun _ => False) ((Keeps.refl _ _).drewN q) (fun _ f => f.elim)⟩
                clear HX5 HG5 z1 z2
                go_wp2_with fail
                go_roundw
                case rel => exact ⟨k' + 1, by omega, by omega, by simp, hid (HN.out _)⟩
                case measure => simp [intOf]; omega
              · skip
                obtain ⟨s2, eqk, hc2⟩ := HLO.out k' 8 (by decide) hkT
                have HEK := hid eqk
                have hw2 : IntKind.i64.wrap (s2.g + s2.p) = (k' : Int) + 1 := by rw [hc2.2.2, IntKind.wrap_i64]; omega
                have hwk1 : IntKind.i64.wrap ((k' : Int) + 1) = (k' : Int) + 1 := by rw [IntKind.wrap_i64]; omega
                clear eqk hc2
                have hkT' : (k' : Int) < (T : Int) := by omega
                have hk60' : (k' : Int) < 60 := by omega
                have hmod2 : (k' : Int) % 2 = 0 := by omega
                have hmod : (k' : Int).tmod 2 = 0 := by rw [Int.tmod_eq_emod_of_nonneg (by omega)]; exact hmod2
                have u0 := hr.out.1.wd.cell0
                go_wp2_with fail
                refine (over_any _ s.W hsW.1 hsW.2 _ hr.out.1.wd.lies).mono ?_
                rintro e_ y1 ⟨b2, g2, c2, rfl, h1, k1, lb, lg⟩
                have HX := hid (hr.out.1.new k1)
                have HG := hid (hr.out.2.own' k1 (fun _ f => f.elim))
                have HB2 : Hid (x2.heap.size + 1 ≤ b2 ∧ x2.heap.size + 1 ≤ g2 ∧ x0.heap.size + 1 ≤ b2 ∧ x0.heap.size + 1 ≤ g2) := by
                  have z1 := hr.out.2.sz
                  have z2 := hr.out.1.sz
                  exact hid ⟨by omega, by omega, by omega, by omega⟩
                have H1 := hid h1
                have d3 := h1.cell3
                have d4 := h1.cell4
                have f3 := h1.frozen 3
                have f4 := h1.frozen 4
                clear h1 k1 lb lg u0 hr
                have H2 : Hid (WdAt ((y1.setCell ⟨b2, 3, none⟩ (.int .i64 (k' : Int))).setCell ⟨b2, 4, none⟩ (.int .i64 8)) b2 g2 c2 ⟨s.W, 0, 0, (k' : Int), 8⟩ ∧ Keeps (fun i => i = b2) y1 ((y1.setCell ⟨b2, 3, none⟩ (.int .i64 (k' : Int))).setCell ⟨b2, 4, none⟩ (.int .i64 8))) := hid ⟨(H1.out.failAt (k' : Int)).err 8, (keeps_cell y1 b2 3 _).trans (keeps_cell _ b2 4 _)⟩
                have HX2 := hid (HX.out.own H2.out.2 (fun i e => by have := HB2.out; omega))
                have HG2 := hid (HG.out.own' H2.out.2 (fun i e => by have := HB2.out; omega))
                clear HX HG H1
                have a0 := HX2.out.ar.c0
                have t0 := HX2.out.s0
                have t1 := HX2.out.s1
                have t2 := HX2.out.s2
                go_wp2_with fail
                generalize ((y1.setCell ⟨b2, 3, none⟩ (.int .i64 (k' : Int))).setCell ⟨b2, 4, none⟩ (.int .i64 8)) = Y at H2 HX2 HG2 a0 t0 t1 t2 ⊢
                clear d3 d4 f3 f4
                have hh := H2.out.1
                refine (do_r HEK zero_isW w18 hkey (.inl (show (8 : Int) ≠ 0 by decide)) hh).mono ?_
                rintro e_ y2 ⟨v2, rfl, r2, h2, k2⟩
                obtain ⟨a2, c2', rfl⟩ := r2.form
                have HX3 := hid ((HX2.out.own k2 (by rintro i (e | e) <;> (have := HB2.out; omega))).new (keeps_new y2 (.cells #[.int .u64 0, .bool false, .slice a2 0 c2', .int .i64 8] 38)))
                have HG3 := hid ((HG2.out.own' k2 (by rintro i (e | e) <;> (have := HB2.out; omega))).own' (keeps_new y2 (.cells #[.int .u64 0, .bool false, .slice a2 0 c2', .int .i64 8] 38)) (fun _ f => f.elim))
                have HF : Hid (WdAt (y2.alloc (.cells #[.int .u64 0, .bool false, .slice a2 0 c2', .int .i64 8] 38)) b2 g2 c2 s2 ∧ RpAt (y2.alloc (.cells #[.int .u64 0, .bool false, .slice a2 0 c2', .int .i64 8] 38)) y2.heap.size 0 false (.slice a2 0 c2') 8 ∧ Lies (y2.alloc (.cells #[.int .u64 0, .bool false, .slice a2 0 c2', .int .i64 8] 38)) (.slice a2 0 c2') []) := hid ⟨h2.kept (keeps_new _ _) (fun f => f) (fun f => f), alloc_block y2 _, r2.lies.keeps (keeps_new _ _) (fun _ _ _ _ f => f)⟩
                have hsc : s2.c = 8 := by
                  have q := call_like ⟨s.W, 0, 0, (k' : Int), 8⟩ 0 18 kd key
                  rw [HEK.out] at q
                  exact q.1
                clear hh h2 k2 r2 H2 HX2 HG2 a0 t0 t1 t2
                go_wp2_with fail
                generalize y2.alloc (.cells #[.int .u64 0, .bool false, .slice a2 0 c2', .int .i64 8] 38) = Y4 at HX3 HG3 HF ⊢
                have p0 := HF.out.2.1.c0
                have p1 := HF.out.2.1.c1
                have p2 := HF.out.2.1.c2
                have p3 := HF.out.2.1.c3
                have e4 := HF.out.1.cell4
                rw [hsc] at e4
                refine wp_region_segs [(true, 6), (false, 1), (true, 15)] (by kernel_rfl) (by kernel_rfl) ?_
                intro q0
                simp only [wpSeg, List.take_succ_cons, List.take_zero, List.drop_succ_cons, List.drop_zero]
                repeat (go_big_quiet_step (fail))
                refine wpQuiet_nil ?_
                intro _ hw'
                obtain ⟨q1, hw''⟩ := hw'
                subst hw''
                try simp only [World.drewN_drewN]
                intro K hK'
                go_wp2_with fail
                have hln : Lies (Y4.drewN (q0 + q1)) (.slice none 0 0) [] := ⟨none, 0, rfl, fun i hi => absurd hi (by simp)⟩
                refine (same_any 0 8 false (.slice a2 0 c2') (.slice none 0 0) [] (by simp) _ (HF.out.2.2.keeps ((Keeps.refl (fun _ => False) Y4).drewN (q0 + q1)) (fun _ _ _ _ f => f)) hln).mono ?_
                rintro e_ y5 ⟨rfl, k5⟩
                have k5' : Keeps (fun _ => False) Y4 y5 := ((Keeps.refl (fun _ => False) Y4).drewN (q0 + q1)).trans k5
                have HX5 := hid (HX3.out.new k5')
                have HG5 := hid (HG3.out.own' k5' (fun _ f => f.elim))
                have hwd5 := HF.out.1.kept k5' (fun f => f) (fun f => f)
                have z1 := hwd5.cell1
                have z2 := hwd5.cell2
                clear k5 k5' hwd5 hln HX3 HG3 HF p0 p1 p2 p3 e4
                go_wp2_with fail
                repeat (go_big_quiet_step (fail))
                refine wpQuiet_nil ?_
                intro _ hw'
                obtain ⟨q2, hw''⟩ := hw'
                subst hw''
                try simp only [World.drewN_drewN]
                have HN : Hid (∀ q, Er w (x0.heap.size + 1) b g c x0.heap.size kd on key (y5.drewN q) s ∧ Eg (x2.heap.size + 1) b1 g1 c1 x2.heap.size x1.heap.size R (.slice av R.L.length cv) (y5.drewN q) s1) := fun q => ⟨HX5.out.new ((Keeps.refl _ _).drewN q), HG5.out.own' (S := fun _ => False) ((Keeps.refl _ _).drewN q) (fun _ f => f.elim)⟩
                clear HX5 HG5 z1 z2
                go_wp2_with fail
                go_roundw
                case rel => exact ⟨k' + 1, by omega, by omega, by simp, hid (HN.out _)⟩
                case measure => simp [intOf]; omega
            · have hkT' : (k' : Int) < (T : Int) := by omega
              have hge : ¬ ((k' : Int) < 60) := by omega
              obtain ⟨s3, eq3, hs3⟩ := HHI.out 8 (by decide)
              have HE3 := hid eq3
              clear eq3
              have hl1' : s1.W.length ≤ 17592186044416 := by rw [hl1]; exact Nat.le_trans hsW.2 (by omega)
              have u0 := hr.out.1.wd.cell0
              go_wp2_with fail
              refine (over_any _ s.W hsW.1 hsW.2 _ hr.out.1.wd.lies).mono ?_
              rintro e_ y1 ⟨b3, g3, c3, rfl, h1, k1, lb, lg⟩
              have HX := hid (hr.out.1.new k1)
              have HG := hid (hr.out.2.own' k1 (fun _ f => f.elim))
              have HB3 : Hid (x2.heap.size + 1 ≤ b3 ∧ x2.heap.size + 1 ≤ g3 ∧ x0.heap.size + 1 ≤ b3 ∧ x0.heap.size + 1 ≤ g3) := by
                have z1 := hr.out.2.sz
                have z2 := hr.out.1.sz
                exact hid ⟨by omega, by omega, by omega, by omega⟩
              have H1 := hid h1
              have d3 := h1.cell3
              have d4 := h1.cell4
              have f3 := h1.frozen 3
              have f4 := h1.frozen 4
              clear h1 k1 lb lg u0 hr
              have H2 : Hid (WdAt ((y1.setCell ⟨b3, 3, none⟩ (.int .i64 (T : Int))).setCell ⟨b3, 4, none⟩ (.int .i64 8)) b3 g3 c3 ⟨s.W, 0, 0, (T : Int), 8⟩ ∧ Keeps (fun i => i = b3) y1 ((y1.setCell ⟨b3, 3, none⟩ (.int .i64 (T : Int))).setCell ⟨b3, 4, none⟩ (.int .i64 8))) := hid ⟨(H1.out.failAt (T : Int)).err 8, (keeps_cell y1 b3 3 _).trans (keeps_cell _ b3 4 _)⟩
              replace HX := hid (HX.out.own H2.out.2 (fun i e => by have := HB3.out; omega))
              replace HG := hid (HG.out.own' H2.out.2 (fun i e => by have := HB3.out; omega))
              clear H1
              go_wp2_with fail
              generalize ((y1.setCell ⟨b3, 3, none⟩ (.int .i64 (T : Int))).setCell ⟨b3, 4, none⟩ (.int .i64 8)) = Y at H2 HX HG ⊢
              clear d3 d4 f3 f4
              have hS0 : S26 Y.drew w.heap.size x0.heap.size x2.heap.size b1 b3 kd on key R (.slice av R.L.length cv) (.slice (adr g1 c1) s1.W.length c1) (.slice (adr g3 c3) s1.W.length c3) := by
                have q := s26_of HX.out HG.out H2.out.1
                rw [show (⟨s.W, 0, 0, (T : Int), 8⟩ : Wd).W.length = s1.W.length from hl1.symm] at q
                exact ⟨q.f0, q.f1, q.f2, q.f3, q.f4, q.f5, q.f6, q.f7, q.f8, q.f9⟩
              refine wp_held_end (S := fun W : World => S26 W w.heap.size x0.heap.size x2.heap.size b1 b3 kd on key R (.slice av R.L.length cv) (.slice (adr g1 c1) s1.W.length c1) (.slice (adr g3 c3) s1.W.length c3)) 23 rfl hmxp ?_
              simp only [Array.replicate_succ, Array.replicate_zero, List.push_toArray, List.nil_append, List.cons_append]
              refine held_take (i := 0) (v := (.pointer (some ⟨b3, 0, none⟩))) 144 rfl rfl (by kernel_rfl) (by kernel_rfl) (by kernel_rfl) rfl (fun w' hw' => by obtain ⟨q0, q1, q2, q3, q4, q5, q6, q7, q8, q9⟩ := hw'; go_simp) hS0 ?_
              simp only [Act.put, List.setIfInBounds_toArray, List.set_cons_zero, List.set_cons_succ]
              refine held_take (i := 1) (v := (.iface 24 (.pointer (some ⟨b3, 0, none⟩)))) 145 rfl rfl (by kernel_rfl) (by kernel_rfl) (by kernel_rfl) rfl (fun w' hw' => by obtain ⟨q0, q1, q2, q3, q4, q5, q6, q7, q8, q9⟩ := hw'; go_simp) hS0 ?_
              simp only [Act.put, List.setIfInBounds_toArray, List.set_cons_zero, List.set_cons_succ]
              refine held_take (i := 2) (v := (.pointer (some ⟨x0.heap.size, 0, none⟩))) 146 rfl rfl (by kernel_rfl) (by kernel_rfl) (by kernel_rfl) rfl (fun w' hw' => by obtain ⟨q0, q1, q2, q3, q4, q5, q6, q7, q8, q9⟩ := hw'; go_simp) hS0 ?_
              simp only [Act.put, List.setIfInBounds_toArray, List.set_cons_zero, List.set_cons_succ]
              refine held_take (i := 3) (v := (.int .u64 18)) 147 rfl rfl (by kernel_rfl) (by kernel_rfl) (by kernel_rfl) rfl (fun w' hw' => by obtain ⟨q0, q1, q2, q3, q4, q5, q6, q7, q8, q9⟩ := hw'; go_simp) hS0 ?_
              simp only [Act.put, List.setIfInBounds_toArray, List.set_cons_zero, List.set_cons_succ]
              refine held_take (i := 4) (v := (.agg #[.int .i64 kd, .int .i64 on, .int .u64 key])) 148 rfl rfl (by kernel_rfl) (by kernel_rfl) (by kernel_rfl) rfl (fun w' hw' => by obtain ⟨q0, q1, q2, q3, q4, q5, q6, q7, q8, q9⟩ := hw'; go_simp) hS0 ?_
              simp only [Act.put, List.setIfInBounds_toArray, List.set_cons_zero, List.set_cons_succ]
              refine held_take (i := 6) (v := (.agg #[.int .u64 R.w, .bool R.h, .slice av R.L.length cv, .int .i64 R.e])) 150 rfl rfl (by kernel_rfl) (by kernel_rfl) (by kernel_rfl) rfl (fun w' hw' => by obtain ⟨q0, q1, q2, q3, q4, q5, q6, q7, q8, q9⟩ := hw'; go_simp) hS0 ?_
              simp only [Act.put, List.setIfInBounds_toArray, List.set_cons_zero, List.set_cons_succ]
              refine held_call (i := 5) (f := 11) (args := #[.iface 24 (.pointer (some ⟨b3, 0, none⟩)), .int .u64 0, .int .u64 18, .agg #[.int .i64 kd, .int .i64 on, .int .u64 key]]) 149 (by kernel_rfl) rfl rfl rfl (by go_simp) ?_
              refine (do_r HE3 zero_isW w18 hkey (.inl (show (8 : Int) ≠ 0 by decide)) H2.out.1.drew).mono ?_
              rintro e_ z2 ⟨v3, rfl, r3, h3, k3⟩
              obtain ⟨a3, c3', rfl⟩ := r3.form
              replace HX := hid ((HX.out.new ((Keeps.refl _ _).drew)).own k3 (by rintro i (e | e) <;> (have := HB3.out; omega)))
              replace HG := hid ((HG.out.own' (S := fun _ => False) ((Keeps.refl _ _).drew) (fun _ f => f.elim)).own' k3 (by rintro i (e | e) <;> (have := HB3.out; omega)))
              have H3 := hid h3
              have HV := hid r3.lies
              clear h3 k3 r3
              have hS1 : S26 z2 w.heap.size x0.heap.size x2.heap.size b1 b3 kd on key R (.slice av R.L.length cv) (.slice (adr g1 c1) s1.W.length c1) (.slice (adr g3 c3) s1.W.length c3) := by
                have q := s26_of HX.out HG.out H3.out
                rw [hs3] at q
                exact q
              refine ⟨_, rfl, hS1, ?_⟩
              simp only [Act.put, List.setIfInBounds_toArray, List.set_cons_zero, List.set_cons_succ]
              refine held_call (i := 7) (f := 12) (args := #[.agg #[.int .u64 R.w, .bool R.h, .slice a3 R.L.length c3', .int .i64 R.e], .agg #[.int .u64 R.w, .bool R.h, .slice av R.L.length cv, .int .i64 R.e]]) 151 (by kernel_rfl) rfl rfl rfl (by go_simp) ?_
              refine (same_any R.w R.e R.h _ _ R.L hRl _ HV.out HG.out.row.lies).mono ?_
              rintro e_ z3 ⟨rfl, k3⟩
              replace HX := hid (HX.out.new k3)
              replace HG := hid (HG.out.own' k3 (fun _ f => f.elim))
              replace H3 := hid (H3.out.kept k3 (fun f => f) (fun f => f))
              clear k3 HV
              have hS2 : S26 z3 w.heap.size x0.heap.size x2.heap.size b1 b3 kd on key R (.slice av R.L.length cv) (.slice (adr g1 c1) s1.W.length c1) (.slice (adr g3 c3) s1.W.length c3) := by
                have q := s26_of HX.out HG.out H3.out
                rw [hs3] at q
                exact q
              refine ⟨_, rfl, hS2, ?_⟩
              simp only [Act.put, List.setIfInBounds_toArray, List.set_cons_zero, List.set_cons_succ]
              refine held_take (i := 8) (v := (.bool true)) 152 rfl rfl (by kernel_rfl) (by kernel_rfl) (by kernel_rfl) rfl (fun w' hw' => by obtain ⟨q0, q1, q2, q3, q4, q5, q6, q7, q8, q9⟩ := hw'; go_simp) hS2 ?_
              simp only [Act.put, List.setIfInBounds_toArray, List.set_cons_zero, List.set_cons_succ]
              refine held_take (i := 9) (v := (.pointer (some ⟨b3, 0, none⟩))) 153 rfl rfl (by kernel_rfl) (by kernel_rfl) (by kernel_rfl) rfl (fun w' hw' => by obtain ⟨q0, q1, q2, q3, q4, q5, q6, q7, q8, q9⟩ := hw'; go_simp) hS2 ?_
              simp only [Act.put, List.setIfInBounds_toArray, List.set_cons_zero, List.set_cons_succ]
              refine held_take (i := 10) (v := (.pointer (some ⟨b3, 0, none⟩))) 154 rfl rfl (by kernel_rfl) (by kernel_rfl) (by kernel_rfl) rfl (fun w' hw' => by obtain ⟨q0, q1, q2, q3, q4, q5, q6, q7, q8, q9⟩ := hw'; go_simp) hS2 ?_
              simp only [Act.put, List.setIfInBounds_toArray, List.set_cons_zero, List.set_cons_succ]
              refine held_take (i := 11) (v := (.pointer (some ⟨b3, 0, none⟩))) 155 rfl rfl (by kernel_rfl) (by kernel_rfl) (by kernel_rfl) rfl (fun w' hw' => by obtain ⟨q0, q1, q2, q3, q4, q5, q6, q7, q8, q9⟩ := hw'; go_simp) hS2 ?_
              simp only [Act.put, List.setIfInBounds_toArray, List.set_cons_zero, List.set_cons_succ]
              refine held_take (i := 12) (v := (.slice (adr g3 c3) s1.W.length c3)) 156 rfl rfl (by kernel_rfl) (by kernel_rfl) (by kernel_rfl) rfl (fun w' hw' => by obtain ⟨q0, q1, q2, q3, q4, q5, q6, q7, q8, q9⟩ := hw'; go_simp) hS2 ?_
              simp only [Act.put, List.setIfInBounds_toArray, List.set_cons_zero, List.set_cons_succ]
              refine held_take (i := 13) (v := (.pointer (some ⟨b1, 0, none⟩))) 157 rfl rfl (by kernel_rfl) (by kernel_rfl) (by kernel_rfl) rfl (fun w' hw' => by obtain ⟨q0, q1, q2, q3, q4, q5, q6, q7, q8, q9⟩ := hw'; go_simp) hS2 ?_
              simp only [Act.put, List.setIfInBounds_toArray, List.set_cons_zero, List.set_cons_succ]
              refine held_take (i := 14) (v := (.pointer (some ⟨b1, 0, none⟩))) 158 rfl rfl (by kernel_rfl) (by kernel_rfl) (by kernel_rfl) rfl (fun w' hw' => by obtain ⟨q0, q1, q2, q3, q4, q5, q6, q7, q8, q9⟩ := hw'; go_simp) hS2 ?_
              simp only [Act.put, List.setIfInBounds_toArray, List.set_cons_zero, List.set_cons_succ]
              refine held_take (i := 15) (v := (.pointer (some ⟨b1, 0, none⟩))) 159 rfl rfl (by kernel_rfl) (by kernel_rfl) (by kernel_rfl) rfl (fun w' hw' => by obtain ⟨q0, q1, q2, q3, q4, q5, q6, q7, q8, q9⟩ := hw'; go_simp) hS2 ?_
              simp only [Act.put, List.setIfInBounds_toArray, List.set_cons_zero, List.set_cons_succ]
              refine held_take (i := 16) (v := (.slice (adr g1 c1) s1.W.length c1)) 160 rfl rfl (by kernel_rfl) (by kernel_rfl) (by kernel_rfl) rfl (fun w' hw' => by obtain ⟨q0, q1, q2, q3, q4, q5, q6, q7, q8, q9⟩ := hw'; go_simp) hS2 ?_
              simp only [Act.put, List.setIfInBounds_toArray, List.set_cons_zero, List.set_cons_succ]
              have hL3 : Lies z3 (.slice (adr g3 c3) s1.W.length c3) s1.W := by
                have q := H3.out.lies
                rw [hs3] at q
                exact q
              refine held_call (i := 17) (f := 14) (args := #[.slice (adr g3 c3) s1.W.length c3, .slice (adr g1 c1) s1.W.length c1]) 161 (by kernel_rfl) rfl rfl rfl (by go_simp) ?_
              refine (words_same _ _ s1.W hl1' _ hL3 HG.out.wd.lies).mono ?_
              rintro e_ z4 ⟨rfl, mq, hw4⟩
              have k4 : Keeps (fun _ => False) z3 z4 := by rw [hw4]; exact (Keeps.refl _ _).drewN mq
              replace HX := hid (HX.out.new k4)
              replace HG := hid (HG.out.own' k4 (fun _ f => f.elim))
              replace H3 := hid (H3.out.kept k4 (fun f => f) (fun f => f))
              clear k4 hw4
              have hS3 : S26 z4 w.heap.size x0.heap.size x2.heap.size b1 b3 kd on key R (.slice av R.L.length cv) (.slice (adr g1 c1) s1.W.length c1) (.slice (adr g3 c3) s1.W.length c3) := by
                have q := s26_of HX.out HG.out H3.out
                rw [hs3] at q
                exact q
              refine ⟨_, rfl, hS3, ?_⟩
              simp only [Act.put, List.setIfInBounds_toArray, List.set_cons_zero, List.set_cons_succ]
              refine held_take (i := 18) (v := (.bool true)) 162 rfl rfl (by kernel_rfl) (by kernel_rfl) (by kernel_rfl) rfl (fun w' hw' => by obtain ⟨q0, q1, q2, q3, q4, q5, q6, q7, q8, q9⟩ := hw'; go_simp) hS3 ?_
              simp only [Act.put, List.setIfInBounds_toArray, List.set_cons_zero, List.set_cons_succ]
              refine held_take (i := 19) (v := (.bool true)) 163 rfl rfl (by kernel_rfl) (by kernel_rfl) (by kernel_rfl) rfl (fun w' hw' => by obtain ⟨q0, q1, q2, q3, q4, q5, q6, q7, q8, q9⟩ := hw'; go_simp) hS3 ?_
              simp only [Act.put, List.setIfInBounds_toArray, List.set_cons_zero, List.set_cons_succ]
              refine held_call (i := 20) (f := 9) (args := #[]) 164 (by kernel_rfl) rfl rfl rfl (by go_simp) ?_
              refine (known_any _).mono ?_
              rintro e_ z5 ⟨rfl, k4⟩
              replace HX := hid (HX.out.new k4)
              replace HG := hid (HG.out.own' k4 (fun _ f => f.elim))
              replace H3 := hid (H3.out.kept k4 (fun f => f) (fun f => f))
              clear k4
              have hS4 : S26 z5 w.heap.size x0.heap.size x2.heap.size b1 b3 kd on key R (.slice av R.L.length cv) (.slice (adr g1 c1) s1.W.length c1) (.slice (adr g3 c3) s1.W.length c3) := by
                have q := s26_of HX.out HG.out H3.out
                rw [hs3] at q
                exact q
              refine ⟨_, rfl, hS4, ?_⟩
              simp only [Act.put, List.setIfInBounds_toArray, List.set_cons_zero, List.set_cons_succ]
              refine held_take (i := 21) (v := (.bool true)) 165 rfl rfl (by kernel_rfl) (by kernel_rfl) (by kernel_rfl) rfl (fun w' hw' => by obtain ⟨q0, q1, q2, q3, q4, q5, q6, q7, q8, q9⟩ := hw'; go_simp) hS4 ?_
              simp only [Act.put, List.setIfInBounds_toArray, List.set_cons_zero, List.set_cons_succ]
              refine held_take (i := 22) (v := (.bool true)) 6 rfl rfl (by kernel_rfl) (by kernel_rfl) (by kernel_rfl) rfl (fun w' hw' => by obtain ⟨q0, q1, q2, q3, q4, q5, q6, q7, q8, q9⟩ := hw'; go_simp) hS4 ?_
              simp only [Act.put, List.setIfInBounds_toArray, List.set_cons_zero, List.set_cons_succ]
              refine held_end (by kernel_rfl) ?_ _
              clear hS0 hS1 hS2 hS3 hS4 hL3
              go_wp2_with fail
              go_ret
              exact ⟨rfl, HX.out.k⟩
          · have hge : ¬ ((k' : Int) < (T : Int)) := by omega
            obtain ⟨s3, eq3, hs3⟩ := HHI.out 8 (by decide)
            have HE3 := hid eq3
            clear eq3
            have hl1' : s1.W.length ≤ 17592186044416 := by rw [hl1]; exact Nat.le_trans hsW.2 (by omega)
            have u0 := hr.out.1.wd.cell0
            go_wp2_with fail
            refine (over_any _ s.W hsW.1 hsW.2 _ hr.out.1.wd.lies).mono ?_
            rintro e_ y1 ⟨b3, g3, c3, rfl, h1, k1, lb, lg⟩
            have HX := hid (hr.out.1.new k1)
            have HG := hid (hr.out.2.own' k1 (fun _ f => f.elim))
            have HB3 : Hid (x2.heap.size + 1 ≤ b3 ∧ x2.heap.size + 1 ≤ g3 ∧ x0.heap.size + 1 ≤ b3 ∧ x0.heap.size + 1 ≤ g3) := by
              have z1 := hr.out.2.sz
              have z2 := hr.out.1.sz
              exact hid ⟨by omega, by omega, by omega, by omega⟩
            have H1 := hid h1
            have d3 := h1.cell3
            have d4 := h1.cell4
            have f3 := h1.frozen 3
            have f4 := h1.frozen 4
            clear h1 k1 lb lg u0 hr
            have H2 : Hid (WdAt ((y1.setCell ⟨b3, 3, none⟩ (.int .i64 (T : Int))).setCell ⟨b3, 4, none⟩ (.int .i64 8)) b3 g3 c3 ⟨s.W, 0, 0, (T : Int), 8⟩ ∧ Keeps (fun i => i = b3) y1 ((y1.setCell ⟨b3, 3, none⟩ (.int .i64 (T : Int))).setCell ⟨b3, 4, none⟩ (.int .i64 8))) := hid ⟨(H1.out.failAt (T : Int)).err 8, (keeps_cell y1 b3 3 _).trans (keeps_cell _ b3 4 _)⟩
            replace HX := hid (HX.out.own H2.out.2 (fun i e => by have := HB3.out; omega))
            replace HG := hid (HG.out.own' H2.out.2 (fun i e => by have := HB3.out; omega))
            clear H1
            go_wp2_with fail
            generalize ((y1.setCell ⟨b3, 3, none⟩ (.int .i64 (T : Int))).setCell ⟨b3, 4, none⟩ (.int .i64 8)) = Y at H2 HX HG ⊢
            clear d3 d4 f3 f4
            have hS0 : S26 Y.drew w.heap.size x0.heap.size x2.heap.size b1 b3 kd on key R (.slice av R.L.length cv) (.slice (adr g1 c1) s1.W.length c1) (.slice (adr g3 c3) s1.W.length c3) := by
              have q := s26_of HX.out HG.out H2.out.1
              rw [show (⟨s.W, 0, 0, (T : Int), 8⟩ : Wd).W.length = s1.W.length from hl1.symm] at q
              exact ⟨q.f0, q.f1, q.f2, q.f3, q.f4, q.f5, q.f6, q.f7, q.f8, q.f9⟩
            refine wp_held_end (S := fun W : World => S26 W w.heap.size x0.heap.size x2.heap.size b1 b3 kd on key R (.slice av R.L.length cv) (.slice (adr g1 c1) s1.W.length c1) (.slice (adr g3 c3) s1.W.length c3)) 23 rfl hmxp ?_
            simp only [Array.replicate_succ, Array.replicate_zero, List.push_toArray, List.nil_append, List.cons_append]
            refine held_take (i := 0) (v := (.pointer (some ⟨b3, 0, none⟩))) 144 rfl rfl (by kernel_rfl) (by kernel_rfl) (by kernel_rfl) rfl (fun w' hw' => by obtain ⟨q0, q1, q2, q3, q4, q5, q6, q7, q8, q9⟩ := hw'; go_simp) hS0 ?_
            simp only [Act.put, List.setIfInBounds_toArray, List.set_cons_zero, List.set_cons_succ]
            refine held_take (i := 1) (v := (.iface 24 (.pointer (some ⟨b3, 0, none⟩)))) 145 rfl rfl (by kernel_rfl) (by kernel_rfl) (by kernel_rfl) rfl (fun w' hw' => by obtain ⟨q0, q1, q2, q3, q4, q5, q6, q7, q8, q9⟩ := hw'; go_simp) hS0 ?_
            simp only [Act.put, List.setIfInBounds_toArray, List.set_cons_zero, List.set_cons_succ]
            refine held_take (i := 2) (v := (.pointer (some ⟨x0.heap.size, 0, none⟩))) 146 rfl rfl (by kernel_rfl) (by kernel_rfl) (by kernel_rfl) rfl (fun w' hw' => by obtain ⟨q0, q1, q2, q3, q4, q5, q6, q7, q8, q9⟩ := hw'; go_simp) hS0 ?_
            simp only [Act.put, List.setIfInBounds_toArray, List.set_cons_zero, List.set_cons_succ]
            refine held_take (i := 3) (v := (.int .u64 18)) 147 rfl rfl (by kernel_rfl) (by kernel_rfl) (by kernel_rfl) rfl (fun w' hw' => by obtain ⟨q0, q1, q2, q3, q4, q5, q6, q7, q8, q9⟩ := hw'; go_simp) hS0 ?_
            simp only [Act.put, List.setIfInBounds_toArray, List.set_cons_zero, List.set_cons_succ]
            refine held_take (i := 4) (v := (.agg #[.int .i64 kd, .int .i64 on, .int .u64 key])) 148 rfl rfl (by kernel_rfl) (by kernel_rfl) (by kernel_rfl) rfl (fun w' hw' => by obtain ⟨q0, q1, q2, q3, q4, q5, q6, q7, q8, q9⟩ := hw'; go_simp) hS0 ?_
            simp only [Act.put, List.setIfInBounds_toArray, List.set_cons_zero, List.set_cons_succ]
            refine held_take (i := 6) (v := (.agg #[.int .u64 R.w, .bool R.h, .slice av R.L.length cv, .int .i64 R.e])) 150 rfl rfl (by kernel_rfl) (by kernel_rfl) (by kernel_rfl) rfl (fun w' hw' => by obtain ⟨q0, q1, q2, q3, q4, q5, q6, q7, q8, q9⟩ := hw'; go_simp) hS0 ?_
            simp only [Act.put, List.setIfInBounds_toArray, List.set_cons_zero, List.set_cons_succ]
            refine held_call (i := 5) (f := 11) (args := #[.iface 24 (.pointer (some ⟨b3, 0, none⟩)), .int .u64 0, .int .u64 18, .agg #[.int .i64 kd, .int .i64 on, .int .u64 key]]) 149 (by kernel_rfl) rfl rfl rfl (by go_simp) ?_
            refine (do_r HE3 zero_isW w18 hkey (.inl (show (8 : Int) ≠ 0 by decide)) H2.out.1.drew).mono ?_
            rintro e_ z2 ⟨v3, rfl, r3, h3, k3⟩
            obtain ⟨a3, c3', rfl⟩ := r3.form
            replace HX := hid ((HX.out.new ((Keeps.refl _ _).drew)).own k3 (by rintro i (e | e) <;> (have := HB3.out; omega)))
            replace HG := hid ((HG.out.own' (S := fun _ => False) ((Keeps.refl _ _).drew) (fun _ f => f.elim)).own' k3 (by rintro i (e | e) <;> (have := HB3.out; omega)))
            have H3 := hid h3
            have HV := hid r3.lies
            clear h3 k3 r3
            have hS1 : S26 z2 w.heap.size x0.heap.size x2.heap.size b1 b3 kd on key R (.slice av R.L.length cv) (.slice (adr g1 c1) s1.W.length c1) (.slice (adr g3 c3) s1.W.length c3) := by
              have q := s26_of HX.out HG.out H3.out
              rw [hs3] at q
              exact q
            refine ⟨_, rfl, hS1, ?_⟩
            simp only [Act.put, List.setIfInBounds_toArray, List.set_cons_zero, List.set_cons_succ]
            refine held_call (i := 7) (f := 12) (args := #[.agg #[.int .u64 R.w, .bool R.h, .slice a3 R.L.length c3', .int .i64 R.e], .agg #[.int .u64 R.w, .bool R.h, .slice av R.L.length cv, .int .i64 R.e]]) 151 (by kernel_rfl) rfl rfl rfl (by go_simp) ?_
            refine (same_any R.w R.e R.h _ _ R.L hRl _ HV.out HG.out.row.lies).mono ?_
            rintro e_ z3 ⟨rfl, k3⟩
            replace HX := hid (HX.out.new k3)
            replace HG := hid (HG.out.own' k3 (fun _ f => f.elim))
            replace H3 := hid (H3.out.kept k3 (fun f => f) (fun f => f))
            clear k3 HV
            have hS2 : S26 z3 w.heap.size x0.heap.size x2.heap.size b1 b3 kd on key R (.slice av R.L.length cv) (.slice (adr g1 c1) s1.W.length c1) (.slice (adr g3 c3) s1.W.length c3) := by
              have q := s26_of HX.out HG.out H3.out
              rw [hs3] at q
              exact q
            refine ⟨_, rfl, hS2, ?_⟩
            simp only [Act.put, List.setIfInBounds_toArray, List.set_cons_zero, List.set_cons_succ]
            refine held_take (i := 8) (v := (.bool true)) 152 rfl rfl (by kernel_rfl) (by kernel_rfl) (by kernel_rfl) rfl (fun w' hw' => by obtain ⟨q0, q1, q2, q3, q4, q5, q6, q7, q8, q9⟩ := hw'; go_simp) hS2 ?_
            simp only [Act.put, List.setIfInBounds_toArray, List.set_cons_zero, List.set_cons_succ]
            refine held_take (i := 9) (v := (.pointer (some ⟨b3, 0, none⟩))) 153 rfl rfl (by kernel_rfl) (by kernel_rfl) (by kernel_rfl) rfl (fun w' hw' => by obtain ⟨q0, q1, q2, q3, q4, q5, q6, q7, q8, q9⟩ := hw'; go_simp) hS2 ?_
            simp only [Act.put, List.setIfInBounds_toArray, List.set_cons_zero, List.set_cons_succ]
            refine held_take (i := 10) (v := (.pointer (some ⟨b3, 0, none⟩))) 154 rfl rfl (by kernel_rfl) (by kernel_rfl) (by kernel_rfl) rfl (fun w' hw' => by obtain ⟨q0, q1, q2, q3, q4, q5, q6, q7, q8, q9⟩ := hw'; go_simp) hS2 ?_
            simp only [Act.put, List.setIfInBounds_toArray, List.set_cons_zero, List.set_cons_succ]
            refine held_take (i := 11) (v := (.pointer (some ⟨b3, 0, none⟩))) 155 rfl rfl (by kernel_rfl) (by kernel_rfl) (by kernel_rfl) rfl (fun w' hw' => by obtain ⟨q0, q1, q2, q3, q4, q5, q6, q7, q8, q9⟩ := hw'; go_simp) hS2 ?_
            simp only [Act.put, List.setIfInBounds_toArray, List.set_cons_zero, List.set_cons_succ]
            refine held_take (i := 12) (v := (.slice (adr g3 c3) s1.W.length c3)) 156 rfl rfl (by kernel_rfl) (by kernel_rfl) (by kernel_rfl) rfl (fun w' hw' => by obtain ⟨q0, q1, q2, q3, q4, q5, q6, q7, q8, q9⟩ := hw'; go_simp) hS2 ?_
            simp only [Act.put, List.setIfInBounds_toArray, List.set_cons_zero, List.set_cons_succ]
            refine held_take (i := 13) (v := (.pointer (some ⟨b1, 0, none⟩))) 157 rfl rfl (by kernel_rfl) (by kernel_rfl) (by kernel_rfl) rfl (fun w' hw' => by obtain ⟨q0, q1, q2, q3, q4, q5, q6, q7, q8, q9⟩ := hw'; go_simp) hS2 ?_
            simp only [Act.put, List.setIfInBounds_toArray, List.set_cons_zero, List.set_cons_succ]
            refine held_take (i := 14) (v := (.pointer (some ⟨b1, 0, none⟩))) 158 rfl rfl (by kernel_rfl) (by kernel_rfl) (by kernel_rfl) rfl (fun w' hw' => by obtain ⟨q0, q1, q2, q3, q4, q5, q6, q7, q8, q9⟩ := hw'; go_simp) hS2 ?_
            simp only [Act.put, List.setIfInBounds_toArray, List.set_cons_zero, List.set_cons_succ]
            refine held_take (i := 15) (v := (.pointer (some ⟨b1, 0, none⟩))) 159 rfl rfl (by kernel_rfl) (by kernel_rfl) (by kernel_rfl) rfl (fun w' hw' => by obtain ⟨q0, q1, q2, q3, q4, q5, q6, q7, q8, q9⟩ := hw'; go_simp) hS2 ?_
            simp only [Act.put, List.setIfInBounds_toArray, List.set_cons_zero, List.set_cons_succ]
            refine held_take (i := 16) (v := (.slice (adr g1 c1) s1.W.length c1)) 160 rfl rfl (by kernel_rfl) (by kernel_rfl) (by kernel_rfl) rfl (fun w' hw' => by obtain ⟨q0, q1, q2, q3, q4, q5, q6, q7, q8, q9⟩ := hw'; go_simp) hS2 ?_
            simp only [Act.put, List.setIfInBounds_toArray, List.set_cons_zero, List.set_cons_succ]
            have hL3 : Lies z3 (.slice (adr g3 c3) s1.W.length c3) s1.W := by
              have q := H3.out.lies
              rw [hs3] at q
              exact q
            refine held_call (i := 17) (f := 14) (args := #[.slice (adr g3 c3) s1.W.length c3, .slice (adr g1 c1) s1.W.length c1]) 161 (by kernel_rfl) rfl rfl rfl (by go_simp) ?_
            refine (words_same _ _ s1.W hl1' _ hL3 HG.out.wd.lies).mono ?_
            rintro e_ z4 ⟨rfl, mq, hw4⟩
            have k4 : Keeps (fun _ => False) z3 z4 := by rw [hw4]; exact (Keeps.refl _ _).drewN mq
            replace HX := hid (HX.out.new k4)
            replace HG := hid (HG.out.own' k4 (fun _ f => f.elim))
            replace H3 := hid (H3.out.kept k4 (fun f => f) (fun f => f))
            clear k4 hw4
            have hS3 : S26 z4 w.heap.size x0.heap.size x2.heap.size b1 b3 kd on key R (.slice av R.L.length cv) (.slice (adr g1 c1) s1.W.length c1) (.slice (adr g3 c3) s1.W.length c3) := by
              have q := s26_of HX.out HG.out H3.out
              rw [hs3] at q
              exact q
            refine ⟨_, rfl, hS3, ?_⟩
            simp only [Act.put, List.setIfInBounds_toArray, List.set_cons_zero, List.set_cons_succ]
            refine held_take (i := 18) (v := (.bool true)) 162 rfl rfl (by kernel_rfl) (by kernel_rfl) (by kernel_rfl) rfl (fun w' hw' => by obtain ⟨q0, q1, q2, q3, q4, q5, q6, q7, q8, q9⟩ := hw'; go_simp) hS3 ?_
            simp only [Act.put, List.setIfInBounds_toArray, List.set_cons_zero, List.set_cons_succ]
            refine held_take (i := 19) (v := (.bool true)) 163 rfl rfl (by kernel_rfl) (by kernel_rfl) (by kernel_rfl) rfl (fun w' hw' => by obtain ⟨q0, q1, q2, q3, q4, q5, q6, q7, q8, q9⟩ := hw'; go_simp) hS3 ?_
            simp only [Act.put, List.setIfInBounds_toArray, List.set_cons_zero, List.set_cons_succ]
            refine held_call (i := 20) (f := 9) (args := #[]) 164 (by kernel_rfl) rfl rfl rfl (by go_simp) ?_
            refine (known_any _).mono ?_
            rintro e_ z5 ⟨rfl, k4⟩
            replace HX := hid (HX.out.new k4)
            replace HG := hid (HG.out.own' k4 (fun _ f => f.elim))
            replace H3 := hid (H3.out.kept k4 (fun f => f) (fun f => f))
            clear k4
            have hS4 : S26 z5 w.heap.size x0.heap.size x2.heap.size b1 b3 kd on key R (.slice av R.L.length cv) (.slice (adr g1 c1) s1.W.length c1) (.slice (adr g3 c3) s1.W.length c3) := by
              have q := s26_of HX.out HG.out H3.out
              rw [hs3] at q
              exact q
            refine ⟨_, rfl, hS4, ?_⟩
            simp only [Act.put, List.setIfInBounds_toArray, List.set_cons_zero, List.set_cons_succ]
            refine held_take (i := 21) (v := (.bool true)) 165 rfl rfl (by kernel_rfl) (by kernel_rfl) (by kernel_rfl) rfl (fun w' hw' => by obtain ⟨q0, q1, q2, q3, q4, q5, q6, q7, q8, q9⟩ := hw'; go_simp) hS4 ?_
            simp only [Act.put, List.setIfInBounds_toArray, List.set_cons_zero, List.set_cons_succ]
            refine held_take (i := 22) (v := (.bool true)) 6 rfl rfl (by kernel_rfl) (by kernel_rfl) (by kernel_rfl) rfl (fun w' hw' => by obtain ⟨q0, q1, q2, q3, q4, q5, q6, q7, q8, q9⟩ := hw'; go_simp) hS4 ?_
            simp only [Act.put, List.setIfInBounds_toArray, List.set_cons_zero, List.set_cons_succ]
            refine held_end (by kernel_rfl) ?_ _
            clear hS0 hS1 hS2 hS3 hS4 hL3
            go_wp2_with fail
            go_ret
            exact ⟨rfl, HX.out.k⟩
end Go.Proofs.Ytbdekpccddmehaa
