/-
  No statement of the seat is proved here. (Several texts in one: RkF, RkH, RkDf.)
-/
import Derived.Test.YtalopkllldnipaaRkC
import Derived.Test.YtalopkllldnipaaRkW
import Derived.Test.YtalopkllldnipaaRkDM

/- The walk of room's Lay (layer 24). No statement of the seat is proved here. -/
namespace Go.Proofs.Ytalopkllldnipaa
open Go.RowKit

theorem zero_isW : isW 0 := ⟨Int.le_refl _, by simp⟩
set_option maxHeartbeats 4000000 in
theorem lay_any (b g c : Nat) (s : Wd) (a fr to : Int) (ha : isW a) (hfr : isW fr) (hto : isW to) (w : World) (h : WdAt w b g c s) :
    Calls Try.prog 32 #[.iface 24 (.pointer (some ⟨b, 0, none⟩)), .int .u64 a, .int .u64 fr, .int .u64 to] w fun e w' => e = .returned (.int .i64 (s.lay a fr to).1) ∧ WdAt w' b g c (s.lay a fr to).2 ∧ Keeps (two b g) w w' := by
  have mp := meth_put b
  have np := nil_put b
  have HH := hid h
  clear h
  have kk : Hid (Keeps (two b g) w w) := Keeps.refl _ w
  by_cases hft : to < fr
  · have hs : s.lay a fr to = (2, s) := by unfold Wd.lay; rw [if_pos hft]
    rw [hs]
    clear hs
    go_enter Try.func32, Try.ntmps32
    go_wp2_with fail
    refine wp_scope_straight ?_
    go_wp2_with fail
    simp only [Exit.noGoto]
    go_ret
    exact ⟨rfl, HH.out, kk.out⟩
  · have hs : s.lay a fr to = layK a (s.lay1 a fr to) 16 := by unfold Wd.lay; rw [if_neg hft]
    have hft' : fr ≤ to := by omega
    clear hft
    obtain ⟨⟨e1, s1⟩, eq1⟩ : ∃ r, s.put a fr = r := ⟨_, rfl⟩
    by_cases he1 : e1 = 0
    · subst he1
      obtain ⟨⟨e2, s2⟩, eq2⟩ : ∃ r, s1.put (endA a) to = r := ⟨_, rfl⟩
      have hl : s.lay1 a fr to = (e2, s2) := by unfold Wd.lay1; simp [eq1, eq2]
      rw [hl] at hs
      have HLY : Hid (_ = _) := hs
      have HE1 : Hid (_ = _) := eq1
      have HE2 : Hid (_ = _) := eq2
      obtain ⟨es, hes⟩ : ∃ r, (e2, s2) = r := ⟨_, rfl⟩
      have HES : Hid ((e2, s2) = es) := hes
      rw [hes] at HLY
      clear hs eq1 eq2 hl hes
      go_enter Try.func32, Try.ntmps32
      go_wp2_with fail
      refine wp_scope_straight ?_
      go_wp2_with fail
      have hh := HH.out
      refine (tput_r HE1 ha hfr hh).mono ?_
      rintro e_ w1 ⟨rfl, h1, k1⟩
      replace HH := hid h1
      replace kk := hid (kk.out.trans k1)
      clear hh h1 k1
      go_wp2_with fail
      refine wp_region_tail 7 (by kernel_rfl) (by kernel_rfl) ?_
      simp only [List.take_succ_cons, List.take_zero, List.drop_succ_cons, List.drop_zero]
      repeat (go_big_quiet_step ((go_at_call 64; exact Calls.quiet_of_same (endOf_any a _))))
      refine wpQuiet_nil ?_
      intro _ hw'
      obtain ⟨nq, hw''⟩ := hw'
      subst hw''
      try simp only [World.drewN_drewN]
      replace HH := hid (HH.out.drewN nq)
      replace kk := hid (kk.out.drewN nq)
      go_wp2_with fail
      have hh := HH.out
      refine (tput_r HE2 (uw_isW _) hto hh).mono ?_
      rintro e_ w2 ⟨rfl, h2, k2⟩
      replace HH := hid h2
      replace kk := hid (kk.out.trans k2)
      clear hh h2 k2
      go_wp2_with fail
      refine wp_label ?_
      go_wp2_with fail
      go_loopw [9, 10] (fun er sz wr => ∃ k : Nat, k ≤ 16 ∧ sz = .int .u64 ((k : Int) + 1) ∧ er = .int .i64 (layK a (es) k).1 ∧ Hid (WdAt wr b g c (layK a (es) k).2 ∧ Keeps (two b g) w wr)) (fun _ sz _ => 17 - (intOf sz).toNat)
      case atStart => exact ⟨0, by omega, rfl, by show _ = Value.int .i64 es.1; rw [← HES.out], hid ⟨by show WdAt _ b g c es.2; rw [← HES.out]; exact HH.out, kk.out⟩⟩
      case round =>
        obtain ⟨k, hk, rfl, rfl, hr⟩ := hrel
        obtain ⟨⟨e, s'⟩, eqk⟩ : ∃ r, layK a (es) k = r := ⟨_, rfl⟩
        rw [eqk] at hr ⊢
        dsimp only at hr ⊢
        have HEK : Hid (layK a (es) k = (e, s')) := eqk
        clear eqk HH kk
        by_cases hlt : k < 16
        · have hk1 : (k : Int) + 1 ≤ 16 := by omega
          have hk0 : 1 ≤ (k : Int) + 1 := by omega
          by_cases he : e = 0
          · subst he
            obtain ⟨⟨e', s''⟩, eqp⟩ : ∃ r, s'.put (hdA a ((k : Int) + 1)) 0 = r := ⟨_, rfl⟩
            have HN : Hid (layK a (es) (k + 1) = (e', s'')) := by
              show (if (layK a (es) k).1 = 0 then (layK a (es) k).2.put (hdA a ((k : Int) + 1)) 0 else layK a (es) k) = _
              rw [HEK.out]
              exact eqp
            have HE : Hid (_ = _) := eqp
            clear eqp HEK hlt
            have hwk : IntKind.u64.wrap ((k : Int) + 1 + 1) = (k : Int) + 1 + 1 := by rw [IntKind.wrap_u64]; omega
            go_wp2_with fail
            refine wp_region_tail 7 (by kernel_rfl) (by kernel_rfl) ?_
            simp only [List.take_succ_cons, List.take_zero, List.drop_succ_cons, List.drop_zero]
            repeat (go_big_quiet_step ((go_at_call 46; exact Calls.quiet_of_same (headOf_any a ((k : Int) + 1) _))))
            refine wpQuiet_nil ?_
            intro _ hw'
            obtain ⟨nq, hw''⟩ := hw'
            subst hw''
            try simp only [World.drewN_drewN]
            have hh := hr.out.1.drewN nq
            have kn := hr.out.2.drewN nq
            go_wp2_with fail
            refine (tput_r HE (uw_isW _) zero_isW hh).mono ?_
            rintro e_ w2 ⟨rfl, h2, k2⟩
            have HF := hid (And.intro h2 (kn.trans k2))
            clear hh kn h2 k2 hr HE
            go_wp2_with fail
            go_roundw
            case rel => exact ⟨k + 1, by omega, by simp, by rw [HN.out], by rw [HN.out]; exact HF⟩
            case measure => simp [intOf]; omega
          · have HST : Hid (layK a (es) 16 = (e, s')) := by
              have q := layK_stop a (es) k (by rw [HEK.out]; exact he) (16 - k)
              rw [show k + (16 - k) = 16 by omega, HEK.out] at q
              exact q
            clear HEK
            go_wp2_with fail
            simp only [Exit.noGoto]
            go_ret
            rw [HLY.out, HST.out]
            exact ⟨rfl, hr.out.1, hr.out.2⟩
        · obtain rfl : k = 16 := by omega
          clear hlt hk
          go_wp2_with fail
          simp only [Exit.noGoto]
          go_ret
          rw [HLY.out, HEK.out]
          exact ⟨rfl, hr.out.1, hr.out.2⟩
    · have hl : s.lay a fr to = (e1, s1) := by
        have q : s.lay1 a fr to = (e1, s1) := by unfold Wd.lay1; simp [eq1, he1]
        rw [hs, q]
        have q2 := layK_stop a (e1, s1) 0 he1 16
        rw [Nat.zero_add] at q2
        exact q2
      rw [hl]
      have HE1 : Hid (_ = _) := eq1
      clear hs eq1 hl
      go_enter Try.func32, Try.ntmps32
      go_wp2_with fail
      refine wp_scope_straight ?_
      go_wp2_with fail
      have hh := HH.out
      refine (tput_r HE1 ha hfr hh).mono ?_
      rintro e_ w1 ⟨rfl, h1, k1⟩
      replace HH := hid h1
      replace kk := hid (kk.out.trans k1)
      clear hh h1 k1
      go_wp2_with fail
      refine wp_label ?_
      go_wp2_with fail
      go_loopw [9, 10] (fun er sz wr => sz = .int .u64 1 ∧ er = .int .i64 e1 ∧ Hid (WdAt wr b g c s1 ∧ Keeps (two b g) w wr)) (fun _ _ _ => 0)
      case atStart => exact ⟨rfl, rfl, hid ⟨HH.out, kk.out⟩⟩
      case round =>
        obtain ⟨rfl, rfl, hr⟩ := hrel
        clear HH kk
        go_wp2_with fail
        simp only [Exit.noGoto]
        go_ret
        exact ⟨rfl, hr.out.1, hr.out.2⟩
end Go.Proofs.Ytalopkllldnipaa


/- The walk of room's Given (layer 24). No statement of the seat is proved here. -/
namespace Go.Proofs.Ytalopkllldnipaa
open Go.RowKit

set_option maxRecDepth 100000 in
set_option maxHeartbeats 4000000 in
theorem given_any (b g c : Nat) (s : Wd) (a n : Int) (w : World) (h : WdAt w b g c s) :
    Calls Try.prog 21 #[.iface 24 (.pointer (some ⟨b, 0, none⟩)), .int .u64 a, .int .u64 n] w fun e w' => ∃ v, e = .returned (.tuple #[v, .int .i64 (s.given a n).1.2]) ∧ Wr w' w.heap.size v (s.given a n).1.1 ∧ WdAt w' b g c (s.given a n).2 ∧ Keeps (two b g) w w' := by
  have mg := meth_get b
  have ng := nil_get b
  have oks : s.Ok := h.ok
  have HLT : Hid (b < w.heap.size ∧ g < w.heap.size) := ⟨h.ltb, h.ltg⟩
  have HH := hid h
  clear h
  have kk : Hid (Keeps (two b g) w w) := Keeps.refl _ w
  by_cases hm : ¬ mayN n
  · skip
    have hs : s.given a n = (([], 2), s) := by unfold Wd.given; rw [if_pos hm]
    rw [hs]
    clear hs
    go_enter Try.func21, Try.ntmps21
    go_wp2_with fail
    refine (may_no b n hm _).mono ?_
    rintro e_ w_ ⟨rfl, rfl⟩
    go_wp2_with fail
    go_ret2
    exact ⟨_, rfl, Wr.nil _ _, HH.out, kk.out⟩
  · replace hm : mayN n := Classical.not_not.1 hm
    obtain ⟨⟨⟨x, e⟩, s1⟩, eq1⟩ : ∃ r, s.get (hdA a n) = r := ⟨_, rfl⟩
    have hwx : isW x := get_isW eq1 oks
    have oks1 : s1.Ok := by have q := (oks.get (hdA a n)).1; rw [eq1] at q; exact q
    have hs : s.given a n = (Gv.go 65536 ⟨[], x, e, s1⟩).fin := by unfold Wd.given; rw [if_neg (fun f => f hm), eq1]
    have HGV : Hid (_ = _) := hs
    have HE1 : Hid (_ = _) := eq1
    clear hs eq1
    have HT : Hid (∀ X : World, X.heap = w.heap → X.os = w.os → X.tape = w.tape → X.output = w.output → Calls Try.prog 119 #[.pointer (some ⟨b, 0, none⟩), .int .u64 (hdA a n)] X fun r w' => r = .returned (.tuple #[.int .u64 x, .int .i64 e]) ∧ WdAt w' b g c s1 ∧ Keeps (two b g) w w') := fun X e1 e2 e3 e4 => ((tget_r HE1 (uw_isW _) (HH.out.like e1)).mono fun r w' hq => ⟨hq.1, hq.2.1, (kk.out.like e1 e2 e3 e4).trans hq.2.2⟩)
    clear HH kk
    go_enter Try.func21, Try.ntmps21
    go_wp2_with fail
    refine (may_yes b n hm _).mono ?_
    rintro e_ w_ ⟨rfl, hw_⟩
    subst w_
    go_wp2_with fail
    go_region_held3 (fun _ : World => True) (trivial) ((first | (go_at_call 46; refine (headOf_any a n _).mono ?_; rintro e_ w_ ⟨rfl, hw_⟩; subst w_) | (go_at_call 119; refine (HT.out _ (by exact rfl) (by exact rfl) (by exact rfl) (by exact rfl)).mono ?_; rintro e_ w1 ⟨rfl, h1, k1⟩)))
    all_goals clear HT
    all_goals go_wp2_with fail
    all_goals
      go_loopw [9, 10, 11] (fun pv nx er wr => ∃ G : Gv, nx = .int .u64 G.x ∧ er = .int .i64 G.e ∧ Hid (Wr wr w.heap.size pv G.out ∧ WdAt wr b g c G.s ∧ Keeps (two b g) w wr ∧ G.out.length ≤ 65536 ∧ isW G.x ∧ G.s.Ok ∧ Gv.go (65536 - G.out.length) G = Gv.go 65536 ⟨[], x, e, s1⟩)) (fun pv _ _ _ => 65537 - lenOf pv)
      case atStart => exact ⟨⟨[], x, e, s1⟩, rfl, rfl, hid ⟨Wr.nil _ _, h1, k1, by simp, hwx, oks1, rfl⟩⟩
      case round =>
        obtain ⟨⟨O, y, f, s2⟩, rfl, rfl, hr⟩ := hrel
        try dsimp only at hr ⊢
        have hol := hr.out.2.2.2.1
        try dsimp only at hol
        obtain ⟨ao, co, rfl⟩ : ∃ ao co, u9 = .slice ao O.length co := hr.out.1.form
        clear h1 k1 hwx oks1
        by_cases hf : f = 0
        · subst hf
          by_cases hy : y = 0
          · subst hy
            have HFN : Hid (s.given a n = ((O, 0), s2)) := hid <| by
              have q := hr.out.2.2.2.2.2.2
              rw [Gv.go_stop (by unfold Gv.on; simp)] at q
              rw [HGV.out, ← q]
              unfold Gv.fin
              simp
            go_wp2_with fail
            go_ret2
            rw [HFN.out]
            exact ⟨_, rfl, hr.out.1, hr.out.2.1, hr.out.2.2.1⟩
          · by_cases hl : O.length = 65536
            · have HFN : Hid (s.given a n = (([], 2), s2)) := hid <| by
                have q := hr.out.2.2.2.2.2.2
                rw [Gv.go_stop (by unfold Gv.on; simp [hl])] at q
                rw [HGV.out, ← q]
                unfold Gv.fin
                simp [hy]
              have hli : (O.length : Int) = 65536 := by omega
              clear hl
              go_wp2_with fail
              go_ret2
              rw [HFN.out]
              exact ⟨_, rfl, Wr.nil _ _, hr.out.2.1, hr.out.2.2.1⟩
            · obtain ⟨⟨⟨y2, f2⟩, s3⟩, eq2⟩ : ∃ r, s2.get (uw (y - 1)) = r := ⟨_, rfl⟩
              have okk := hr.out.2.2.2.2.2.1
              try dsimp only at okk
              have hw2 : isW y2 := get_isW eq2 okk
              have ok3 : s3.Ok := by have q := (okk.get (uw (y - 1))).1; rw [eq2] at q; exact q
              have hK := hr.out.2.2.1
              obtain ⟨v', wa, hrun, hwr, hkp⟩ := hr.out.1.push (x := uw (y - 1)) hK.size (by show O.length < _; omega)
              have HR : Hid (_ = _) := hrun
              have hli : (O.length : Int) ≠ 65536 := by omega
              have HGO : Hid (Gv.go (65536 - (O.length + 1)) ⟨O ++ [uw (y - 1)], y2, f2, s3⟩ = Gv.go 65536 ⟨[], x, e, s1⟩) := by
                have q := hr.out.2.2.2.2.2.2
                try dsimp only at q
                rw [show 65536 - O.length = (65536 - (O.length + 1)) + 1 by omega, Gv.go_next (by unfold Gv.on; exact ⟨rfl, hy, hl⟩)] at q
                unfold Gv.step at q
                rw [eq2] at q
                exact q
              have HTW : Hid (WdAt wa b g c s2) := by
                have q := hr.out.2.1
                have hb0 : Keeps (fun g' => w.heap.size ≤ g') _ wa := hkp
                have hlt := HLT.out
                exact q.kept hb0 (by omega) (by omega)
              have HKA : Hid (Keeps (two b g) w wa ∧ Wr wa w.heap.size v' (O ++ [uw (y - 1)]) ∧ w.heap.size ≤ wa.heap.size) := hid ⟨hK.step hkp (fun i hi e => by omega), hwr, Nat.le_trans hK.size hkp.size⟩
              have HE2 : Hid (_ = _) := eq2
              clear hrun hwr hkp eq2 hr hK okk hl
              go_wp2_with (at_builtin; refine wpList_append_run rfl _ _ 34 rfl rfl rfl HR.out ?_; clear HR)
              have hh := HTW.out
              refine (tget_r HE2 (uw_isW _) hh).mono ?_
              rintro e_ w3 ⟨rfl, h3, k3⟩
              have hlt := HLT.out
              have HFF := hid (And.intro (HKA.out.1.trans k3) (HKA.out.2.1.keeps k3 (fun q e => by rcases e with rfl | rfl <;> omega)))
              have HH3 := hid h3
              obtain ⟨a', c', rfl⟩ := HFF.out.2.form
              clear hh h3 k3 hlt HKA HTW HE2
              go_wp2_with fail
              go_roundw
              case rel => exact ⟨⟨O ++ [uw (y - 1)], y2, f2, s3⟩, rfl, rfl, hid ⟨by have q := HFF.out.2; rw [List.length_append] at q; exact q, HH3.out, HFF.out.1, by simp; omega, hw2, ok3, by rw [List.length_append]; exact HGO.out⟩⟩
              case measure => simp [lenOf]; omega
        · have HFN : Hid (s.given a n = (([], f), s2)) := hid <| by
            have q := hr.out.2.2.2.2.2.2
            rw [Gv.go_stop (by unfold Gv.on; simp [hf])] at q
            rw [HGV.out, ← q]
            unfold Gv.fin
            simp [hf]
          go_wp2_with fail
          go_ret2
          rw [HFN.out]
          exact ⟨_, rfl, Wr.nil _ _, hr.out.2.1, hr.out.2.2.1⟩
end Go.Proofs.Ytalopkllldnipaa


/- The walks of room's functions (layer 24). No statement of the seat is proved here. -/
namespace Go.Proofs.Ytalopkllldnipaa
open Go.RowKit

set_option maxHeartbeats 2000000 in
theorem left_any (b g c : Nat) (s : Wd) (a : Int) (ha : isW a) (w : World) (h : WdAt w b g c s) :
    Calls Try.prog 20 #[.iface 24 (.pointer (some ⟨b, 0, none⟩)), .int .u64 a] w fun e w' => e = .returned (.tuple #[.int .u64 (s.lft a).1.1, .int .i64 (s.lft a).1.2]) ∧ WdAt w' b g c (s.lft a).2 ∧ Keeps (two b g) w w' := by
  have mg := meth_get b
  have mp := meth_put b
  have ng := nil_get b
  have np := nil_put b
  have oks : s.Ok := h.ok
  have HH := hid h
  clear h
  obtain ⟨⟨⟨x, y, e⟩, s1⟩, eq1⟩ : ∃ r, s.free a = r := ⟨_, rfl⟩
  have hs : s.lft a = ((y, e), s1) := by
    unfold Wd.lft
    simp [eq1]
  rw [hs]
  have HE1 : Hid (_ = _) := eq1
  clear hs eq1
  have kk : Hid (Keeps (two b g) w w) := Keeps.refl _ w
  go_enter Try.func20, Try.ntmps20
  go_wp2_with fail
  have hh := HH.out
  refine (unused_r HE1 ha hh).mono ?_
  rintro e_ w1 ⟨rfl, h1, k1⟩
  replace HH := hid h1
  replace kk := hid (kk.out.trans k1)
  clear hh h1 k1
  go_wp2_with fail
  go_ret2
  exact ⟨rfl, HH.out, kk.out⟩
theorem left_r {b g c : Nat} {s : Wd} {a x1 e1 : Int} {s1 : Wd} (heq : Hid (s.lft a = ((x1, e1), s1))) (ha : isW a) {w : World} (h : WdAt w b g c s) :
    Calls Try.prog 20 #[.iface 24 (.pointer (some ⟨b, 0, none⟩)), .int .u64 a] w fun e w' => e = .returned (.tuple #[.int .u64 x1, .int .i64 e1]) ∧ WdAt w' b g c s1 ∧ Keeps (two b g) w w' := by
  have q := left_any b g c s a ha w h
  rw [heq.out] at q
  exact q
end Go.Proofs.Ytalopkllldnipaa
