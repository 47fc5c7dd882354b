
/- The walk of queue's Take (layer 23). No statement of the seat is proved here. -/
import Derived.Test.YtadbplbifjeghaaQuT
namespace Go.Proofs.Ytadbplbifjeghaa
open Go.RowKit

set_option maxRecDepth 100000 in
set_option maxHeartbeats 2000000 in
theorem qtake_any (t b g c : Nat) (s : Wd) (r q : Int) (_hr : isW r) (hq : isW q) (w : World) (h : Tw w t b g c s) :
    Calls Try.prog 23 #[.iface 24 (.pointer (some ⟨t, 0, none⟩)), .int .u64 r, .int .u64 q] w fun e w' => e = .returned (.tuple #[.int .u64 (Wd.qtake r q s).1.1.1, .bool (Wd.qtake r q s).1.1.2, .int .i64 (Wd.qtake r q s).1.2]) ∧ Tw w' t b g c (Wd.qtake r q s).2 ∧ Keeps (two b g) w w' := by
  have mg := meth_get t
  have ng := nil_get t
  have hq0 : IntKind.u64.wrap q = q := uw_id hq
  have hq1 : IntKind.u64.wrap (q + 0) = q := by rw [Int.add_zero]; exact uw_id hq
  have HH := hid h
  have oks : s.Ok := h.wd.ok
  clear h
  obtain ⟨⟨⟨x, e⟩, s1⟩, eq1⟩ : ∃ rr, s.get q = rr := ⟨_, rfl⟩
  have oks1 : s1.Ok := by have p := (oks.get q).1; rw [eq1] at p; exact p
  by_cases he : e = 0
  · subst he
    by_cases hx0 : x = 0
    · subst hx0
      have hs : Wd.qtake r q s = (((0, false), 0), s1) := by
        unfold Wd.qtake
        simp [bnd, rtn, eq1]
      rw [hs]
      have HE1 : Hid (_ = _) := eq1
      clear hs eq1
      have kk : Hid (Keeps (two b g) w w) := Keeps.refl _ w
      go_enter Try.func23, Try.ntmps23
      go_wp2_with fail
      have hh := HH.out
      refine (tget_r HE1 hq hh).mono ?_
      rintro e_ w1 ⟨rfl, h1, k1⟩
      replace HH := hid h1
      replace kk := hid (kk.out.trans k1)
      clear hh h1 k1
      go_wp2_with fail
      go_ret3
      exact ⟨rfl, HH.out, kk.out⟩
    · skip
      obtain ⟨⟨⟨l, e⟩, s2⟩, eq2⟩ : ∃ rr, getsF (nodeA x) 2 s1 = rr := ⟨_, rfl⟩
      by_cases he : e = 0
      · subst he
        have hl2 := gets_isW oks1 _ _ eq2
        obtain ⟨⟨⟨⟨⟩, e⟩, s3⟩, eq3⟩ : ∃ rr, unhangU q (oat l 1) s2 = rr := ⟨_, rfl⟩
        by_cases he : e = 0
        · subst he
          obtain ⟨⟨⟨⟨⟩, e⟩, s4⟩, eq4⟩ : ∃ rr, recountU q oneFewer s3 = rr := ⟨_, rfl⟩
          by_cases he : e = 0
          · subst he
            obtain ⟨⟨⟨⟨⟩, e⟩, s5⟩, eq5⟩ : ∃ rr, giveU r (nodeA x) 2 s4 = rr := ⟨_, rfl⟩
            by_cases he : e = 0
            · subst he
              have hs : Wd.qtake r q s = (((oat l 0, true), 0), s5) := by
                unfold Wd.qtake
                simp [bnd, rtn, eq1, eq2, eq3, eq4, eq5, hx0]
              rw [hs]
              have HE1 : Hid (_ = _) := eq1
              have HE2 : Hid (_ = _) := eq2
              have HE3 : Hid (_ = _) := eq3
              have HE4 : Hid (_ = _) := eq4
              have HE5 : Hid (_ = _) := eq5
              clear hs eq1 eq2 eq3 eq4 eq5
              have kk : Hid (Keeps (two b g) w w) := Keeps.refl _ w
              go_enter Try.func23, Try.ntmps23
              go_wp2_with fail
              have hh := HH.out
              refine (tget_r HE1 hq hh).mono ?_
              rintro e_ w1 ⟨rfl, h1, k1⟩
              replace HH := hid h1
              replace kk := hid (kk.out.trans k1)
              clear hh h1 k1
              go_wp2_with fail
              refine wp_region_tail 4 (by kernel_rfl) (by kernel_rfl) ?_
              simp only [List.take_succ_cons, List.take_zero, List.drop_succ_cons, List.drop_zero]
              repeat (go_big_quiet_step ((go_at_call 40; exact Calls.quiet_of_same (nodeOf_any x _))))
              refine wpQuiet_nil ?_
              intro _ hw'
              obtain ⟨nq, hw''⟩ := hw'
              subst hw''
              try simp only [World.drewN_drewN]
              go_wp2_with fail
              have hh := HH.out
              refine (qget_laid_q nq 2 90 _ rfl HE2 (uw_isW _) (by omega) hh).mono ?_
              rintro e_ w2 ⟨rfl, h2, k2, b2⟩
              have HLT : Hid (b < w1.heap.size ∧ g < w1.heap.size) := hid ⟨hh.ltt.2.1, hh.ltt.2.2⟩
              replace HH := hid h2
              replace kk := hid (kk.out.trans k2)
              have HB := hid (b2 rfl)
              clear hh h2 k2 b2
              have hc1 := HB.out.cell (i := 1) (by rw [hl2.1]; omega)
              go_wp2_with fail
              have hh := HH.out
              refine (unhang_r HE3 hq (hl2.2 1) hh).mono ?_
              rintro e_ w3 ⟨rfl, h3, k3⟩
              replace HB := hid (HB.out.kept k3 (fun q => by have p := HLT.out; rcases q with q | q <;> omega))
              replace HH := hid h3
              replace kk := hid (kk.out.trans k3)
              clear hh h3 k3 hc1
              go_wp2_with fail
              have hh := HH.out
              refine (recount_r HE4  hh).mono ?_
              rintro e_ w4 ⟨rfl, h4, k4⟩
              replace HB := hid (HB.out.kept k4 (fun q => by have p := HLT.out; rcases q with q | q <;> omega))
              replace HH := hid h4
              replace kk := hid (kk.out.trans k4)
              clear hh h4 k4
              go_wp2_with (go_at_call 40; refine (nodeOf_any x _).mono ?_; rintro e_ w_ ⟨rfl, hw_⟩; subst w_)
              have hh := HH.out
              refine (give_u HE5 (uw_isW _) hh).mono ?_
              rintro e_ w5 ⟨rfl, h5, k5⟩
              replace HB := hid (HB.out.kept k5 (fun q => by have p := HLT.out; rcases q with q | q <;> omega))
              replace HH := hid h5
              replace kk := hid (kk.out.trans k5)
              clear hh h5 k5
              have hc0 := HB.out.cell (i := 0) (by rw [hl2.1]; omega)
              go_wp2_with fail
              go_ret3
              exact ⟨rfl, HH.out, kk.out⟩
            · skip
              have hs : Wd.qtake r q s = (((0, false), e), s5) := by
                unfold Wd.qtake
                simp [bnd, eq1, eq2, eq3, eq4, eq5, hx0, he]
              rw [hs]
              have HE1 : Hid (_ = _) := eq1
              have HE2 : Hid (_ = _) := eq2
              have HE3 : Hid (_ = _) := eq3
              have HE4 : Hid (_ = _) := eq4
              have HE5 : Hid (_ = _) := eq5
              clear hs eq1 eq2 eq3 eq4 eq5
              have kk : Hid (Keeps (two b g) w w) := Keeps.refl _ w
              go_enter Try.func23, Try.ntmps23
              go_wp2_with fail
              have hh := HH.out
              refine (tget_r HE1 hq hh).mono ?_
              rintro e_ w1 ⟨rfl, h1, k1⟩
              replace HH := hid h1
              replace kk := hid (kk.out.trans k1)
              clear hh h1 k1
              go_wp2_with fail
              refine wp_region_tail 4 (by kernel_rfl) (by kernel_rfl) ?_
              simp only [List.take_succ_cons, List.take_zero, List.drop_succ_cons, List.drop_zero]
              repeat (go_big_quiet_step ((go_at_call 40; exact Calls.quiet_of_same (nodeOf_any x _))))
              refine wpQuiet_nil ?_
              intro _ hw'
              obtain ⟨nq, hw''⟩ := hw'
              subst hw''
              try simp only [World.drewN_drewN]
              go_wp2_with fail
              have hh := HH.out
              refine (qget_laid_q nq 2 90 _ rfl HE2 (uw_isW _) (by omega) hh).mono ?_
              rintro e_ w2 ⟨rfl, h2, k2, b2⟩
              have HLT : Hid (b < w1.heap.size ∧ g < w1.heap.size) := hid ⟨hh.ltt.2.1, hh.ltt.2.2⟩
              replace HH := hid h2
              replace kk := hid (kk.out.trans k2)
              have HB := hid (b2 rfl)
              clear hh h2 k2 b2
              have hc1 := HB.out.cell (i := 1) (by rw [hl2.1]; omega)
              go_wp2_with fail
              have hh := HH.out
              refine (unhang_r HE3 hq (hl2.2 1) hh).mono ?_
              rintro e_ w3 ⟨rfl, h3, k3⟩
              replace HB := hid (HB.out.kept k3 (fun q => by have p := HLT.out; rcases q with q | q <;> omega))
              replace HH := hid h3
              replace kk := hid (kk.out.trans k3)
              clear hh h3 k3 hc1
              go_wp2_with fail
              have hh := HH.out
              refine (recount_r HE4  hh).mono ?_
              rintro e_ w4 ⟨rfl, h4, k4⟩
              replace HB := hid (HB.out.kept k4 (fun q => by have p := HLT.out; rcases q with q | q <;> omega))
              replace HH := hid h4
              replace kk := hid (kk.out.trans k4)
              clear hh h4 k4
              go_wp2_with (go_at_call 40; refine (nodeOf_any x _).mono ?_; rintro e_ w_ ⟨rfl, hw_⟩; subst w_)
              have hh := HH.out
              refine (give_u HE5 (uw_isW _) hh).mono ?_
              rintro e_ w5 ⟨rfl, h5, k5⟩
              replace HB := hid (HB.out.kept k5 (fun q => by have p := HLT.out; rcases q with q | q <;> omega))
              replace HH := hid h5
              replace kk := hid (kk.out.trans k5)
              clear hh h5 k5
              go_wp2_with fail
              go_ret3
              exact ⟨rfl, HH.out, kk.out⟩
          · skip
            have hs : Wd.qtake r q s = (((0, false), e), s4) := by
              unfold Wd.qtake
              simp [bnd, eq1, eq2, eq3, eq4, hx0, he]
            rw [hs]
            have HE1 : Hid (_ = _) := eq1
            have HE2 : Hid (_ = _) := eq2
            have HE3 : Hid (_ = _) := eq3
            have HE4 : Hid (_ = _) := eq4
            clear hs eq1 eq2 eq3 eq4
            have kk : Hid (Keeps (two b g) w w) := Keeps.refl _ w
            go_enter Try.func23, Try.ntmps23
            go_wp2_with fail
            have hh := HH.out
            refine (tget_r HE1 hq hh).mono ?_
            rintro e_ w1 ⟨rfl, h1, k1⟩
            replace HH := hid h1
            replace kk := hid (kk.out.trans k1)
            clear hh h1 k1
            go_wp2_with fail
            refine wp_region_tail 4 (by kernel_rfl) (by kernel_rfl) ?_
            simp only [List.take_succ_cons, List.take_zero, List.drop_succ_cons, List.drop_zero]
            repeat (go_big_quiet_step ((go_at_call 40; exact Calls.quiet_of_same (nodeOf_any x _))))
            refine wpQuiet_nil ?_
            intro _ hw'
            obtain ⟨nq, hw''⟩ := hw'
            subst hw''
            try simp only [World.drewN_drewN]
            go_wp2_with fail
            have hh := HH.out
            refine (qget_laid_q nq 2 90 _ rfl HE2 (uw_isW _) (by omega) hh).mono ?_
            rintro e_ w2 ⟨rfl, h2, k2, b2⟩
            have HLT : Hid (b < w1.heap.size ∧ g < w1.heap.size) := hid ⟨hh.ltt.2.1, hh.ltt.2.2⟩
            replace HH := hid h2
            replace kk := hid (kk.out.trans k2)
            have HB := hid (b2 rfl)
            clear hh h2 k2 b2
            have hc1 := HB.out.cell (i := 1) (by rw [hl2.1]; omega)
            go_wp2_with fail
            have hh := HH.out
            refine (unhang_r HE3 hq (hl2.2 1) hh).mono ?_
            rintro e_ w3 ⟨rfl, h3, k3⟩
            replace HB := hid (HB.out.kept k3 (fun q => by have p := HLT.out; rcases q with q | q <;> omega))
            replace HH := hid h3
            replace kk := hid (kk.out.trans k3)
            clear hh h3 k3 hc1
            go_wp2_with fail
            have hh := HH.out
            refine (recount_r HE4  hh).mono ?_
            rintro e_ w4 ⟨rfl, h4, k4⟩
            replace HB := hid (HB.out.kept k4 (fun q => by have p := HLT.out; rcases q with q | q <;> omega))
            replace HH := hid h4
            replace kk := hid (kk.out.trans k4)
            clear hh h4 k4
            go_wp2_with fail
            go_ret3
            exact ⟨rfl, HH.out, kk.out⟩
        · skip
          have hs : Wd.qtake r q s = (((0, false), e), s3) := by
            unfold Wd.qtake
            simp [bnd, eq1, eq2, eq3, hx0, he]
          rw [hs]
          have HE1 : Hid (_ = _) := eq1
          have HE2 : Hid (_ = _) := eq2
          have HE3 : Hid (_ = _) := eq3
          clear hs eq1 eq2 eq3
          have kk : Hid (Keeps (two b g) w w) := Keeps.refl _ w
          go_enter Try.func23, Try.ntmps23
          go_wp2_with fail
          have hh := HH.out
          refine (tget_r HE1 hq hh).mono ?_
          rintro e_ w1 ⟨rfl, h1, k1⟩
          replace HH := hid h1
          replace kk := hid (kk.out.trans k1)
          clear hh h1 k1
          go_wp2_with fail
          refine wp_region_tail 4 (by kernel_rfl) (by kernel_rfl) ?_
          simp only [List.take_succ_cons, List.take_zero, List.drop_succ_cons, List.drop_zero]
          repeat (go_big_quiet_step ((go_at_call 40; exact Calls.quiet_of_same (nodeOf_any x _))))
          refine wpQuiet_nil ?_
          intro _ hw'
          obtain ⟨nq, hw''⟩ := hw'
          subst hw''
          try simp only [World.drewN_drewN]
          go_wp2_with fail
          have hh := HH.out
          refine (qget_laid_q nq 2 90 _ rfl HE2 (uw_isW _) (by omega) hh).mono ?_
          rintro e_ w2 ⟨rfl, h2, k2, b2⟩
          have HLT : Hid (b < w1.heap.size ∧ g < w1.heap.size) := hid ⟨hh.ltt.2.1, hh.ltt.2.2⟩
          replace HH := hid h2
          replace kk := hid (kk.out.trans k2)
          have HB := hid (b2 rfl)
          clear hh h2 k2 b2
          have hc1 := HB.out.cell (i := 1) (by rw [hl2.1]; omega)
          go_wp2_with fail
          have hh := HH.out
          refine (unhang_r HE3 hq (hl2.2 1) hh).mono ?_
          rintro e_ w3 ⟨rfl, h3, k3⟩
          replace HB := hid (HB.out.kept k3 (fun q => by have p := HLT.out; rcases q with q | q <;> omega))
          replace HH := hid h3
          replace kk := hid (kk.out.trans k3)
          clear hh h3 k3 hc1
          go_wp2_with fail
          go_ret3
          exact ⟨rfl, HH.out, kk.out⟩
      · skip
        have hs : Wd.qtake r q s = (((0, false), e), s2) := by
          unfold Wd.qtake
          simp [bnd, eq1, eq2, hx0, he]
        rw [hs]
        have HE1 : Hid (_ = _) := eq1
        have HE2 : Hid (_ = _) := eq2
        clear hs eq1 eq2
        have kk : Hid (Keeps (two b g) w w) := Keeps.refl _ w
        go_enter Try.func23, Try.ntmps23
        go_wp2_with fail
        have hh := HH.out
        refine (tget_r HE1 hq hh).mono ?_
        rintro e_ w1 ⟨rfl, h1, k1⟩
        replace HH := hid h1
        replace kk := hid (kk.out.trans k1)
        clear hh h1 k1
        go_wp2_with fail
        refine wp_region_tail 4 (by kernel_rfl) (by kernel_rfl) ?_
        simp only [List.take_succ_cons, List.take_zero, List.drop_succ_cons, List.drop_zero]
        repeat (go_big_quiet_step ((go_at_call 40; exact Calls.quiet_of_same (nodeOf_any x _))))
        refine wpQuiet_nil ?_
        intro _ hw'
        obtain ⟨nq, hw''⟩ := hw'
        subst hw''
        try simp only [World.drewN_drewN]
        go_wp2_with fail
        have hh := HH.out
        refine (qget_laid_q nq 2 90 _ rfl HE2 (uw_isW _) (by omega) hh).mono ?_
        rintro e_ w2 ⟨rfl, h2, k2, b2⟩
        have HLT : Hid (b < w1.heap.size ∧ g < w1.heap.size) := hid ⟨hh.ltt.2.1, hh.ltt.2.2⟩
        replace HH := hid h2
        replace kk := hid (kk.out.trans k2)
        clear hh h2 k2 b2
        go_wp2_with fail
        go_ret3
        exact ⟨rfl, HH.out, kk.out⟩
  · skip
    have hs : Wd.qtake r q s = (((0, false), e), s1) := by
      unfold Wd.qtake
      simp [bnd, eq1, he]
    rw [hs]
    have HE1 : Hid (_ = _) := eq1
    clear hs eq1
    have kk : Hid (Keeps (two b g) w w) := Keeps.refl _ w
    go_enter Try.func23, Try.ntmps23
    go_wp2_with fail
    have hh := HH.out
    refine (tget_r HE1 hq hh).mono ?_
    rintro e_ w1 ⟨rfl, h1, k1⟩
    replace HH := hid h1
    replace kk := hid (kk.out.trans k1)
    clear hh h1 k1
    go_wp2_with fail
    go_ret3
    exact ⟨rfl, HH.out, kk.out⟩
theorem qtake_r {t b g c : Nat} {s : Wd} {r q : Int} {x1 : Int} {b1 : Bool} {e1 : Int} {s1 : Wd} (heq : Hid (Wd.qtake r q s = (((x1, b1), e1), s1))) (hr : isW r) (hq : isW q) {w : World} (h : Tw w t b g c s) :
    Calls Try.prog 23 #[.iface 24 (.pointer (some ⟨t, 0, none⟩)), .int .u64 r, .int .u64 q] w fun e w' => e = .returned (.tuple #[.int .u64 x1, .bool b1, .int .i64 e1]) ∧ Tw w' t b g c s1 ∧ Keeps (two b g) w w' := by
  have q := qtake_any t b g c s r q hr hq w h
  rw [heq.out] at q
  exact q
end Go.Proofs.Ytadbplbifjeghaa
