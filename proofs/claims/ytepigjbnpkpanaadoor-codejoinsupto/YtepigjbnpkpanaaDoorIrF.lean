
/- CodeJoins' walk. No statement of the seat is proved here. -/
import Derived.Test.YtepigjbnpkpanaaDoorIrE
namespace Go.Proofs.YtepigjbnpkpanaaDoor
open Go.RowKit Go.Shelf

set_option maxRecDepth 100000 in
set_option maxHeartbeats 8000000 in
theorem joins_law (va vb vc : Value) (A B C : List I5) (w : World) (hw : Gl w) (ha : InsAt w va A) (hb : InsAt w vb B) (hc : InsAt w vc C) (la : A.length ≤ 1048576) (lb0 : B.length ≤ 1048576) (lc0 : C.length ≤ 1048576) :
    Calls Tryd.prog 8 #[va, vb, vc] w fun e w' => e = .returned (.bool true) ∧ Keeps (fun _ => False) w w' := by
  have hwa := ha.wf
  have hwb := hb.wf
  have hwc := hc.wf
  obtain ⟨aa, ca, rfl, _⟩ := ha.form
  obtain ⟨ab, cb, rfl, _⟩ := hb.form
  obtain ⟨ac, cc, rfl, _⟩ := hc.form
  go_enter Tryd.func8, Tryd.ntmps8
  go_wp2_with fail
  refine (lend_any _ A w ha (by omega)).mono ?_
  rintro e w1 ⟨mx, gx, rfl, hgx, LX, k1⟩
  go_wp2_with fail
  refine (lend_any _ B w1 (hb.keeps k1) (by omega)).mono ?_
  rintro e w2 ⟨my, gy, rfl, hgy, LY, k2⟩
  go_wp2_with fail
  refine (lend_any _ C w2 (hc.keeps (k1.trans k2)) (by omega)).mono ?_
  rintro e w3 ⟨mz, gz, rfl, hgz, LZ, k3⟩
  have HL : Hid (∀ X, Keeps (fun _ => False) w3 X → LentAt X mx A gx ∧ LentAt X my B gy ∧ LentAt X mz C gz ∧ InsAt X (.slice aa A.length ca) A ∧ InsAt X (.slice ab B.length cb) B ∧ InsAt X (.slice ac C.length cc) C) := fun X kx =>
    ⟨(LX.keeps (k2.trans k3)).keeps kx, (LY.keeps k3).keeps kx, LZ.keeps kx, ha.keeps (((k1.trans k2).trans k3).trans kx), hb.keeps (((k1.trans k2).trans k3).trans kx), hc.keeps (((k1.trans k2).trans k3).trans kx)⟩
  have k123 := (k1.trans k2).trans k3
  obtain ⟨cx, rfl, -⟩ := LX.form
  obtain ⟨cy, rfl, -⟩ := LY.form
  obtain ⟨cz, rfl, -⟩ := LZ.form
  have J1 := join_any _ _ _ (prs3 (HL.out w3 (Keeps.refl _ _)).1.insAt (HL.out w3 (Keeps.refl _ _)).2.1.insAt (HL.out w3 (Keeps.refl _ _)).2.2.1.insAt (by omega) (by omega) (by omega))
  clear LX LY LZ ha hb hc k1 k2 k3
  go_wp2_with fail
  refine J1.mono ?_
  rintro e w4 ⟨hJ, k4⟩
  have kk4 := ((Keeps.refl (fun _ => False) w3).alloc (.cells #[.slice (some ⟨gx, 0, none⟩) A.length cx, .slice (some ⟨gy, 0, none⟩) B.length cy, .slice (some ⟨gz, 0, none⟩) C.length cz] 50)).trans k4
  by_cases hF : ∀ p ∈ [A, B, C], ∀ i ∈ p, formedB i = true
  · have hAB : ∀ p ∈ [A, B], ∀ i ∈ p, formedB i = true := fun p hp => hF p (by simp at hp ⊢; rcases hp with h | h <;> simp [h])
    obtain ⟨lv, rfl, IL⟩ := hJ.1 hF
    have ILf := IL.own.2
    obtain ⟨lb, lc, rfl⟩ := IL.form
    have RP := rjoin_any _ _ _ (prs3 (HL.out w4 kk4).2.2.2.1 (HL.out w4 kk4).2.2.2.2.1 (HL.out w4 kk4).2.2.2.2.2 (by omega) (by omega) (by omega))
    clear hJ J1
    go_wp2_with fail
    refine RP.mono ?_
    rintro e w5 ⟨hK, k5⟩
    have k45 := ((Keeps.refl (fun _ => False) w4).alloc (.cells #[.slice aa A.length ca, .slice ab B.length cb, .slice ac C.length cc] 50)).trans k5
    have kk5 := kk4.trans k45
    obtain ⟨wv, rfl, IW⟩ := hK.1 hF
    obtain ⟨wb, wc, rfl⟩ := IW.form
    have hwf3 := jn_wf3 hwa hwb hwc
    have hbig3 : (jn [] [A, B, C]).length * 40 ≤ 140737488355328 := by rw [jn_len3]; omega
    have IL5 := IL.insAt hwf3 hbig3
    have HW : Hid (∀ X, Keeps (fun _ => False) w5 X → InsAt X (.slice wb (jn [] [A, B, C]).length wc) (jn [] [A, B, C])) := fun X kx => (IW.insAt hwf3 hbig3).keeps kx
    have SA := same_any _ _ _ w5 (IL5.keeps k45) (HW.out w5 (Keeps.refl _ _))
    have hJl : (jn [] [A, B, C]).length ≤ 3145728 := by rw [jn_len3]; omega
    generalize hJJ : jn [] [A, B, C] = JJ at *
    clear hK RP
    go_wp2_with fail
    refine SA.mono ?_
    rintro e w6 ⟨rfl, k6⟩
    have kk6 := kk5.trans k6
    clear SA
    have KA := kept_any _ _ A gx w6 (HL.out w6 kk6).1 (HL.out w6 kk6).2.2.2.1
    go_wp2_with (first | (go_at_call 19; refine (num_any _ _).mono ?_; rintro e w' ⟨rfl, hw'⟩; replace hw' := hw'.symm; subst hw'))
    refine KA.mono ?_
    rintro e w7 ⟨rfl, k7⟩
    have kk7 := kk6.trans k7
    clear KA
    have KA := kept_any _ _ B gy w7 (HL.out w7 kk7).2.1 (HL.out w7 kk7).2.2.2.2.1
    go_wp2_with (first | (go_at_call 19; refine (num_any _ _).mono ?_; rintro e w' ⟨rfl, hw'⟩; replace hw' := hw'.symm; subst hw'))
    refine KA.mono ?_
    rintro e w8 ⟨rfl, k8⟩
    have kk8 := kk7.trans k8
    clear KA
    have KA := kept_any _ _ C gz w8 (HL.out w8 kk8).2.2.1 (HL.out w8 kk8).2.2.2.2.2
    go_wp2_with (first | (go_at_call 19; refine (num_any _ _).mono ?_; rintro e w' ⟨rfl, hw'⟩; replace hw' := hw'.symm; subst hw'))
    refine KA.mono ?_
    rintro e w9 ⟨rfl, k9⟩
    have kk9 := kk8.trans k9
    clear KA
    have J2 := join_any _ _ _ (prs2 (HL.out w9 kk9).1.insAt (HL.out w9 kk9).2.1.insAt (by omega) (by omega))
    go_wp2_with (first | (go_at_call 19; refine (num_any _ _).mono ?_; rintro e w' ⟨rfl, hw'⟩; replace hw' := hw'.symm; subst hw'))
    refine J2.mono ?_
    rintro e w10 ⟨hJ, k10⟩
    have k910 := ((Keeps.refl (fun _ => False) w9).alloc (.cells #[.slice (some ⟨gx, 0, none⟩) A.length cx, .slice (some ⟨gy, 0, none⟩) B.length cy] 50)).trans k10
    have kk10 := kk9.trans k910
    obtain ⟨mv, rfl, IM⟩ := hJ.1 hAB
    obtain ⟨mb, mc, rfl⟩ := IM.form
    have IM10 := IM.insAt (jn_wf hwa hwb) (by rw [jn_len2]; omega)
    have J3 := join_any _ _ _ (prs2 IM10 (HL.out w10 kk10).2.2.1.insAt (by rw [jn_len2]; omega) (by omega))
    have hF2 : ∀ p ∈ [jn [] [A, B], C], ∀ i ∈ p, formedB i = true := by
      intro p hp
      simp at hp
      rcases hp with rfl | rfl
      · exact jn_formed (fun i hi => hAB A (by simp) i hi) (fun i hi => hAB B (by simp) i hi)
      · exact fun i hi => hF _ (by simp) i hi
    have hjj : jn [] [jn [] [A, B], C] = JJ := by rw [jn_joins hwa hwb, hJJ]
    generalize jn [] [A, B] = MM at *
    clear hJ J2
    go_wp2_with (first | (go_at_call 19; refine (num_any _ _).mono ?_; rintro e w' ⟨rfl, hw'⟩; replace hw' := hw'.symm; subst hw'))
    refine J3.mono ?_
    rintro e w11 ⟨hJ, k11⟩
    have k1011 := ((Keeps.refl (fun _ => False) w10).alloc (.cells #[.slice mb MM.length mc, .slice (some ⟨gz, 0, none⟩) C.length cz] 50)).trans k11
    have kk11 := kk10.trans k1011
    obtain ⟨nv, rfl, IN⟩ := hJ.1 hF2
    rw [hjj] at IN
    have k511 : Keeps (fun _ => False) w5 w11 := ((((k6.trans k7).trans k8).trans k9).trans k910).trans k1011
    have SB := same_any _ _ _ w11 (IN.insAt hwf3 hbig3) (HW.out w11 k511)
    clear hJ J3 IM IM10
    go_wp2_with (first | (go_at_call 19; refine (num_any _ _).mono ?_; rintro e w' ⟨rfl, hw'⟩; replace hw' := hw'.symm; subst hw'))
    refine SB.mono ?_
    rintro e w12 ⟨rfl, k12⟩
    have kk12 := kk11.trans k12
    clear SB
    have k412 : Keeps (fun _ => False) w4 w12 := k45.trans (k511.trans k12)
    have hrow : Hid (JJ.length = 0 ∨ ∃ gl, lb = some ⟨gl, 0, none⟩ ∧ w3.heap.size ≤ gl ∧ ∃ cur : Array Value, w12.heap[gl]? = some (.cells cur 38 (0, 0)) ∧ JJ.length * 5 ≤ cur.size) := by
      rcases ILf with ⟨_, h2⟩ | ⟨gl, cap, cur, h1, h2, h3, h4, h5, h6, h7⟩
      · exact .inl h2
      · simp only [Value.slice.injEq] at h1
        refine .inr ⟨gl, h1.1, by simp at h2; omega, cur, (k412.block gl (lt_of_block h3) (fun f => f)).trans h3, by rw [h6]; exact Nat.mul_le_mul_right 5 h4⟩
    clear ILf IL IL5 HW IW IN hjj k511 k412 hwf3 hbig3 k45 k910 k1011
    go_wp2_with fail
    go_loopw [18] (fun v wr => ∃ k : Nat, v = .int .i64 k ∧ k ≤ JJ.length ∧ Hid (Keeps (fun _ => False) w3 wr ∧ (JJ.length = 0 ∨ ∃ gl, lb = some ⟨gl, 0, none⟩ ∧ w3.heap.size ≤ gl ∧ ∃ cur : Array Value, wr.heap[gl]? = some (.cells cur 38 (0, 0)) ∧ JJ.length * 5 ≤ cur.size))) (fun v _ => JJ.length - (intOf v).toNat)
    case atStart => exact ⟨0, rfl, Nat.zero_le _, ⟨kk12, hrow.out⟩⟩
    case round =>
      obtain ⟨k, rfl, hk, hh⟩ := hrel
      obtain ⟨kw, hr⟩ := hh.out
      by_cases hlt : k < JJ.length
      · have hki : (k : Int) < JJ.length := by omega
        rcases hr with h0 | ⟨gl, rfl, hgl, cur, hb, hsz⟩
        · omega
        · obtain ⟨vx, cx'⟩ : ∃ vx, wr.cell? ⟨gl, k * 5 + 4, none⟩ = some vx := ⟨_, by rw [cell_of_block hb]; exact Array.getElem?_eq_getElem (by omega)⟩
          have fx := frozen_of_block hb (k * 5 + 4)
          have bs := block_set hb (k * 5 + 4) (.int .u64 77)
          have ks := kw.setCell (p := ⟨gl, k * 5 + 4, none⟩) (.inl hgl) (.int .u64 77)
          clear hh hrow
          go_wp2_with fail
          go_roundw
          · exact ⟨k + 1, by simp, by omega, ⟨ks, .inr ⟨gl, rfl, hgl, _, bs, by simpa using hsz⟩⟩⟩
          · simp [intOf]; omega
      · have hki : ¬ (k : Int) < JJ.length := by omega
        have kk12 := kw
        clear hh hrow hr
        have JN := join_none wr
        go_wp2_with fail
        refine JN.mono ?_
        rintro e w13 ⟨nb, nc, rfl, k13⟩
        have kk13 := kk12.trans k13
        clear JN
        have KA := kept_any _ _ A gx w13 (HL.out w13 kk13).1 (HL.out w13 kk13).2.2.2.1
        go_wp2_with (first | (go_at_call 19; refine (num_any _ _).mono ?_; rintro e w' ⟨rfl, hw'⟩; replace hw' := hw'.symm; subst hw'))
        refine KA.mono ?_
        rintro e w14 ⟨rfl, k14⟩
        have kk14 := kk13.trans k14
        clear KA
        have KA := kept_any _ _ B gy w14 (HL.out w14 kk14).2.1 (HL.out w14 kk14).2.2.2.2.1
        go_wp2_with (first | (go_at_call 19; refine (num_any _ _).mono ?_; rintro e w' ⟨rfl, hw'⟩; replace hw' := hw'.symm; subst hw'))
        refine KA.mono ?_
        rintro e w15 ⟨rfl, k15⟩
        have kk15 := kk14.trans k15
        clear KA
        have KA := kept_any _ _ C gz w15 (HL.out w15 kk15).2.2.1 (HL.out w15 kk15).2.2.2.2.2
        go_wp2_with (first | (go_at_call 19; refine (num_any _ _).mono ?_; rintro e w' ⟨rfl, hw'⟩; replace hw' := hw'.symm; subst hw'))
        refine KA.mono ?_
        rintro e w16 ⟨rfl, k16⟩
        have kk16 := kk15.trans k16
        clear KA
        have WK := works_any w16 (hw.keeps (k123.trans kk16))
        go_wp2_with (first | (go_at_call 19; refine (num_any _ _).mono ?_; rintro e w' ⟨rfl, hw'⟩; replace hw' := hw'.symm; subst hw') | (go_at_call 15; refine WK.mono ?_; rintro e w17 ⟨rfl, k17⟩))
        go_ret
        exact ⟨rfl, k123.trans (kk16.trans k17)⟩
  · by_cases hAB : ∀ p ∈ [A, B], ∀ i ∈ p, formedB i = true
    · have he := hJ.2 hF
      subst he
      have RP := rjoin_any _ _ _ (prs3 (HL.out w4 kk4).2.2.2.1 (HL.out w4 kk4).2.2.2.2.1 (HL.out w4 kk4).2.2.2.2.2 (by omega) (by omega) (by omega))
      clear hJ J1
      go_wp2_with fail
      refine RP.mono ?_
      rintro e w5 ⟨hK, k5⟩
      have k45 := ((Keeps.refl (fun _ => False) w4).alloc (.cells #[.slice aa A.length ca, .slice ab B.length cb, .slice ac C.length cc] 50)).trans k5
      have kk5 := kk4.trans k45
      have he := hK.2 hF
      subst he
      have SA := same_any _ _ _ w5 (ins0 w5) (ins0 w5)
      clear hK RP
      go_wp2_with fail
      refine SA.mono ?_
      rintro e w6 ⟨rfl, k6⟩
      have kk6 := kk5.trans k6
      clear SA
      have KA := kept_any _ _ A gx w6 (HL.out w6 kk6).1 (HL.out w6 kk6).2.2.2.1
      go_wp2_with (first | (go_at_call 19; refine (num_any _ _).mono ?_; rintro e w' ⟨rfl, hw'⟩; replace hw' := hw'.symm; subst hw'))
      refine KA.mono ?_
      rintro e w7 ⟨rfl, k7⟩
      have kk7 := kk6.trans k7
      clear KA
      have KA := kept_any _ _ B gy w7 (HL.out w7 kk7).2.1 (HL.out w7 kk7).2.2.2.2.1
      go_wp2_with (first | (go_at_call 19; refine (num_any _ _).mono ?_; rintro e w' ⟨rfl, hw'⟩; replace hw' := hw'.symm; subst hw'))
      refine KA.mono ?_
      rintro e w8 ⟨rfl, k8⟩
      have kk8 := kk7.trans k8
      clear KA
      have KA := kept_any _ _ C gz w8 (HL.out w8 kk8).2.2.1 (HL.out w8 kk8).2.2.2.2.2
      go_wp2_with (first | (go_at_call 19; refine (num_any _ _).mono ?_; rintro e w' ⟨rfl, hw'⟩; replace hw' := hw'.symm; subst hw'))
      refine KA.mono ?_
      rintro e w9 ⟨rfl, k9⟩
      have kk9 := kk8.trans k9
      clear KA
      have J2 := join_any _ _ _ (prs2 (HL.out w9 kk9).1.insAt (HL.out w9 kk9).2.1.insAt (by omega) (by omega))
      go_wp2_with (first | (go_at_call 19; refine (num_any _ _).mono ?_; rintro e w' ⟨rfl, hw'⟩; replace hw' := hw'.symm; subst hw'))
      refine J2.mono ?_
      rintro e w10 ⟨hJ, k10⟩
      have k910 := ((Keeps.refl (fun _ => False) w9).alloc (.cells #[.slice (some ⟨gx, 0, none⟩) A.length cx, .slice (some ⟨gy, 0, none⟩) B.length cy] 50)).trans k10
      have kk10 := kk9.trans k910
      obtain ⟨mv, rfl, IM⟩ := hJ.1 hAB
      obtain ⟨mb, mc, rfl⟩ := IM.form
      have IM10 := IM.insAt (jn_wf hwa hwb) (by rw [jn_len2]; omega)
      have J3 := join_any _ _ _ (prs2 IM10 (HL.out w10 kk10).2.2.1.insAt (by rw [jn_len2]; omega) (by omega))
      have hF2 : ¬ ∀ p ∈ [jn [] [A, B], C], ∀ i ∈ p, formedB i = true := fun h => hF (by
        intro p hp
        simp at hp
        rcases hp with rfl | rfl | rfl
        · exact hAB _ (by simp)
        · exact hAB _ (by simp)
        · exact h _ (by simp))
      generalize jn [] [A, B] = MM at *
      clear hJ J2
      go_wp2_with (first | (go_at_call 19; refine (num_any _ _).mono ?_; rintro e w' ⟨rfl, hw'⟩; replace hw' := hw'.symm; subst hw'))
      refine J3.mono ?_
      rintro e w11 ⟨hJ, k11⟩
      have k1011 := ((Keeps.refl (fun _ => False) w10).alloc (.cells #[.slice mb MM.length mc, .slice (some ⟨gz, 0, none⟩) C.length cz] 50)).trans k11
      have kk11 := kk10.trans k1011
      have he := hJ.2 hF2
      subst he
      have SB := same_any _ _ _ w11 (ins0 w11) (ins0 w11)
      clear hJ J3 IM IM10
      go_wp2_with (first | (go_at_call 19; refine (num_any _ _).mono ?_; rintro e w' ⟨rfl, hw'⟩; replace hw' := hw'.symm; subst hw'))
      refine SB.mono ?_
      rintro e w12 ⟨rfl, k12⟩
      have kk12 := kk11.trans k12
      clear SB
      go_wp2_with (first | (go_at_call 19; refine (num_any _ _).mono ?_; rintro e w' ⟨rfl, hw'⟩; replace hw' := hw'.symm; subst hw'))
      go_loopw [18] (fun v wr => v = .int .i64 0 ∧ wr = w12) (fun _ _ => 0)
      case atStart => exact ⟨rfl, rfl⟩
      case round =>
        obtain ⟨rfl, hwr⟩ := hrel
        subst hwr
        have JN := join_none wr
        go_wp2_with fail
        refine JN.mono ?_
        rintro e w13 ⟨nb, nc, rfl, k13⟩
        have kk13 := kk12.trans k13
        clear JN
        have KA := kept_any _ _ A gx w13 (HL.out w13 kk13).1 (HL.out w13 kk13).2.2.2.1
        go_wp2_with (first | (go_at_call 19; refine (num_any _ _).mono ?_; rintro e w' ⟨rfl, hw'⟩; replace hw' := hw'.symm; subst hw'))
        refine KA.mono ?_
        rintro e w14 ⟨rfl, k14⟩
        have kk14 := kk13.trans k14
        clear KA
        have KA := kept_any _ _ B gy w14 (HL.out w14 kk14).2.1 (HL.out w14 kk14).2.2.2.2.1
        go_wp2_with (first | (go_at_call 19; refine (num_any _ _).mono ?_; rintro e w' ⟨rfl, hw'⟩; replace hw' := hw'.symm; subst hw'))
        refine KA.mono ?_
        rintro e w15 ⟨rfl, k15⟩
        have kk15 := kk14.trans k15
        clear KA
        have KA := kept_any _ _ C gz w15 (HL.out w15 kk15).2.2.1 (HL.out w15 kk15).2.2.2.2.2
        go_wp2_with (first | (go_at_call 19; refine (num_any _ _).mono ?_; rintro e w' ⟨rfl, hw'⟩; replace hw' := hw'.symm; subst hw'))
        refine KA.mono ?_
        rintro e w16 ⟨rfl, k16⟩
        have kk16 := kk15.trans k16
        clear KA
        have WK := works_any w16 (hw.keeps (k123.trans kk16))
        go_wp2_with (first | (go_at_call 19; refine (num_any _ _).mono ?_; rintro e w' ⟨rfl, hw'⟩; replace hw' := hw'.symm; subst hw') | (go_at_call 15; refine WK.mono ?_; rintro e w17 ⟨rfl, k17⟩))
        go_ret
        exact ⟨rfl, k123.trans (kk16.trans k17)⟩
    · have he := hJ.2 hF
      subst he
      have RP := rjoin_any _ _ _ (prs3 (HL.out w4 kk4).2.2.2.1 (HL.out w4 kk4).2.2.2.2.1 (HL.out w4 kk4).2.2.2.2.2 (by omega) (by omega) (by omega))
      clear hJ J1
      go_wp2_with fail
      refine RP.mono ?_
      rintro e w5 ⟨hK, k5⟩
      have k45 := ((Keeps.refl (fun _ => False) w4).alloc (.cells #[.slice aa A.length ca, .slice ab B.length cb, .slice ac C.length cc] 50)).trans k5
      have kk5 := kk4.trans k45
      have he := hK.2 hF
      subst he
      have SA := same_any _ _ _ w5 (ins0 w5) (ins0 w5)
      clear hK RP
      go_wp2_with fail
      refine SA.mono ?_
      rintro e w6 ⟨rfl, k6⟩
      have kk6 := kk5.trans k6
      clear SA
      have KA := kept_any _ _ A gx w6 (HL.out w6 kk6).1 (HL.out w6 kk6).2.2.2.1
      go_wp2_with (first | (go_at_call 19; refine (num_any _ _).mono ?_; rintro e w' ⟨rfl, hw'⟩; replace hw' := hw'.symm; subst hw'))
      refine KA.mono ?_
      rintro e w7 ⟨rfl, k7⟩
      have kk7 := kk6.trans k7
      clear KA
      have KA := kept_any _ _ B gy w7 (HL.out w7 kk7).2.1 (HL.out w7 kk7).2.2.2.2.1
      go_wp2_with (first | (go_at_call 19; refine (num_any _ _).mono ?_; rintro e w' ⟨rfl, hw'⟩; replace hw' := hw'.symm; subst hw'))
      refine KA.mono ?_
      rintro e w8 ⟨rfl, k8⟩
      have kk8 := kk7.trans k8
      clear KA
      have KA := kept_any _ _ C gz w8 (HL.out w8 kk8).2.2.1 (HL.out w8 kk8).2.2.2.2.2
      go_wp2_with (first | (go_at_call 19; refine (num_any _ _).mono ?_; rintro e w' ⟨rfl, hw'⟩; replace hw' := hw'.symm; subst hw'))
      refine KA.mono ?_
      rintro e w9 ⟨rfl, k9⟩
      have kk9 := kk8.trans k9
      clear KA
      have J2 := join_any _ _ _ (prs2 (HL.out w9 kk9).1.insAt (HL.out w9 kk9).2.1.insAt (by omega) (by omega))
      go_wp2_with (first | (go_at_call 19; refine (num_any _ _).mono ?_; rintro e w' ⟨rfl, hw'⟩; replace hw' := hw'.symm; subst hw'))
      refine J2.mono ?_
      rintro e w10 ⟨hJ, k10⟩
      have k910 := ((Keeps.refl (fun _ => False) w9).alloc (.cells #[.slice (some ⟨gx, 0, none⟩) A.length cx, .slice (some ⟨gy, 0, none⟩) B.length cy] 50)).trans k10
      have kk10 := kk9.trans k910
      have he := hJ.2 hAB
      subst he
      clear hJ J2
      go_wp2_with (first | (go_at_call 19; refine (num_any _ _).mono ?_; rintro e w' ⟨rfl, hw'⟩; replace hw' := hw'.symm; subst hw'))
      go_loopw [18] (fun v wr => v = .int .i64 0 ∧ wr = w10) (fun _ _ => 0)
      case atStart => exact ⟨rfl, rfl⟩
      case round =>
        obtain ⟨rfl, hwr⟩ := hrel
        subst hwr
        have JN := join_none wr
        go_wp2_with fail
        refine JN.mono ?_
        rintro e w13 ⟨nb, nc, rfl, k13⟩
        have kk13 := kk10.trans k13
        clear JN
        have KA := kept_any _ _ A gx w13 (HL.out w13 kk13).1 (HL.out w13 kk13).2.2.2.1
        go_wp2_with (first | (go_at_call 19; refine (num_any _ _).mono ?_; rintro e w' ⟨rfl, hw'⟩; replace hw' := hw'.symm; subst hw'))
        refine KA.mono ?_
        rintro e w14 ⟨rfl, k14⟩
        have kk14 := kk13.trans k14
        clear KA
        have KA := kept_any _ _ B gy w14 (HL.out w14 kk14).2.1 (HL.out w14 kk14).2.2.2.2.1
        go_wp2_with (first | (go_at_call 19; refine (num_any _ _).mono ?_; rintro e w' ⟨rfl, hw'⟩; replace hw' := hw'.symm; subst hw'))
        refine KA.mono ?_
        rintro e w15 ⟨rfl, k15⟩
        have kk15 := kk14.trans k15
        clear KA
        have KA := kept_any _ _ C gz w15 (HL.out w15 kk15).2.2.1 (HL.out w15 kk15).2.2.2.2.2
        go_wp2_with (first | (go_at_call 19; refine (num_any _ _).mono ?_; rintro e w' ⟨rfl, hw'⟩; replace hw' := hw'.symm; subst hw'))
        refine KA.mono ?_
        rintro e w16 ⟨rfl, k16⟩
        have kk16 := kk15.trans k16
        clear KA
        have WK := works_any w16 (hw.keeps (k123.trans kk16))
        go_wp2_with (first | (go_at_call 19; refine (num_any _ _).mono ?_; rintro e w' ⟨rfl, hw'⟩; replace hw' := hw'.symm; subst hw') | (go_at_call 15; refine WK.mono ?_; rintro e w17 ⟨rfl, k17⟩))
        go_ret
        exact ⟨rfl, k123.trans (kk16.trans k17)⟩
end Go.Proofs.YtepigjbnpkpanaaDoor
