
/- The law QueueAny walked (layer 23). No statement of the seat is proved here. -/
import Derived.Test.YtadbplbifjeghaaQwF
namespace Go.Proofs.Ytadbplbifjeghaa
open Go.RowKit

set_option maxRecDepth 100000 in
set_option maxHeartbeats 8000000 in
theorem any_walk (vw : Value) (W : List Int) (hWW : ∀ x ∈ W, isW x) (hb : W.length * 8 ≤ 140737488351232) (q : Int) (hq : isW q) (w : World) (h : Lies w vw W) :
    Calls Try.prog 5 #[vw, .int .u64 q] w fun e w' => e = .returned (.bool true) ∧ Keeps (fun _ => False) w w' := by
  have hW := oat_isW hWW
  have hWl : W.length ≤ 17592186044416 := by omega
  obtain ⟨g, c, x1, hrun, hwr, hk1⟩ := app_copy w vw W h (by omega)
  obtain ⟨hrow, hgb⟩ := copy_row hwr
  have h0 := wd_made (w := x1) (b := x1.heap.size) (g := g) (c := c) (s := (⟨W, -1, 0, 0⟩ : Wd)) rfl hrow ⟨hWW, hWl⟩
  have ht0 := tw_made (w := x1.alloc (.cells #[.slice (some ⟨g, 0, none⟩) W.length c, .int .i64 (-1), .int .i64 0, .int .i64 0] 40)) rfl h0
  obtain ⟨x3, hx3⟩ : ∃ x, (x1.alloc (.cells #[.slice (some ⟨g, 0, none⟩) W.length c, .int .i64 (-1), .int .i64 0, .int .i64 0] 40)).alloc (.cells #[.pointer (some ⟨x1.heap.size, 0, none⟩)] 28) = x := ⟨_, rfl⟩
  have HX3 := hid hx3
  have hk3 : Keeps (fun _ => False) w x3 := by rw [← hx3]; exact (hk1.alloc _).alloc _
  have hsz : (x1.alloc (.cells #[.slice (some ⟨g, 0, none⟩) W.length c, .int .i64 (-1), .int .i64 0, .int .i64 0] 40)).heap.size = x1.heap.size + 1 := by simp
  rw [hsz] at ht0
  have ht1 : Tw x3 (x1.heap.size + 1) x1.heap.size g c ⟨W, -1, 0, 0⟩ := by rw [← hx3]; exact ht0
  have hbb : w.heap.size ≤ x1.heap.size := hk1.size
  obtain ⟨b, hbe⟩ : ∃ b, x1.heap.size = b := ⟨_, rfl⟩
  rw [hbe] at ht1 hbb
  have HT := hid ht1
  have HB := hid (And.intro hgb hbb)
  have HK := hid hk3
  have HR : Hid (_ = _) := hrun
  have H := hid h
  have HW := hid (And.intro hWW hW)
  have HBE := hid hbe
  obtain ⟨aw, cw, rfl⟩ := h.form
  have k0 : Lk (⟨W, -1, 0, 0⟩ : Wd) 1 := ⟨by show -1 ≤ (-1 : Int); omega, by show (-1 : Int) < 0; omega, by omega⟩
  have HQ := hid (qwords_all (s := (⟨W, -1, 0, 0⟩ : Wd)) ⟨hWW, hWl⟩ k0 (by omega) hq)
  clear hrun hwr hk1 hrow hgb h0 ht0 hx3 hk3 hsz ht1 hbb hbe h hWW hW k0
  go_enter Try.func5, Try.ntmps5
  go_wp2_with (at_builtin; refine wpList_append_run rfl _ _ 36 rfl rfl rfl HR.out ?_; clear HR)
  rw [HX3.out, HBE.out]
  clear HX3 HBE
  refine (whole_any _ W HW.out.2 hWl q hq x3 (H.out.keeps HK.out (fun _ _ _ _ f => f))).mono ?_
  rintro e_ x4 ⟨v4, ok, rfl, k4, hcase⟩
  have HLT4 := hid HT.out.ltt
  replace HT := hid (HT.out.kept k4 (fun f => f) (fun f => f) (fun f => f))
  have kk := hid (HK.out.trans k4)
  clear HK k4
  rcases hcase with ⟨ns, hwh, rfl, r4⟩ | ⟨hno, rfl, rfl⟩
  · obtain ⟨s1, heq, hsW⟩ : ∃ s', Wd.qwords q ⟨W, -1, 0, 0⟩ = ((ns.map fun n => oat W n.toNat, 0), s') ∧ s'.W = W := by
      rcases HQ.out with ⟨ns', s', a1, a2, a3, _⟩ | ⟨no, _⟩
      · obtain rfl := lk_det a1.2.2.2.2.1 hwh.2.2.2.2.1
        exact ⟨s', a2, a3⟩
      · exact absurd ⟨ns, hwh⟩ no
    have HE : Hid (_ = _) := heq
    have HSW := hid hsW
    have HWH := hid hwh
    have HR4 := hid r4
    obtain ⟨a4, c4, rfl⟩ := r4.form
    clear heq hsW hwh r4 HQ
    go_wp2_with fail
    have hh := HT.out
    refine (qwords_r HE hq hh).mono ?_
    rintro e_ x5 ⟨v5, rfl, r5, h, k⟩
    replace HT := hid h
    replace kk := hid (kk.out.step k (fun i hi e => by have p := HB.out; rcases e with e | e <;> omega))
    have HR5 := hid (And.intro r5 (HR4.out.keeps k (fun i e => by have p := HLT4.out; rcases e with e | e <;> omega)))
    clear hh HE HR4 r5
    obtain ⟨a5, c5, e5⟩ := HR5.out.1.form
    rw [List.length_map] at e5
    subst e5
    have ct := h.tx.cell
    have cb := h.wd.cell0
    rw [HSW.out] at cb
    have HWO : Hid (Lies x5 (.slice (some ⟨g, 0, none⟩) W.length c) W) := hid (by have p := h.wd.lies; rw [HSW.out] at p; exact p)
    have HV : Hid (Lies x5 (.slice aw W.length cw) W) := hid (H.out.keeps kk.out (fun _ _ _ _ f => f))
    clear h k
    go_wp2_with (go_at_call 9; refine (words_same _ _ W hWl _ HWO.out HV.out).mono ?_; rintro e_ x6 ⟨rfl, m6, hx6⟩; subst hx6)
    clear ct cb
    have k6 : Keeps (fun _ => False) x5 (x5.drewN m6) := (Keeps.refl _ x5).drewN m6
    go_wp2_with (go_at_call 16; refine (num_any _ _).mono ?_; rintro e_ w_ ⟨rfl, hw_⟩; subst w_)
    refine (rwords_any _ _ W ns hWl (wh_in HWH.out.2.2.2.2.1) HWH.out.2.2.2.1 _ (HV.out.keeps k6 (fun _ _ _ _ f => f)) (HR5.out.2.lies.keeps k6 (fun _ _ _ _ f => f))).mono ?_
    rintro e_ x7 ⟨v7, rfl, r7, k7⟩
    obtain ⟨a7, c7, e7⟩ := r7.form
    rw [List.length_map] at e7
    subst e7
    have k57 : Keeps (fun _ => False) x5 x7 := k6.trans k7
    replace HT := hid (HT.out.kept k57 (fun f => f) (fun f => f) (fun f => f))
    replace kk := hid (kk.out.trans k57)
    have HL := hid (And.intro (HR5.out.1.lies.keeps k57 (fun _ _ _ _ f => f)) r7.lies)
    have hnl : (ns.map fun n => oat W n.toNat).length ≤ 17592186044416 := by rw [List.length_map]; have := HWH.out.2.2.2.1; omega
    clear k6 k7 k57 r7 HR5 HWO HV
    go_wp2_with (go_at_call 9; refine (words_same _ _ (ns.map fun n => oat W n.toNat) hnl _ HL.out.1 HL.out.2).mono ?_; rintro e_ x8 ⟨rfl, m8, hx8⟩; subst hx8)
    replace HT := hid (HT.out.drewN m8)
    replace kk := hid (kk.out.drewN m8)
    clear HL hnl HWH HSW HLT4
    go_loopw [11] (fun iv wr => ∃ k : Nat, ∃ sj, k ≤ 5 ∧ iv = .int .i64 (k : Int) ∧ Hid (Tw wr (b + 1) b g c sj ∧ Keeps (fun _ => False) w wr)) (fun iv _ => 5 - (intOf iv).toNat)
    case atStart => exact ⟨1, _, by omega, rfl, hid ⟨HT.out, kk.out⟩⟩
    case round =>
      obtain ⟨k, sj, hk5, rfl, hr⟩ := hrel
      clear HT kk
      by_cases hk4 : k ≤ 4
      · have hk4i : (k : Int) ≤ 4 := by omega
        go_wp2_with fail
        have hh := hr.out.1
        refine (call_any (b + 1) b g c sj k 0 q 3 hq (lit_isW 3 (by omega)) _ hh).mono ?_
        rintro e_ w2 ⟨rfl, h2, k2⟩
        have HF := hid (And.intro h2 (hr.out.2.step k2 (fun i hi e => by have p := HB.out; rcases e with e | e <;> omega)))
        clear hh h2 k2 hr
        go_wp2_with fail
        go_roundw
        case rel => exact ⟨k + 1, _, by omega, by simp, HF⟩
        case measure => simp [intOf]; omega
      · obtain rfl : k = 5 := by omega
        clear hk4
        go_wp2_with fail
        refine (works_any wr).mono ?_
        rintro e_ w2 ⟨rfl, k2⟩
        have HF := hid (hr.out.2.trans k2)
        clear hr k2
        go_wp2_with fail
        go_ret
        exact ⟨rfl, HF.out⟩
  · obtain ⟨e1, s1, he1, heq, hsW, hk1⟩ : ∃ e s', (e = 330 ∨ e = 4) ∧ Wd.qwords q ⟨W, -1, 0, 0⟩ = (([], e), s') ∧ s'.W = W ∧ Lk s' 131081 := by
      rcases HQ.out with ⟨ns', s', a1, _⟩ | ⟨no, e, s', a1, a2, a3, a4⟩
      · exact absurd ⟨ns', a1⟩ hno
      · exact ⟨e, s', a1, a2, a3, a4⟩
    have HE : Hid (_ = _) := heq
    have HSW := hid hsW
    have HNO := hid hno
    have HE1 := hid he1
    have HLK := hid hk1
    clear heq hsW hno HQ he1 hk1
    go_wp2_with fail
    have hh := HT.out
    refine (qwords_r HE hq hh).mono ?_
    rintro e_ x5 ⟨v5, rfl, r5, h, k⟩
    replace HT := hid h
    replace kk := hid (kk.out.step k (fun i hi e => by have p := HB.out; rcases e with e | e <;> omega))
    obtain ⟨a5, c5, e5⟩ := r5.form
    simp only [List.length_nil] at e5
    subst e5
    clear hh HE r5
    have ct := h.tx.cell
    have cb := h.wd.cell0
    rw [HSW.out] at cb
    have HWO : Hid (Lies x5 (.slice (some ⟨g, 0, none⟩) W.length c) W) := hid (by have p := h.wd.lies; rw [HSW.out] at p; exact p)
    have HV : Hid (Lies x5 (.slice aw W.length cw) W) := hid (H.out.keeps kk.out (fun _ _ _ _ f => f))
    obtain ⟨e2, s2, he2, heq2, hs2⟩ := qdrop_no h.wd.ok HLK.out (by omega) hq (by rw [HSW.out]; exact HNO.out) 0
    have HE2 : Hid (_ = _) := heq2
    have HEE2 := hid he2
    have HS2 : Hid (s2.W = W) := hid (hs2.trans HSW.out)
    clear h k he2 heq2 hs2
    go_wp2_with (go_at_call 9; refine (words_same _ _ W hWl _ HWO.out HV.out).mono ?_; rintro e_ x6 ⟨rfl, m6, hx6⟩; subst hx6)
    replace HT := hid (HT.out.drewN m6)
    replace kk := hid (kk.out.drewN m6)
    clear ct cb HWO HV HLK HNO HSW HLT4
    rcases HE1.out with rfl | rfl
    all_goals
      go_wp2_with (go_at_call 16; refine (num_any _ _).mono ?_; rintro e_ w_ ⟨rfl, hw_⟩; subst w_)
      have hh := HT.out
      refine (qdrop_r HE2 hq hh).mono ?_
      rintro e_ x7 ⟨rfl, h, k⟩
      replace HT := hid h
      replace kk := hid (kk.out.step k (fun i hi e => by have p := HB.out; rcases e with e | e <;> omega))
      have ct := h.tx.cell
      have cb := h.wd.cell0
      rw [HS2.out] at cb
      have HWO : Hid (Lies x7 (.slice (some ⟨g, 0, none⟩) W.length c) W) := hid (by have p := h.wd.lies; rw [HS2.out] at p; exact p)
      have HV : Hid (Lies x7 (.slice aw W.length cw) W) := hid (H.out.keeps kk.out (fun _ _ _ _ f => f))
      clear hh h k HE2 HE1
      rcases HEE2.out with rfl | rfl
      all_goals
        clear HEE2
        go_wp2_with (first | (go_at_call 16; refine (num_any _ _).mono ?_; rintro e_ w_ ⟨rfl, hw_⟩; subst w_) | (go_at_call 9; refine (words_same _ _ W hWl _ HWO.out HV.out).mono ?_; rintro e_ x8 ⟨rfl, m8, hx8⟩; subst hx8))
        replace HT := hid (HT.out.drewN m8)
        replace kk := hid (kk.out.drewN m8)
        clear ct cb HWO HV
        go_loopw [11] (fun iv wr => ∃ k : Nat, ∃ sj, k ≤ 5 ∧ iv = .int .i64 (k : Int) ∧ Hid (Tw wr (b + 1) b g c sj ∧ Keeps (fun _ => False) w wr)) (fun iv _ => 5 - (intOf iv).toNat)
        case atStart => exact ⟨1, _, by omega, rfl, hid ⟨HT.out, kk.out⟩⟩
        case round =>
          obtain ⟨k, sj, hk5, rfl, hr⟩ := hrel
          clear HT kk
          by_cases hk4 : k ≤ 4
          · have hk4i : (k : Int) ≤ 4 := by omega
            go_wp2_with fail
            have hh := hr.out.1
            refine (call_any (b + 1) b g c sj k 0 q 3 hq (lit_isW 3 (by omega)) _ hh).mono ?_
            rintro e_ w2 ⟨rfl, h2, k2⟩
            have HF := hid (And.intro h2 (hr.out.2.step k2 (fun i hi e => by have p := HB.out; rcases e with e | e <;> omega)))
            clear hh h2 k2 hr
            go_wp2_with fail
            go_roundw
            case rel => exact ⟨k + 1, _, by omega, by simp, HF⟩
            case measure => simp [intOf]; omega
          · obtain rfl : k = 5 := by omega
            clear hk4
            go_wp2_with fail
            refine (works_any wr).mono ?_
            rintro e_ w2 ⟨rfl, k2⟩
            have HF := hid (hr.out.2.trans k2)
            clear hr k2
            go_wp2_with fail
            go_ret
            exact ⟨rfl, HF.out⟩
end Go.Proofs.Ytadbplbifjeghaa
