/-
  No statement of the seat is proved here. (Several texts in one: OqL.)
-/
import Derived.Test.YthmiainhaebjiaaGreatDoorM32OqB

/- A walk of the document's States (layer 16). No statement of the seat is proved here. -/
namespace Go.Proofs.YthmiainhaebjiaaGreatDoor
open Go.RowKit Go.Shelf

theorem own_cellN {w : World} {base : Nat} {v : Value} {N : Nat} {l : List Int} (h : NR w base v l) (hN : l.length = N) (h0 : 0 < N) : ∃ g cp, v = .slice (some ⟨g, 0, none⟩) N cp ∧ base ≤ g ∧ g < w.heap.size ∧ ∀ X, Keeps (fun q => q ≠ g) w X → ∀ i (hi : i < l.length), X.cell? ⟨g, i, none⟩ = some (.int .i64 (l[i])) := by
  subst hN
  obtain ⟨g, cap, cur, rfl, hg, hb, -⟩ := h.at h0
  refine ⟨g, cap, rfl, hg, lt_of_block hb, fun X k i hi => ?_⟩
  have := h.keeps k (fun q hq c => by
    simp only [Value.ownBlock, Option.some.injEq] at hq
    exact c hq.symm)
  obtain ⟨g', off', e, hc⟩ := (this.els nC_len).at i hi
  simp only [Option.some.injEq, Addr.mk.injEq, and_true] at e
  obtain ⟨rfl, rfl⟩ := e
  have h3 := hc 0 _ rfl
  simpa using h3
theorem own_cellS {w : World} {base : Nat} {v : Value} {N : Nat} {l : List Sl} (h : OwnR sC 1 22 w base v l) (hN : N = l.length) (h0 : 0 < N) : ∃ g cp, v = .slice (some ⟨g, 0, none⟩) N cp ∧ base ≤ g ∧ g < w.heap.size ∧ ∀ X, Keeps (fun q => q ≠ g) w X → ∀ i (hi : i < l.length), X.cell? ⟨g, i, none⟩ = some (l[i]).v := by
  subst hN
  obtain ⟨g, cap, cur, rfl, hg, hb, -⟩ := h.at h0
  refine ⟨g, cap, rfl, hg, lt_of_block hb, fun X k i hi => ?_⟩
  have := h.keeps k (fun q hq c => by
    simp only [Value.ownBlock, Option.some.injEq] at hq
    exact c hq.symm)
  obtain ⟨g', off', e, hc⟩ := (this.els sC_len).at i hi
  simp only [Option.some.injEq, Addr.mk.injEq, and_true] at e
  obtain ⟨rfl, rfl⟩ := e
  have h3 := hc 0 _ rfl
  simpa using h3
set_option maxRecDepth 100000 in
set_option maxHeartbeats 8000000 in
theorem rstates_any (vF : Value) (F : List Int) (hF : F.length ≤ 65536) (h0 : 0 < F.length) (v : Value) (L : List Ev) (hL : L.length ≤ 1100000) (hz : (checkL L).2 = 0) (hin : ∀ e ∈ L, 0 ≤ e.ad ∧ (e.kd = 2 ∨ e.kd = 3 → e.ad < (F.length : Int))) (W : List Pt) (hW : WrOf (partsL L) W) (hWl : W.length ≤ 1050000) (w : World) (hFw : WsAt w vF F) (hv : ElsAt Ev.cl 6 w v L) :
    Calls Tryz.prog 24 #[vF, v] w fun ex w' => ∃ (u : Value) (R : List Sl), ex = .returned u ∧ R.length = W.length + 1 ∧ OwnR sC 1 22 w' w.heap.size u R ∧ (∀ j (hj : j < R.length), OwnR wC 1 26 w' w.heap.size (R[j]).v (stN F W j)) ∧ Keeps (fun _ => False) w w' := by
  obtain ⟨nb, cap, w1, s, w2, r1, r2, hS, kA⟩ := StW.first hF h0 W hFw
  have hbn : w.heap.size ≤ nb := (own_block hS.now.own rfl).2
  have hbA : nb < w2.heap.size + 1 := by have := (own_block hS.now.own rfl).1; simpa using this
  have hsA : (w2.alloc (.cells #[s.v] 22)).heap.size = w2.heap.size + 1 := by simp
  have RW := rwriting_any v L hL hz (w2.alloc (.cells #[s.v] 22)) (hv.keeps ev_ne kA)
  rw [wpos_wr hz hW, hsA] at RW
  have HV : Hid (∀ X, Keeps (fun _ => False) w X → ElsAt Ev.cl 6 X v L) := fun X q => hv.keeps ev_ne q
  have HC : Hid (∀ p ∈ W, ∃ a b, ComAt L p a b) := com_at hz hW
  have HIN : Hid (∀ e ∈ L, 0 ≤ e.ad ∧ (e.kd = 2 ∨ e.kd = 3 → e.ad < (F.length : Int))) := hin
  obtain ⟨ha, hc, rfl, hcap⟩ := hv.shape
  obtain ⟨fa, fc, rfl, hfc⟩ := hFw.shape
  obtain ⟨sa, sn, sc⟩ := s
  dsimp only [Sl.v] at r1 r2 hS kA RW
  have HA1 : Hid (_ = _) := r1
  have HA2 : Hid (_ = _) := r2
  have HS : Hid (_) := hS
  clear hv hFw hz hW hin r1 r2 hS hsA
  go_enter Tryz.func24, Tryz.ntmps24
  go_wp2_with (at_builtin; first | (refine wpList_append_run rfl _ _ 22 rfl rfl rfl HA1.out ?_; clear HA1) | (refine wpList_append_run rfl _ _ 22 rfl rfl rfl HA2.out ?_; clear HA2))
  refine RW.mono ?_
  rintro ex w3 ⟨u, rfl, hNR, k3⟩
  clear RW
  obtain ⟨N, hN⟩ : ∃ N, N = W.length := ⟨_, rfl⟩
  have hNl : (W.map (·.la)).length = N := by rw [List.length_map, hN]
  obtain ⟨ua, uc, rfl⟩ := hNR.form
  rw [hNl] at hNR ⊢
  rw [← hN] at hWl
  have K3 := kA.trans k3
  have HS3 : Hid (StW w3 w.heap.size nb cap (.slice (some ⟨w2.heap.size, 0, none⟩) 1 1) F W (stN F W 0) [⟨sa, sn, sc⟩]) := by rw [stN_zero]; exact HS.out.keeps k3
  have HN : Hid (N = W.length) := hN
  have HNR : Hid (NR w3 (w2.heap.size + 1) (.slice ua N uc) (W.map (·.la)) ∧ (W.map (·.la)).length = N) := ⟨hNR, hNl⟩
  have HAP : Hid (∀ g, (Value.slice ua N uc).ownBlock = some g → (Value.slice (some ⟨w2.heap.size, 0, none⟩) 1 1).ownBlock ≠ some g) := fun g hg e => by
    have := (own_block hNR.own hg).2
    simp only [Value.ownBlock, Option.some.injEq] at e
    omega
  clear hN hNR hNl HS kA k3
  go_wp2_with fail
  go_loopw [6, 8] (fun u6 u8 wr => ∃ (i : Nat) (R : List Sl), u8 = .int .i64 i ∧ i ≤ N ∧ R.length ≤ i + 1 ∧ Hid (R.length = i + 1 ∧ StW wr w.heap.size nb cap u6 F W (stN F W i) R ∧ NR wr (w2.heap.size + 1) (.slice ua N uc) (W.map (·.la)) ∧ (∀ g, (Value.slice ua N uc).ownBlock = some g → u6.ownBlock ≠ some g)) ∧ Keeps (fun _ => False) w wr) (fun _ u8 _ => N - (intOf u8).toNat)
  case atStart => exact ⟨0, _, rfl, Nat.zero_le _, by simp, ⟨rfl, HS3.out, HNR.out.1, HAP.out⟩, K3⟩
  case round =>
    obtain ⟨i, R, rfl, hi, hRl, hR, kr⟩ := hrel
    generalize wr = Wo at *
    have hwi : IntKind.i64.wrap ((i : Int) + 1) = (i : Int) + 1 := by rw [IntKind.wrap_i64]; omega
    obtain ⟨ob, oc, hob⟩ := hR.out.2.1.row.form
    subst hob
    obtain ⟨rn, hrn⟩ : ∃ rn, rn = R.length := ⟨_, rfl⟩
    rw [← hrn] at hR ⊢
    have HRN : Hid (rn = R.length) := hrn
    clear hrn HS3 HAP K3
    by_cases hlt : i < N
    · have hii : (i : Int) < N := by omega
      have hi0 : (0 : Int) ≤ i := by omega
      have hiW : i < W.length := by rw [← HN.out]; exact hlt
      obtain ⟨a, b, hC⟩ := HC.out _ (List.getElem_mem hiW)
      obtain ⟨gl, lc, hgl, hgl1, hgl2, HLC⟩ := own_cellN hR.out.2.2.1 HNR.out.2 (by omega)
      simp only [Value.slice.injEq] at hgl
      obtain ⟨rfl, -, rfl⟩ := hgl
      have hbl := hC.bl
      have hab := hC.ab
      have HB := HLC
      have HL2 : Hid (∀ X, Keeps (fun q => q ≠ gl) Wo X → X.cell? ⟨gl, i, none⟩ = some (.int .i64 (b : Int))) := fun X kx => by
        have := HLC X kx i (by rw [HNR.out.2]; exact hlt)
        rw [List.getElem_map, hC.la] at this
        exact this
      have c0 := HL2.out Wo (Keeps.refl _ _)
      have BG := rbegin_any (.slice ha L.length hc) L hL b hbl Wo (HV.out Wo kr)
      rw [hC.th hbl, hC.be] at BG
      have hti : (L[b]'hbl).th = (W[i]'hiW).th := hC.th hbl
      have hst := stN_succ F W i hiW
      rw [hC.ws] at hst
      generalize hpt : (W[i]'hiW).th = t at *
      have HST : Hid (stN F W (i + 1) = wrt (stN F W i) (wsU L t a b)) := hst
      have HTH : Hid ((L[b]'hbl).th = t) := hti
      clear HLC HB hC hst hti hpt
      go_wp2_with fail
      refine BG.mono ?_
      rintro ex w4 ⟨rfl, k4⟩
      have H4 : Hid (StW w4 w.heap.size nb cap (.slice ob rn oc) F W (wrt (stN F W i) (wsU L t a a)) R) := by
        rw [wsU_self]
        exact hR.out.2.1.keeps k4
      have kk4 := kr.trans k4
      have HGL : Hid (∀ X, Keeps (fun q => q = nb) w4 X → X.cell? ⟨gl, i, none⟩ = some (.int .i64 (b : Int)) ∧ NR X (w2.heap.size + 1) (.slice (some ⟨gl, 0, none⟩) N uc) (W.map (·.la))) := fun X kx =>
        ⟨HL2.out X ((k4.mono (fun _ _ f => f.elim)).trans (kx.mono (fun q _ e => by omega))), (hR.out.2.2.1.keeps k4 (fun _ _ f => f)).keeps kx (fun q hq e => by
          simp only [Value.ownBlock, Option.some.injEq] at hq
          omega)⟩
      have HAP : Hid (R.length = i + 1 ∧ ∀ g, (Value.slice (some ⟨gl, 0, none⟩) N uc).ownBlock = some g → (Value.slice ob rn oc).ownBlock ≠ some g) := ⟨by rw [← HRN.out]; exact hR.out.1, hR.out.2.2.2⟩
      clear BG k4 kr c0 HL2 hR
      go_wp2_with fail
      go_loopw [9] (fun u9 wr => ∃ (j : Nat), u9 = .int .i64 j ∧ a ≤ j ∧ j ≤ b ∧ Hid (StW wr w.heap.size nb cap (.slice ob rn oc) F W (wrt (stN F W i) (wsU L t a j)) R) ∧ Hid (Keeps (fun q => q = nb) w4 wr) ∧ Keeps (fun _ => False) w wr) (fun u9 _ => b - (intOf u9).toNat)
      case atStart => exact ⟨a, rfl, Nat.le_refl _, hab, H4, Keeps.refl _ _, kk4⟩
      case round =>
        clear H4 kk4
        obtain ⟨j, rfl, haj, hjb, hS, kq, kr⟩ := hrel
        obtain ⟨cl, hNRq⟩ := HGL.out wr kq.out
        by_cases hjl : j < b
        · have hji : (j : Int) < b := by omega
          have hj0 : (0 : Int) ≤ j := by omega
          have hjL : j < L.length := by omega
          have hjLi : (j : Int) < L.length := by omega
          have hbLi : (b : Int) < L.length := by omega
          have hb0 : (0 : Int) ≤ b := by omega
          have hjw : IntKind.i64.wrap ((j : Int) + 1) = (j : Int) + 1 := by rw [IntKind.wrap_i64]; omega
          obtain ⟨gh, oh, e1, ca⟩ := (HV.out wr kr).at j hjL
          obtain ⟨gb, obb, e2, cb⟩ := (HV.out wr kr).at b hbl
          subst e1
          injection e2 with e2
          injection e2 with e2 e3
          subst e2 e3
          have hgw : gh < w.heap.size := by
            obtain ⟨g', o', e', c'⟩ := (HV.out w (Keeps.refl _ _)).at j hjL
            injection e' with e'
            injection e' with e' e''
            subst e' e''
            exact World.block_lt_of_cell? _ _ (c' 0 _ rfl)
          have x0 := ca 0 _ rfl
          have x1 := ca 1 _ rfl
          have x2 := ca 2 _ rfl
          have x3 := ca 3 _ rfl
          have y0 := cb 0 _ rfl
          rw [HTH.out] at y0
          have hwj := wrt_wsU (stN F W i) (L := L) t haj hjL
          have hadr := HIN.out _ (List.getElem_mem hjL)
          generalize hev : L[j]'hjL = i6 at *
          simp only [Nat.add_zero] at x0 y0
          have hS0 : wr.cell? ⟨gh, oh + j * 6, none⟩ = some (.int .i64 i6.th) ∧ wr.cell? ⟨gh, oh + j * 6 + 1, none⟩ = some (.int .i64 i6.kd) ∧ wr.cell? ⟨gh, oh + b * 6, none⟩ = some (.int .i64 t) ∧ wr.cell? ⟨gl, i, none⟩ = some (.int .i64 (b : Int)) := ⟨x0, x1, y0, cl⟩
          have hS1 : wr.drew.cell? ⟨gh, oh + j * 6, none⟩ = some (.int .i64 i6.th) ∧ wr.drew.cell? ⟨gh, oh + j * 6 + 1, none⟩ = some (.int .i64 i6.kd) ∧ wr.drew.cell? ⟨gh, oh + b * 6, none⟩ = some (.int .i64 t) ∧ wr.drew.cell? ⟨gl, i, none⟩ = some (.int .i64 (b : Int)) := hS0
          have kd := kr.drew
          clear ca cb hev hNRq
          by_cases ht : i6.th = t
          · have htb : (i6.th == t) = true := by rw [beq_iff_eq]; exact ht
            by_cases hd : i6.kd = 3
            · have hdb : (i6.kd == 3) = true := by rw [beq_iff_eq]; exact hd
              rw [if_pos ⟨ht, hd⟩] at hwj
              obtain ⟨ha0, ha1⟩ := hadr
              have ha2 := ha1 (.inr hd)
              obtain ⟨n, hn⟩ : ∃ n : Nat, i6.ad = (n : Int) := ⟨i6.ad.toNat, by omega⟩
              rw [hn] at x2 hwj ha2
              rw [Int.toNat_natCast] at hwj
              have hnF : n < F.length := by omega
              have hn0 : (0 : Int) ≤ n := by omega
              have hlenX : (wrt (stN F W i) (wsU L t a j)).length = F.length := by rw [wrt_len, stN_len]
              have hSet := hS.out.set n i6.wd (by omega)
              rw [← hwj] at hSet
              obtain ⟨gn, on, en, cn⟩ := (hS.out.now.els wC_len).at n (by omega)
              injection en with en
              injection en with en en'
              subst en en'
              have cn0 := cn 0 _ rfl
              simp only [Nat.mul_one, Nat.add_zero, Nat.zero_add] at cn0
              generalize (wrt (stN F W i) (wsU L t a j))[n]'(by omega) = old at cn0
              obtain ⟨gn2, cn2, curn, en2, -, hbn2, -⟩ := hS.out.now.at (by omega)
              simp only [Value.slice.injEq, Option.some.injEq, Addr.mk.injEq, and_true] at en2
              obtain ⟨rfl, -, -⟩ := en2
              have fn : wr.frozen? ⟨nb, n, none⟩ = false := frozen_of_block hbn2 _
              have kS := (Keeps.refl (fun q => q = nb) wr).setCell (p := ⟨nb, n, none⟩) (.inr rfl) (.int .u64 i6.wd)
              have HE : Hid (StW (wr.setCell ⟨nb, n, none⟩ (.int .u64 i6.wd)) w.heap.size nb cap (.slice ob rn oc) F W (wrt (stN F W i) (wsU L t a (j + 1))) R) := hSet
              have HK : Hid (Keeps (fun q => q = nb) w4 (wr.setCell ⟨nb, n, none⟩ (.int .u64 i6.wd))) := kq.out.trans kS
              have KE : Keeps (fun _ => False) w (wr.setCell ⟨nb, n, none⟩ (.int .u64 i6.wd)) := kr.young kS (fun q e => by omega)
              have hne : ¬ gh = nb := by omega
              have hne2 : ¬ nb = gh := by omega
              have hT0 : wr.cell? ⟨gh, oh + j * 6 + 2, none⟩ = some (.int .u64 (n : Int)) ∧ wr.cell? ⟨gh, oh + j * 6 + 3, none⟩ = some (.int .u64 i6.wd) := ⟨x2, x3⟩
              clear hSet hwj hlenX kS hS kq kd cn hbn2 ha0 ha1
              go_wp2_with fail
              go_region_held3 (fun W : World => W.cell? ⟨gh, oh + j * 6, none⟩ = some (.int .i64 i6.th) ∧ W.cell? ⟨gh, oh + j * 6 + 1, none⟩ = some (.int .i64 i6.kd) ∧ W.cell? ⟨gh, oh + b * 6, none⟩ = some (.int .i64 t) ∧ W.cell? ⟨gl, i, none⟩ = some (.int .i64 (b : Int))) (first | assumption | (exact hS0) | go_keep) (fail)
              go_wp2_with fail
              go_region_held3 (fun W : World => W.cell? ⟨gh, oh + j * 6 + 2, none⟩ = some (.int .u64 (n : Int)) ∧ W.cell? ⟨gh, oh + j * 6 + 3, none⟩ = some (.int .u64 i6.wd)) (first | assumption | (exact hT0) | go_keep) (fail)
              go_wp2_with fail
              go_roundw
              · exact ⟨j + 1, by simp, by omega, by omega, HE.out.keeps ((Keeps.refl _ _).drew.drew), HK.out.drew.drew, KE.drew.drew⟩
              · simp [intOf]; omega
            · have hdb : (i6.kd == 3) = false := by rw [beq_eq_false_iff_ne]; exact hd
              rw [if_neg (fun c => hd c.2)] at hwj
              have HE : Hid (StW wr w.heap.size nb cap (.slice ob rn oc) F W (wrt (stN F W i) (wsU L t a (j + 1))) R) := by rw [hwj]; exact hS.out
              clear hwj hS hadr
              go_wp2_with fail
              go_region_held3 (fun W : World => W.cell? ⟨gh, oh + j * 6, none⟩ = some (.int .i64 i6.th) ∧ W.cell? ⟨gh, oh + j * 6 + 1, none⟩ = some (.int .i64 i6.kd) ∧ W.cell? ⟨gh, oh + b * 6, none⟩ = some (.int .i64 t) ∧ W.cell? ⟨gl, i, none⟩ = some (.int .i64 (b : Int))) (first | assumption | (exact hS0) | go_keep) (fail)
              go_wp2_with fail
              go_roundw
              · exact ⟨j + 1, by simp, by omega, by omega, HE.out.keeps ((Keeps.refl _ _).drew), kq.out.drew, kd⟩
              · simp [intOf]; omega
          · have htb : (i6.th == t) = false := by rw [beq_eq_false_iff_ne]; exact ht
            rw [if_neg (fun c => ht c.1)] at hwj
            have HE : Hid (StW wr w.heap.size nb cap (.slice ob rn oc) F W (wrt (stN F W i) (wsU L t a (j + 1))) R) := by rw [hwj]; exact hS.out
            clear hwj hS hadr
            go_wp2_with fail
            refine wp_held_end (S := fun W : World => W.cell? ⟨gh, oh + j * 6, none⟩ = some (.int .i64 i6.th) ∧ W.cell? ⟨gh, oh + j * 6 + 1, none⟩ = some (.int .i64 i6.kd) ∧ W.cell? ⟨gh, oh + b * 6, none⟩ = some (.int .i64 t) ∧ W.cell? ⟨gl, i, none⟩ = some (.int .i64 (b : Int))) 22 rfl hmxp ?_
            simp only [Array.replicate_succ, Array.replicate_zero, List.push_toArray, List.nil_append, List.cons_append]
            refine held_take (i := 0) (v := (.slice (some ⟨gh, oh, none⟩) L.length hc)) 37 rfl rfl (by kernel_rfl) (by kernel_rfl) (by kernel_rfl) rfl (fun w' hw' => by obtain ⟨q0, q1, q2, q3⟩ := hw'; go_simp) hS1 ?_
            simp only [Act.put, List.setIfInBounds_toArray, List.set_cons_zero, List.set_cons_succ]
            refine held_take (i := 1) (v := (.int .i64 (j : Int))) 38 rfl rfl (by kernel_rfl) (by kernel_rfl) (by kernel_rfl) rfl (fun w' hw' => by obtain ⟨q0, q1, q2, q3⟩ := hw'; go_simp) hS1 ?_
            simp only [Act.put, List.setIfInBounds_toArray, List.set_cons_zero, List.set_cons_succ]
            refine held_take (i := 2) (v := (.pointer (some ⟨gh, oh + j * 6, none⟩))) 39 rfl rfl (by kernel_rfl) (by kernel_rfl) (by kernel_rfl) rfl (fun w' hw' => by obtain ⟨q0, q1, q2, q3⟩ := hw'; go_simp) hS1 ?_
            simp only [Act.put, List.setIfInBounds_toArray, List.set_cons_zero, List.set_cons_succ]
            refine held_take (i := 3) (v := (.pointer (some ⟨gh, oh + j * 6, none⟩))) 40 rfl rfl (by kernel_rfl) (by kernel_rfl) (by kernel_rfl) rfl (fun w' hw' => by obtain ⟨q0, q1, q2, q3⟩ := hw'; go_simp) hS1 ?_
            simp only [Act.put, List.setIfInBounds_toArray, List.set_cons_zero, List.set_cons_succ]
            refine held_take (i := 4) (v := (.int .i64 i6.th)) 41 rfl rfl (by kernel_rfl) (by kernel_rfl) (by kernel_rfl) rfl (fun w' hw' => by obtain ⟨q0, q1, q2, q3⟩ := hw'; go_simp) hS1 ?_
            simp only [Act.put, List.setIfInBounds_toArray, List.set_cons_zero, List.set_cons_succ]
            refine held_take (i := 5) (v := (.slice (some ⟨gh, oh, none⟩) L.length hc)) 42 rfl rfl (by kernel_rfl) (by kernel_rfl) (by kernel_rfl) rfl (fun w' hw' => by obtain ⟨q0, q1, q2, q3⟩ := hw'; go_simp) hS1 ?_
            simp only [Act.put, List.setIfInBounds_toArray, List.set_cons_zero, List.set_cons_succ]
            refine held_take (i := 6) (v := (.slice (some ⟨gl, 0, none⟩) N uc)) 43 rfl rfl (by kernel_rfl) (by kernel_rfl) (by kernel_rfl) rfl (fun w' hw' => by obtain ⟨q0, q1, q2, q3⟩ := hw'; go_simp) hS1 ?_
            simp only [Act.put, List.setIfInBounds_toArray, List.set_cons_zero, List.set_cons_succ]
            refine held_take (i := 7) (v := (.int .i64 (i : Int))) 44 rfl rfl (by kernel_rfl) (by kernel_rfl) (by kernel_rfl) rfl (fun w' hw' => by obtain ⟨q0, q1, q2, q3⟩ := hw'; go_simp) hS1 ?_
            simp only [Act.put, List.setIfInBounds_toArray, List.set_cons_zero, List.set_cons_succ]
            refine held_take (i := 8) (v := (.pointer (some ⟨gl, i, none⟩))) 45 rfl rfl (by kernel_rfl) (by kernel_rfl) (by kernel_rfl) rfl (fun w' hw' => by obtain ⟨q0, q1, q2, q3⟩ := hw'; go_simp) hS1 ?_
            simp only [Act.put, List.setIfInBounds_toArray, List.set_cons_zero, List.set_cons_succ]
            refine held_take (i := 9) (v := (.int .i64 (b : Int))) 46 rfl rfl (by kernel_rfl) (by kernel_rfl) (by kernel_rfl) rfl (fun w' hw' => by obtain ⟨q0, q1, q2, q3⟩ := hw'; go_simp) hS1 ?_
            simp only [Act.put, List.setIfInBounds_toArray, List.set_cons_zero, List.set_cons_succ]
            refine held_take (i := 10) (v := (.pointer (some ⟨gh, oh + b * 6, none⟩))) 47 rfl rfl (by kernel_rfl) (by kernel_rfl) (by kernel_rfl) rfl (fun w' hw' => by obtain ⟨q0, q1, q2, q3⟩ := hw'; go_simp) hS1 ?_
            simp only [Act.put, List.setIfInBounds_toArray, List.set_cons_zero, List.set_cons_succ]
            refine held_take (i := 11) (v := (.pointer (some ⟨gh, oh + b * 6, none⟩))) 48 rfl rfl (by kernel_rfl) (by kernel_rfl) (by kernel_rfl) rfl (fun w' hw' => by obtain ⟨q0, q1, q2, q3⟩ := hw'; go_simp) hS1 ?_
            simp only [Act.put, List.setIfInBounds_toArray, List.set_cons_zero, List.set_cons_succ]
            refine held_take (i := 12) (v := (.int .i64 t)) 49 rfl rfl (by kernel_rfl) (by kernel_rfl) (by kernel_rfl) rfl (fun w' hw' => by obtain ⟨q0, q1, q2, q3⟩ := hw'; go_simp) hS1 ?_
            simp only [Act.put, List.setIfInBounds_toArray, List.set_cons_zero, List.set_cons_succ]
            refine held_take (i := 13) (v := (.bool false)) 50 rfl rfl (by kernel_rfl) (by kernel_rfl) (by kernel_rfl) rfl (fun w' hw' => by obtain ⟨q0, q1, q2, q3⟩ := hw'; go_simp) hS1 ?_
            simp only [Act.put, List.setIfInBounds_toArray, List.set_cons_zero, List.set_cons_succ]
            refine held_take (i := 14) (v := (.bool false)) 51 rfl rfl (by kernel_rfl) (by kernel_rfl) (by kernel_rfl) rfl (fun w' hw' => by obtain ⟨q0, q1, q2, q3⟩ := hw'; go_simp) hS1 ?_
            simp only [Act.put, List.setIfInBounds_toArray, List.set_cons_zero, List.set_cons_succ]
            refine held_skipO (i := 15) 52 rfl rfl (by kernel_rfl) (by kernel_rfl) (by kernel_rfl) rfl hS1 ?_
            simp only [Act.put, List.setIfInBounds_toArray, List.set_cons_zero, List.set_cons_succ]
            refine held_skipO (i := 16) 53 rfl rfl (by kernel_rfl) (by kernel_rfl) (by kernel_rfl) rfl hS1 ?_
            simp only [Act.put, List.setIfInBounds_toArray, List.set_cons_zero, List.set_cons_succ]
            refine held_skipO (i := 17) 54 rfl rfl (by kernel_rfl) (by kernel_rfl) (by kernel_rfl) rfl hS1 ?_
            simp only [Act.put, List.setIfInBounds_toArray, List.set_cons_zero, List.set_cons_succ]
            refine held_skipO (i := 18) 55 rfl rfl (by kernel_rfl) (by kernel_rfl) (by kernel_rfl) rfl hS1 ?_
            simp only [Act.put, List.setIfInBounds_toArray, List.set_cons_zero, List.set_cons_succ]
            refine held_skipO (i := 19) 56 rfl rfl (by kernel_rfl) (by kernel_rfl) (by kernel_rfl) rfl hS1 ?_
            simp only [Act.put, List.setIfInBounds_toArray, List.set_cons_zero, List.set_cons_succ]
            refine held_skipO (i := 20) 57 rfl rfl (by kernel_rfl) (by kernel_rfl) (by kernel_rfl) rfl hS1 ?_
            simp only [Act.put, List.setIfInBounds_toArray, List.set_cons_zero, List.set_cons_succ]
            refine held_take (i := 21) (v := (.bool false)) 58 rfl rfl (by kernel_rfl) (by kernel_rfl) (by kernel_rfl) rfl (fun w' hw' => by obtain ⟨q0, q1, q2, q3⟩ := hw'; go_simp) hS1 ?_
            simp only [Act.put, List.setIfInBounds_toArray, List.set_cons_zero, List.set_cons_succ]
            refine held_end (by kernel_rfl) ?_ _
            go_wp2_with fail
            go_roundw
            · exact ⟨j + 1, by simp, by omega, by omega, HE.out.keeps ((Keeps.refl _ _).drew), kq.out.drew, kd⟩
            · simp [intOf]; omega
        · obtain rfl : j = b := by omega
          have hS5 : StW wr w.heap.size nb cap (.slice ob rn oc) F W (stN F W R.length) R := by rw [HAP.out.1, HST.out]; exact hS.out
          obtain ⟨s5, w5, v5, w6, q1, q2, q3, q4, q5⟩ := hS5.grow (by rw [HAP.out.1]; omega) hF
          have HF : Hid ((R ++ [s5]).length = i + 1 + 1 ∧ StW w6 w.heap.size nb cap v5 F W (stN F W (i + 1)) (R ++ [s5]) ∧ NR w6 (w2.heap.size + 1) (.slice (some ⟨gl, 0, none⟩) N uc) (W.map (·.la)) ∧ (∀ g, (Value.slice (some ⟨gl, 0, none⟩) N uc).ownBlock = some g → v5.ownBlock ≠ some g)) := by
            refine ⟨by simp [HAP.out.1], ?_, hNRq.keeps q4 (fun g hg e => HAP.out.2 g hg e), fun g hg e => ?_⟩
            · rw [HAP.out.1] at q3; exact q3
            · rcases q5 g e with c | c
              · exact HAP.out.2 g hg c
              · have := (own_block hNRq.own hg).1; omega
          have KF : Keeps (fun _ => False) w w6 := kr.young q4 (fun q e => (own_block hS.out.row.own e).2)
          obtain ⟨⟨b5, m5, c5⟩, hv5, -⟩ := sl_of q3.row
          subst hv5
          have hl5 : (R ++ [s5]).length ≤ i + 1 + 1 := by rw [HF.out.1]; exact Nat.le_refl _
          obtain ⟨sa5, sn5, sc5⟩ := s5
          dsimp only [Sl.v] at q1 q2 HF
          have HA1 : Hid (_ = _) := q1
          have HA2 : Hid (_ = _) := q2
          clear hS hS5 q1 q2 q3 q4 q5 hNRq HGL
          go_wp2_with (at_builtin; first | (refine wpList_append_run rfl _ _ 22 rfl rfl rfl HA1.out ?_; clear HA1) | (refine wpList_append_run rfl _ _ 77 rfl rfl rfl HA2.out ?_; clear HA2))
          go_roundw
          · exact ⟨i + 1, R ++ [⟨sa5, sn5, sc5⟩], by simp, by omega, hl5, HF, KF⟩
          · simp [intOf]; omega
    · obtain rfl : i = N := by omega
      have HF : Hid (∃ R : List Sl, R.length = W.length + 1 ∧ OwnR sC 1 22 Wo w.heap.size (.slice ob rn oc) R ∧ (∀ j (hj : j < R.length), OwnR wC 1 26 Wo w.heap.size (R[j]).v (stN F W j))) := ⟨R, by rw [← HN.out, ← HRN.out]; exact hR.out.1, hR.out.2.1.row, hR.out.2.1.each⟩
      clear hR
      go_wp2_with fail
      go_ret
      obtain ⟨R', f1, f2, f3⟩ := HF.out
      exact ⟨_, R', rfl, f1, f2, f3, kr⟩
end Go.Proofs.YthmiainhaebjiaaGreatDoor
