
/- The law's walk: what is written is read. No statement of the seat is proved here. -/
import Derived.Test.YtkihmdbmdpmmmaaGreatDoorAuI
namespace Go.Proofs.YtkihmdbmdpmmmaaGreatDoor
open Go.RowKit Go.Shelf

theorem marks_len {f : Nat → Bool} : ∀ (m k : Nat), (marksF f k m).length ≤ m
  | 0, _ => by simp [marksF]
  | m + 1, k => by
    have := marks_len (f := f) m (k + 1)
    unfold marksF
    cases f k <;> simp <;> omega
theorem plain_len {L : List I5} (h : ∀ i ∈ L, formedB i = true ∧ 0 ≤ i.n ∧ i.n < 18446744073709551616) : (plainL L).length ≤ 128 * L.length := by
  have : ∀ k, k ≤ L.length → (plainK L k).length ≤ 128 * k := by
    intro k
    induction k with
    | zero => intro _; simp [plainK]
    | succ k ih =>
      intro hk
      have hi := h (L[k]'(by omega)) (List.getElem_mem _)
      have := text_len hi.1 hi.2.1 hi.2.2
      have := ih (by omega)
      rw [plainK_succ (by omega)]
      simp only [List.length_append, List.length_cons, List.length_nil]
      omega
  exact this L.length (Nat.le_refl _)
theorem list_len {L : List I5} (hL : L.length ≤ 65536) (h : ∀ i ∈ L, formedB i = true ∧ 0 ≤ i.n ∧ i.n < 18446744073709551616) : (listL L).length ≤ 256 * L.length + 30 := by
  have : ∀ k, k ≤ L.length → (listK L k).length ≤ 256 * k := by
    intro k
    induction k with
    | zero => intro _; simp [listK]
    | succ k ih =>
      intro hk
      have hi := h (L[k]'(by omega)) (List.getElem_mem _)
      have h1 := text_len hi.1 hi.2.1 hi.2.2
      have h2 := ih (by omega)
      have h3 := namedL_len (textL (L[k]'(by omega)))
      have h4 := placeL_len k (by omega)
      rw [listK_succ (by omega)]
      unfold pieceL
      simp only [List.length_append, List.length_cons, List.length_nil]
      split <;> split <;> (simp only [List.length_append, List.length_cons, List.length_nil]; omega)
  have h1 := this L.length (Nat.le_refl _)
  have h4 := placeL_len L.length (by omega)
  unfold listL
  split <;> (simp only [List.length_append, List.length_cons, List.length_nil]; omega)

set_option maxRecDepth 100000 in
set_option maxHeartbeats 8000000 in
theorem back_law (v : Value) (L : List I5) (w : World) (hw : Gp w) (h : InsAt w v L) : Calls Tryz.prog 7 #[v] w fun e w' => e = .returned (.bool true) ∧ Keeps (fun _ => False) w w' := by
  have KN := fun X (kX : Keeps (fun _ => False) w X) => known_any X (hw.keeps kX)
  have k0 := Keeps.refl (fun _ => False) w
  by_cases hl : 400 < L.length
  · obtain ⟨⟨a0, c0, rfl, _⟩, -, -⟩ := h
    have hli : (400 : Int) < L.length := by omega
    have KN0 := KN w k0
    clear KN
    go_enter Tryz.func7, Tryz.ntmps7
    go_wp2_with fail
    refine KN0.mono ?_
    rintro e X ⟨rfl, kX⟩
    go_wp2_with fail
    go_ret
    exact ⟨rfl, kX⟩
  · have hL : L.length ≤ 65536 := by omega
    have hli : ¬ (400 : Int) < L.length := by omega
    have AT := atext_any v L hL w hw h
    have HAL : Hid (∀ X, Keeps (fun _ => False) w X → Calls Tryz.prog 17 #[v] X fun e w' => LsPost L e ∧ Keeps (fun _ => False) X w') := fun X kX => list_any v L hL X (hw.keeps kX) (h.keeps kX)
    have HLF : Hid (∀ X, Keeps (fun _ => False) w X → Calls Tryz.prog 29 #[v] X fun e w' => e = .returned (.bool (L.all formedB)) ∧ Keeps (fun _ => False) X w') := fun X kX => lformed_any v L hL X (h.keeps kX)
    have HKN : Hid (∀ X, Keeps (fun _ => False) w X → Calls Tryz.prog 9 #[] X fun e w' => e = .returned (.bool true) ∧ Keeps (fun _ => False) X w') := KN
    have HI : Hid (∀ X, Keeps (fun _ => False) w X → InsAt X v L) := fun X k => h.keeps k
    have HGP : Hid (∀ X, Keeps (fun _ => False) w X → Gp X) := fun X k => hw.keeps k
    have hwf := h.wf
    clear KN
    obtain ⟨⟨a0, c0, rfl, _⟩, -, -⟩ := h
    go_enter Tryz.func7, Tryz.ntmps7
    go_wp2_with fail
    refine AT.mono ?_
    rintro e w1 ⟨h1, k1⟩
    have AL := HAL.out w1 k1
    clear AT HAL
    cases hall : L.all formedB
    · obtain rfl := h1.2 hall
      clear h1
      go_wp2_with fail
      refine AL.mono ?_
      rintro e w2 ⟨h2, k2⟩
      obtain rfl := h2.2 hall
      have LF := HLF.out w2 (k1.trans k2)
      rw [hall] at LF
      clear AL h2 HLF
      go_wp2_with fail
      refine LF.mono ?_
      rintro e w3 ⟨rfl, k3⟩
      have KN3 := HKN.out w3 ((k1.trans k2).trans k3)
      clear LF HKN
      go_wp2_with fail
      refine KN3.mono ?_
      rintro e w4 ⟨rfl, k4⟩
      have kk := ((k1.trans k2).trans k3).trans k4
      clear KN3
      go_wp2_with fail
      go_ret
      exact ⟨rfl, kk⟩
    · have hfm : ∀ i ∈ L, formedB i = true ∧ 0 ≤ i.n ∧ i.n < 18446744073709551616 := fun i hi => ⟨List.all_eq_true.1 hall i hi, (hwf i hi).2.2.2.2.1, (hwf i hi).2.2.2.2.2⟩
      have hpl := plain_len hfm
      have hll := list_len hL hfm
      have HP1 : Hid (∀ X, Gp X → Calls Tryz.prog 10 #[.string ⟨(plainL L).toArray⟩] X fun e w' => (∃ vc, e = .returned (.tuple #[vc, .int .i64 (L.length : Int), .int .i64 0]) ∧ InsAt w' vc L) ∧ Keeps (fun _ => False) X w') := fun X hX => by
        have := aparse_any (plainL L) (by omega) X hX.gl
        unfold PrPost at this
        rw [plain_read L hfm] at this
        exact this.mono fun e w' ⟨⟨vc, q1, q2, q3⟩, q4⟩ => ⟨⟨vc, q1, q2.insAt q3 (by omega)⟩, q4⟩
      have HP2 : Hid (∀ X, Gp X → Calls Tryz.prog 11 #[.string ⟨(plainL L).toArray⟩] X fun e w' => (∃ a c, e = .returned (.tuple #[.slice a 0 c, .int .i64 (L.length : Int), .int .i64 0])) ∧ Keeps (fun _ => False) X w') := fun X hX => by
        have := labels_any (plainL L) (by omega) X hX.gl
        unfold LbPost at this
        rw [plain_read L hfm] at this
        refine this.mono fun e w' ⟨⟨vl, q1, q2⟩, q4⟩ => ⟨?_, q4⟩
        obtain ⟨a, c, rfl, _⟩ := (lab_of_own q2).form
        exact ⟨a, c, q1⟩
      obtain ⟨mN, hmN⟩ : ∃ mN : Nat, mN = L.length + (if markB L L.length L.length then 1 else 0) := ⟨_, rfl⟩
      have HP3 : Hid (∀ X, Gp X → Calls Tryz.prog 10 #[.string ⟨(listL L).toArray⟩] X fun e w' => (∃ vc, e = .returned (.tuple #[vc, .int .i64 (mN : Int), .int .i64 0]) ∧ InsAt w' vc L) ∧ Keeps (fun _ => False) X w') := fun X hX => by
        have := aparse_any (listL L) (by omega) X hX.gl
        unfold PrPost at this
        rw [list_read L hL hfm, ← hmN] at this
        exact this.mono fun e w' ⟨⟨vc, q1, q2, q3⟩, q4⟩ => ⟨⟨vc, q1, q2.insAt q3 (by omega)⟩, q4⟩
      have HP4 : Hid (∀ X, Gp X → Calls Tryz.prog 11 #[.string ⟨(listL L).toArray⟩] X fun e w' => (∃ vl, e = .returned (.tuple #[vl, .int .i64 (mN : Int), .int .i64 0]) ∧ LabAt w' vl (marksF (markB L L.length) 0 (L.length + 1))) ∧ Keeps (fun _ => False) X w') := fun X hX => by
        have := labels_any (listL L) (by omega) X hX.gl
        unfold LbPost at this
        rw [list_read L hL hfm, ← hmN] at this
        exact this.mono fun e w' ⟨⟨vl, q1, q2⟩, q4⟩ => ⟨⟨vl, q1, lab_of_own q2⟩, q4⟩
      have HMM : Hid (∀ x ∈ marksF (markB L L.length) 0 (L.length + 1), x.2 ≤ L.length ∧ tgtAt L x.2 = true) := fun x hx => by
        obtain ⟨_, _, q3, q4⟩ := marks_mem _ _ x hx
        have q3' : x.2 ≤ L.length := by omega
        exact ⟨q3', by rw [← mark_tgt L L.length x.2 q3']; exact q4⟩
      have HME : Hid ((marksF (markB L L.length) 0 (L.length + 1)).any (fun x => decide (x.2 = L.length)) = decide (mN = L.length + 1)) := by
        have := marks_end (f := markB L L.length) L.length 0
        unfold Hid
        simp only [Nat.zero_add] at this
        rw [this, hmN]
        cases markB L L.length L.length <;> simp
      have f1 : ¬ (mN : Int) < L.length := by omega
      have f2 : ¬ (L.length : Int) + 1 < mN := by
        rw [hmN]
        split <;> omega
      have e1 : decide (mN < L.length) = false := by simp; omega
      have e2 : decide ((L.length : Int) + 1 < (mN : Int)) = false := by simp; omega
      clear hmN
      have HTX : Hid (∀ X u, Keeps (fun _ => False) w X → InsAt X u L → Calls Tryz.prog 16 #[u] X fun e w' => e = .returned (.tuple #[.string ⟨(plainL L).toArray⟩, .int .i64 0]) ∧ Keeps (fun _ => False) X w') := fun X u kX hu => (atext_any u L hL X (HGP.out X kX) hu).mono fun e w' ⟨q1, q2⟩ => ⟨q1.1 hall, q2⟩
      have HSM : Hid (∀ X u, Keeps (fun _ => False) w X → InsAt X u L → Calls Tryz.prog 13 #[.slice a0 L.length c0, u] X fun e w' => e = .returned (.bool true) ∧ Keeps (fun _ => False) X w') := fun X u kX hu => rsame_any _ u L (by omega) X (HI.out X kX) hu
      have hMl : (marksF (markB L L.length) 0 (L.length + 1)).length ≤ 65537 := Nat.le_trans (marks_len _ _) (by omega)
      generalize marksF (markB L L.length) 0 (L.length + 1) = M at *
      obtain rfl := h1.1 hall
      clear h1 hpl hll hwf
      go_wp2_with fail
      refine AL.mono ?_
      rintro e w2 ⟨h2, k2⟩
      obtain rfl := h2.1 hall
      have LF := HLF.out w2 (k1.trans k2)
      rw [hall] at LF
      clear AL h2 HLF
      generalize plainL L = PL at *
      generalize listL L = LL at *
      go_wp2_with fail
      refine LF.mono ?_
      rintro e w3 ⟨rfl, k3⟩
      have kk3 := (k1.trans k2).trans k3
      have P1 := HP1.out w3 (HGP.out w3 kk3)
      clear LF HP1 k1 k2 k3
      go_wp2_with fail
      refine P1.mono ?_
      rintro e w4 ⟨⟨vc, rfl, hvc⟩, k4⟩
      have HVC : Hid (InsAt w4 vc L) := hvc
      have kk4 := kk3.trans k4
      have P2 := HP2.out w4 (HGP.out w4 kk4)
      clear P1 HP2 hvc
      go_wp2_with fail
      refine P2.mono ?_
      rintro e w5 ⟨⟨la, lc, rfl⟩, k5⟩
      have kk5 := kk4.trans k5
      have P3 := HP3.out w5 (HGP.out w5 kk5)
      clear P2 HP3
      go_wp2_with fail
      refine P3.mono ?_
      rintro e w6 ⟨⟨vd, rfl, hvd⟩, k6⟩
      have HVD : Hid (InsAt w6 vd L) := hvd
      have kk6 := kk5.trans k6
      have P4 := HP4.out w6 (HGP.out w6 kk6)
      clear P3 HP4 hvd
      go_wp2_with fail
      refine P4.mono ?_
      rintro e w7 ⟨⟨vl, rfl, hvl⟩, k7⟩
      have HVL : Hid (LabAt w7 vl M) := hvl
      have kk7 := kk6.trans k7
      have HVC7 : Hid (InsAt w7 vc L) := ((HVC.out.keeps k5).keeps k6).keeps k7
      have S1 := HSM.out w7 vc kk7 HVC7.out
      clear P4 hvl
      go_wp2_with fail
      refine S1.mono ?_
      rintro e w8 ⟨rfl, k8⟩
      have S2 := HSM.out w8 vd (kk7.trans k8) ((HVD.out.keeps k7).keeps k8)
      clear S1
      go_wp2_with fail
      refine S2.mono ?_
      rintro e w9 ⟨rfl, k9⟩
      have kk9 := (kk7.trans k8).trans k9
      have HIW : Hid (∀ X, Keeps (fun _ => False) w9 X → InsAt X (.slice a0 L.length c0) L) := fun X kX => HI.out X (kk9.trans kX)
      have HLB : Hid (∀ X, Keeps (fun _ => False) w9 X → LabAt X vl M) := fun X kX => ((HVL.out.keeps k8).keeps k9).keeps kX
      have HVC9 : Hid (∀ X, Keeps (fun _ => False) w9 X → InsAt X vc L) := fun X kX => ((HVC7.out.keeps k8).keeps k9).keeps kX
      have HKK : Hid (∀ X, Keeps (fun _ => False) w9 X → Keeps (fun _ => False) w X) := fun X kX => kk9.trans kX
      have HFM : Hid (∀ i ∈ L, 1 ≤ i.op ∧ i.op ≤ 17) := fun i hi => (formed_facts (hfm i hi).1).1
      have kz := Keeps.refl (fun _ => False) w9
      obtain ⟨lb0, lb1, hvl, _⟩ := (HLB.out w9 kz).form
      subst hvl
      clear S2 HI HVC HVD HVL HVC7 HSM kk3 k4 kk4 k5 kk5 k6 kk6 k7 kk7 k8 k9 kk9 hfm hall HGP k0 hw
      go_wp2_with fail
      go_loopw [19, 20] (fun u u2 wr => ∃ (q : Nat) (E : Bool), u = .bool E ∧ u2 = .int .i64 q ∧ q ≤ M.length ∧ Keeps (fun _ => False) w9 wr ∧ Hid ((M.take q).any (fun x => decide (x.2 = L.length)) = E)) (fun _ u _ => M.length - (intOf u).toNat)
      case atStart => exact ⟨0, false, rfl, rfl, Nat.zero_le _, kz, by show List.any _ _ = false; simp⟩
      case round =>
        obtain ⟨q, E, rfl, rfl, hq, kr, hE⟩ := hrel
        by_cases hlt : q < M.length
        · obtain ⟨gl, ol, cl, hv, z1⟩ := (HLB.out wr kr).at q hlt
          simp only [Value.slice.injEq] at hv
          obtain ⟨rfl, -, rfl⟩ := hv
          have hqi : (q : Int) < M.length := by omega
          have hmm := HMM.out (M[q]) (List.getElem_mem hlt)
          have HEN : Hid ((M.take (q + 1)).any (fun x => decide (x.2 = L.length)) = (E || decide ((M[q]).2 = L.length))) := by
            unfold Hid
            rw [List.take_succ_eq_append_getElem hlt, List.any_append, hE.out]
            simp
          have HZ : Hid (∀ X, Keeps (fun _ => False) wr X → X.cell? ⟨gl, ol + q * 2 + 1, none⟩ = some (.int .i64 ((M[q]).2 : Int))) := fun X kX => by
            obtain ⟨g', o', c', hv, q1⟩ := (HLB.out X (kr.trans kX)).at q hlt
            simp only [Value.slice.injEq, Option.some.injEq, Addr.mk.injEq, and_true, true_and] at hv
            obtain ⟨⟨rfl, rfl⟩, -⟩ := hv
            exact q1
          generalize (M[q]'hlt).2 = pl at *
          obtain ⟨hpl, hta⟩ := hmm
          have gw : IntKind.u64.wrap (pl : Int) = pl := by simp [IntKind.wrap, IntKind.signed, IntKind.bits]; omega
          have kz2 := Keeps.refl (fun _ => False) wr
          go_wp2_with fail
          go_loopw [21, 22] (fun u u2 wq => ∃ (k : Nat) (F : Bool), u = .bool F ∧ u2 = .int .i64 k ∧ k ≤ L.length ∧ Keeps (fun _ => False) wr wq ∧ Hid ((L.take k).any (fun i => tgtB i.op && decide (i.n = (pl : Int))) = F)) (fun _ u _ => L.length - (intOf u).toNat)
          case atStart => exact ⟨0, false, rfl, rfl, Nat.zero_le _, kz2, by show List.any _ _ = false; simp⟩
          case round =>
            obtain ⟨k, F, rfl, rfl, hk, kq, hF⟩ := hrel
            by_cases hlk : k < L.length
            · obtain ⟨ga, off, cap, hv, x0, x1, x2, x3, x4⟩ := (HIW.out wr (kr.trans kq)).at k hlk
              simp only [Value.slice.injEq] at hv
              obtain ⟨rfl, -, rfl⟩ := hv
              have hki : (k : Int) < L.length := by omega
              have hop := HFM.out (L[k]) (List.getElem_mem hlk)
              have HFN : Hid ((L.take (k + 1)).any (fun i => tgtB i.op && decide (i.n = (pl : Int))) = (F || (tgtB (L[k]).op && decide ((L[k]).n = (pl : Int))))) := by
                unfold Hid
                rw [List.take_succ_eq_append_getElem hlk, List.any_append, hF.out]
                simp
              have HC : Hid (∀ X, Keeps (fun _ => False) wr X → X.cell? ⟨ga, off + k * 5 + 4, none⟩ = some (.int .u64 (L[k]).n)) := fun X kX => by
                obtain ⟨g', o', c', hv, _, _, _, _, q⟩ := (HIW.out X ((kr.trans kq).trans kX)).at k hlk
                simp only [Value.slice.injEq, Option.some.injEq, Addr.mk.injEq, and_true, true_and] at hv
                obtain ⟨⟨rfl, rfl⟩, -⟩ := hv
                exact q
              have HZ2 : Hid (∀ X, Keeps (fun _ => False) wr X → X.cell? ⟨gl, ol + q * 2 + 1, none⟩ = some (.int .i64 (pl : Int))) := fun X kX => HZ.out X (kq.trans kX)
              have IN := info_yes (L[k]).op hop.1 hop.2
              generalize L[k]'hlk = i at *
              obtain ⟨op, a, b, c, N⟩ := i
              dsimp only at x0 x1 x2 x3 x4 HC IN HFN hop
              generalize regsN op = rn at *
              generalize numB op = nb at *
              generalize tgtB op = tb at *
              generalize outB op = ob at *
              generalize insB op = ib at *
              go_wp2_with fail
              refine (IN _).mono ?_
              rintro e X1 ⟨rfl, k1⟩
              obtain ⟨W, hW⟩ : ∃ W, W = X1.alloc (.cells #[.int .i64 (rn : Int), .bool nb, .bool tb, .bool ob, .bool ib] 63) := ⟨_, rfl⟩
              have kW : Keeps (fun _ => False) wr W := by rw [hW]; exact k1.alloc _
              have hb2 : W.heap[X1.heap.size]? = some (.cells #[.int .i64 (rn : Int), .bool nb, .bool tb, .bool ob, .bool ib] 63 (0, 0)) := by rw [hW]; exact alloc_block _ _
              have y2 := cell_of_block hb2 2
              have y4 := HC.out W kW
              have z4 := HZ2.out W kW
              have kqW := kq.trans kW
              have HWW : Hid (W = X1.alloc (.cells #[.int .i64 (rn : Int), .bool nb, .bool tb, .bool ob, .bool ib] 63)) := hW
              have y2' : W.cell? ⟨X1.heap.size, 2, none⟩ = some (.bool tb) := y2
              clear hW y2 hb2 IN HC HZ2
              cases F
              · cases tb
                · go_wp2_with fail
                  rw [← HWW.out]
                  generalize X1.heap.size = zx at *
                  go_quiet (fail)
                  go_wp2_with fail
                  go_roundw
                  · exact ⟨k + 1, false, rfl, by simp, by omega, kqW.drewN _, by unfold Hid; rw [HFN.out]; rfl⟩
                  · simp [intOf]; omega
                · by_cases hN : N = (pl : Int)
                  · subst hN
                    go_wp2_with fail
                    rw [← HWW.out]
                    generalize X1.heap.size = zx at *
                    go_quiet (fail)
                    go_wp2_with fail
                    go_roundw
                    · exact ⟨k + 1, true, rfl, by simp, by omega, kqW.drewN _, by unfold Hid; rw [HFN.out]; simp⟩
                    · simp [intOf]; omega
                  · have hN' : (N == (pl : Int)) = false := by simpa using hN
                    go_wp2_with fail
                    rw [← HWW.out]
                    generalize X1.heap.size = zx at *
                    go_quiet (fail)
                    go_wp2_with fail
                    go_roundw
                    · exact ⟨k + 1, false, rfl, by simp, by omega, kqW.drewN _, by unfold Hid; rw [HFN.out]; simp [hN]⟩
                    · simp [intOf]; omega
              · go_wp2_with fail
                rw [← HWW.out]
                generalize X1.heap.size = zx at *
                go_quiet (fail)
                go_wp2_with fail
                go_roundw
                · exact ⟨k + 1, true, rfl, by simp, by omega, kqW.drewN _, by unfold Hid; rw [HFN.out]; simp⟩
                · simp [intOf]; omega
            · obtain rfl : k = L.length := by omega
              have hFt : F = true := by
                rw [← hF.out, List.take_length]
                exact hta
              subst hFt
              have z4 := HZ.out wr kq
              have kk := kr.trans kq
              cases E
              · by_cases hpe : pl = L.length
                · subst hpe
                  go_wp2_with fail
                  go_roundw
                  · exact ⟨q + 1, true, rfl, by simp, by omega, kk, by unfold Hid; rw [HEN.out]; simp⟩
                  · simp [intOf]; omega
                · have hpi : ((pl : Int) == (L.length : Int)) = false := by simp; omega
                  go_wp2_with fail
                  go_roundw
                  · exact ⟨q + 1, false, rfl, by simp, by omega, kk, by unfold Hid; rw [HEN.out]; simp [hpe]⟩
                  · simp [intOf]; omega
              · go_wp2_with fail
                go_roundw
                · exact ⟨q + 1, true, rfl, by simp, by omega, kk, by unfold Hid; rw [HEN.out]; simp⟩
                · simp [intOf]; omega
        · obtain rfl : q = M.length := by omega
          have hEm : E = decide (mN = L.length + 1) := by
            rw [← hE.out, List.take_length]
            exact HME.out
          have kw := HKK.out wr kr
          have TX := HTX.out wr vc kw (HVC9.out wr kr)
          clear HTX HLB HIW
          go_wp2_with fail
          refine TX.mono ?_
          rintro e X1 ⟨rfl, k1⟩
          have KN := HKN.out X1 (kw.trans k1)
          have kk := kw.trans k1
          clear TX HKN
          by_cases hme : mN = L.length + 1
          · have hE1 : E = true := by rw [hEm]; simp [hme]
            subst hE1
            subst hme
            clear hEm HME hE
            go_wp2_with fail
            refine KN.mono ?_
            rintro e X2 ⟨rfl, k2⟩
            have kk2 := kk.trans k2
            go_wp2_with fail
            go_ret
            exact ⟨rfl, kk2⟩
          · have hE1 : E = false := by rw [hEm]; simp [hme]
            have hme' : mN = L.length := by omega
            subst hE1
            subst hme'
            have hne : ((L.length : Int) == (L.length : Int) + 1) = false := by simp; omega
            clear hEm HME hE
            go_wp2_with fail
            refine KN.mono ?_
            rintro e X2 ⟨rfl, k2⟩
            have kk2 := kk.trans k2
            go_wp2_with fail
            go_ret
            exact ⟨rfl, kk2⟩
end Go.Proofs.YtkihmdbmdpmmmaaGreatDoor
