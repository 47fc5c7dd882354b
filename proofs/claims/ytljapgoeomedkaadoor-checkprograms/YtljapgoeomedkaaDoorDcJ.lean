
/- Walks of the document's Spans. No statement of the seat is proved here. -/
import Derived.Test.YtljapgoeomedkaaDoorDcF
namespace Go.Proofs.YtljapgoeomedkaaDoor
open Go.RowKit Go.Shelf

theorem Its.far {w : World} {b : Nat} {v x : Value} {l : List Int} (h : Its w b v l) (hx : ∀ q, x.ownBlock = some q → q < b) : NoMeet x v := fun q hq e => by
  have h1 := hx q hq
  have h2 := (own_block h.own e).2
  omega
set_option maxRecDepth 100000 in
set_option maxHeartbeats 4000000 in
theorem spans_any (FA : FolOk) (v : Value) (p : List I5) (w : World) (h : InsAt w v p) (hG : Gb w) : Calls Tryd.prog 11 #[v] w (SsPost p w) := by
  have LA := look_any v p w h hG
  have HI : Hid (∀ X, Keeps (fun _ => False) w X → InsAt X v p ∧ Gb X) := fun X k => ⟨h.keeps k, hG.keeps k⟩
  obtain ⟨⟨av, cap, rfl, -⟩, -, -⟩ := h
  clear hG
  go_enter Tryd.func11, Tryd.ntmps11
  go_wp2_with fail
  refine LA.mono ?_
  rintro e w1 ⟨fv, rfl, k1, hok, hno⟩
  have K1 := k1.alloc (.cells (wrV (verd p).1 (verd p).2) 40)
  by_cases hv : (verd p).2 = 0
  · obtain ⟨f, rfl, hf, hF⟩ := hok hv
    obtain ⟨hp, hl⟩ := verd_ok_len hv
    have F1 := hF.keeps ((Keeps.refl (fun _ => False) w1).alloc (.cells (wrV (verd p).1 (verd p).2) 40)) (fun f => f)
    have HV : Hid ((verd p).2 = 0) := hv
    rw [hv] at K1 F1 ⊢
    generalize (verd p).1 = a at *
    unfold wrV at K1 F1 ⊢
    have S1 : Sps (w1.alloc (.cells #[.int .i64 a, .int .i64 0] 40)) w.heap.size (.slice none 0 0) [] := ⟨⟨rfl, .inl ⟨rfl, rfl⟩⟩, K1.size, fun s hs => by simp at hs, by simp [spB]⟩
    clear hok hno hF LA hv k1 hf
    go_wp2_with fail
    go_loopw [6, 21] (fun u m wr => ∃ (k : Nat) (L : List Spn), m = .int .i64 k ∧ k ≤ p.length ∧ Hid (L.map Spn.pure = spnL p k ∧ Keeps (fun _ => False) w wr ∧ Fnd wr f p.length (reachB p) ∧ Sps wr w.heap.size u L ∧ u.ownBlock ≠ some f)) (fun _ m _ => p.length - (intOf m).toNat)
    case atStart => exact ⟨0, [], rfl, Nat.zero_le _, ⟨rfl, K1, F1, S1, by simp [Value.ownBlock]⟩⟩
    case round =>
      clear K1 F1 S1
      obtain ⟨k, L, rfl, hk, hh⟩ := hrel
      obtain ⟨hM, hK, hF, hS, hne⟩ := hh.out
      obtain ⟨ub, uc, rfl⟩ := hS.form
      have hLl : L.length ≤ k := by
        have := congrArg List.length hM
        rw [List.length_map] at this
        rw [this]; exact spnL_len p k
      by_cases hlt : k < p.length
      · have hki : (k : Int) < p.length := by omega
        obtain ⟨c0, c1⟩ := hF.cell hlt
        obtain ⟨⟨⟨av', cap', hv, hc⟩, -, -⟩, hGr⟩ := HI.out wr hK
        obtain ⟨n0, n1, -, -⟩ := hGr
        have g0 : 0 < wr.heap.size := World.block_lt_of_cell? _ _ n0
        cases hv
        obtain ⟨pg, po, rfl, d0, -, -, -, -⟩ := hc k hlt
        have h5 : p[k]'hlt = at5 p k := by simp [at5, hlt]
        rw [h5] at d0
        have lp : pg < wr.heap.size := World.block_lt_of_cell? _ _ d0
        have lf := hF.lt
        have hbg : begB p k = (decide ((at5 p k).op = 12) && (reachB p k false || reachB p k true)) := rfl
        have hyes := fun h2 => beg_facts HV.out hlt h2
        have HL : Hid ((begB p k = true → spnL p (k + 1) = spnL p k ++ [(k, castL (blkL p k 15), castL (blkL p k 16))]) ∧ (begB p k = false → spnL p (k + 1) = spnL p k)) := ⟨spnL_yes, spnL_no⟩
        by_cases hb : begB p k = true
        · obtain ⟨ho, hr, ht⟩ := hyes hb
          have hr' := reachB_iff.2 hr
          rw [ht] at c1
          rw [hr'] at c0
          rw [ho] at d0
          have kX := ((Keeps.refl (fun _ => False) wr).alloc (.cells #[.bool true, .bool false] 76))
          have hKX := hK.trans kX
          have SA := span_any FA _ p _ (HI.out _ hKX).1 HV.out k hr ho
          have HX : Hid (Keeps (fun _ => False) w (wr.alloc (.cells #[.bool true, .bool false] 76)) ∧ Fnd (wr.alloc (.cells #[.bool true, .bool false] 76)) f p.length (reachB p) ∧ Sps wr w.heap.size (.slice ub L.length uc) L ∧ L.map Spn.pure = spnL p k ∧ spnL p (k + 1) = spnL p k ++ [(k, castL (blkL p k 15), castL (blkL p k 16))]) := ⟨hKX, hF.keeps kX (fun f => f), hS, hM, HL.out.1 hb⟩
          have HSA : Hid (_) := SA
          clear hh hM hK hF hS hc h5 hbg hyes HL hb ho hr ht hr' kX hKX SA
          go_wp2_with fail
          refine Calls.mono HSA.out ?_
          rintro e w2 ⟨vE, vA, rfl, K2, E2, A2, n2⟩
          clear HSA
          obtain ⟨hKX, hF, hS, hM, hN⟩ := HX.out
          have S2 := (hS.keeps ((Keeps.refl (fun _ => False) wr).alloc (.cells #[.bool true, .bool false] 76))).keeps K2
          have F2 := hF.keeps K2 (fun f => f)
          have kw2 := hKX.trans K2
          have yg : ∀ x ∈ (Value.slice ub L.length uc) :: spB L, NoMeet x vE ∧ NoMeet x vA := fun x hx => by
            have h1 : ∀ q, x.ownBlock = some q → q < (wr.alloc (.cells #[.bool true, .bool false] 76)).heap.size := fun q hq => by
              have := (hS.young x hx q hq).2; simp; omega
            exact ⟨E2.far h1, A2.far h1⟩
          have hbs : w.heap.size ≤ (wr.alloc (.cells #[.bool true, .bool false] 76)).heap.size := hKX.size
          obtain ⟨v', W4, r1, S4, G4⟩ := S2.push (Spn.mk k (castL (blkL p k 15)) (castL (blkL p k 16)) vE vA) (E2.base_le hbs) (A2.base_le hbs) yg n2 (by omega)
          dsimp only at r1
          have f4 : v'.ownBlock ≠ some f := fun e => by
            rcases G4.own with ho | ho
            · exact hne (ho ▸ e)
            · have h1 := ho f e
              have h2 := F2.lt
              omega
          have HA : Hid (_ = _) := r1
          have HR : Hid ((L ++ [(Spn.mk k (castL (blkL p k 15)) (castL (blkL p k 16)) vE vA)]).map Spn.pure = spnL p (k + 1) ∧ Keeps (fun _ => False) w W4 ∧ Fnd W4 f p.length (reachB p) ∧ Sps W4 w.heap.size v' (L ++ [(Spn.mk k (castL (blkL p k 15)) (castL (blkL p k 16)) vE vA)]) ∧ v'.ownBlock ≠ some f) := ⟨by rw [hN, List.map_append, hM]; rfl, ⟨G4.keeps.os.trans kw2.os, G4.keeps.tape.trans kw2.tape, G4.keeps.output.trans kw2.output, Nat.le_trans kw2.size G4.keeps.size, fun z hz hs => (G4.keeps.block z (Nat.lt_of_lt_of_le hz kw2.size) fun e => by
            have := (S2.young _ (by simp) z e).1; omega).trans (kw2.block z hz hs)⟩, F2.keeps G4.keeps hne, S4, f4⟩
          clear hKX hF hS hM hN S2 F2 kw2 yg r1 S4 G4 K2 E2 A2 n2 HX hne f4
          go_wp2_with (at_builtin; refine wpList_append_run rfl _ _ 28 rfl rfl rfl HA.out ?_)
          go_roundw
          · exact ⟨k + 1, _, by simp, by omega, HR⟩
          · simp [intOf]; omega
        · rw [Bool.not_eq_true] at hb
          have hn := HL.out.2 hb
          rw [hb] at hbg
          generalize (at5 p k).op = op at *
          generalize reachB p k false = x at *
          generalize reachB p k true = y at *
          have kX := ((Keeps.refl (fun _ => False) wr).alloc (.cells #[.bool x, .bool y] 76))
          have HR : Hid (L.map Spn.pure = spnL p (k + 1) ∧ Keeps (fun _ => False) w (wr.alloc (.cells #[.bool x, .bool y] 76)) ∧ Fnd (wr.alloc (.cells #[.bool x, .bool y] 76)) f p.length (reachB p) ∧ Sps (wr.alloc (.cells #[.bool x, .bool y] 76)) w.heap.size (.slice ub L.length uc) L ∧ (Value.slice ub L.length uc).ownBlock ≠ some f) := ⟨by rw [hn]; exact hM, hK.trans kX, hF.keeps kX (fun f => f), hS.keeps kX, hne⟩
          clear hh hM hK hF hS hc h5 hyes HL hb hn kX hne
          by_cases ho : op = 12
          · subst ho
            have hx : x = false := by cases x; rfl; simp at hbg
            have hy : y = false := by cases y; rfl; subst hx; simp at hbg
            subst hx hy
            clear hbg
            go_wp2_with fail
            go_roundw
            · exact ⟨k + 1, _, by simp, by omega, HR⟩
            · simp [intOf]; omega
          · have m2 : (op == 12) = false := by simp [ho]
            clear hbg
            go_wp2_with fail
            go_roundw
            · exact ⟨k + 1, _, by simp, by omega, HR⟩
            · simp [intOf]; omega
      · have hki : ¬ (k : Int) < p.length := by omega
        obtain rfl : k = p.length := by omega
        clear hh
        have HS : Hid (_) := hS
        clear hS
        go_wp2_with fail
        go_ret2
        exact ⟨_, L, by rw [HV.out]; rfl, hK, HS.out, by rw [hM]; unfold spnP; rw [if_pos HV.out]⟩
  · obtain rfl := hno hv
    have hne : ∀ q, SsPost p w (.returned (.tuple #[.slice none 0 0, .int .i64 (verd p).2])) ((w1.alloc (.cells (wrV (verd p).1 (verd p).2) 40)).drewN q) := fun q => ⟨_, [], rfl, K1.drewN q, ⟨⟨rfl, .inl ⟨rfl, rfl⟩⟩, (K1.drewN q).size, fun s hs => by simp at hs, by simp [spB]⟩, by unfold spnP; rw [if_neg hv]; rfl⟩
    generalize (verd p).2 = b at *
    generalize (verd p).1 = a at *
    unfold wrV at hne ⊢
    have HN : Hid (_) := hne
    clear hok hno LA hne K1
    go_wp2_with fail
    go_quiet (fail)
    go_wp2_with fail
    go_ret2
    exact HN.out _
end Go.Proofs.YtljapgoeomedkaaDoor
namespace Go.Proofs.YtljapgoeomedkaaDoor
open Go.RowKit Go.Shelf

def ShutB (p : List I5) (L : List Nat) (a : Nat) : Prop := a ∈ L → (at5 p a).op ≠ 15 → (at5 p a).op ≠ 16 → ∀ c ∈ folL (at5 p a) a, c ∈ L
theorem shut_all {p : List I5} {b : Nat} {L : List Nat} (hw : BW p b L) (hb : b ∈ L) (h : ∀ a, ShutB p L a) (a : Nat) : decide (a ∈ L) = blkB p b a := by
  rw [Bool.eq_iff_iff, decide_eq_true_eq, blkB_iff]
  constructor
  · exact hw.blk a
  · intro ha
    induction ha with
    | start => exact hb
    | step _ h15 h16 hc ih => exact h _ ih h15 h16 _ hc
/-- What block answers. -/
def BkPost (p : List I5) (b : Nat) (w : World) (e : Ending) (w' : World) : Prop := ∃ (f : Nat) (L : List Nat), e = .returned (.slice (some ⟨f, 0, none⟩) p.length p.length) ∧ w.heap.size ≤ f ∧ Keeps (fun _ => False) w w' ∧ Bn w' f p.length L ∧ ∀ a, decide (a ∈ L) = blkB p b a

set_option maxRecDepth 100000 in
set_option maxHeartbeats 8000000 in
theorem rblock_any (v : Value) (p : List I5) (w : World) (h : InsAt w v p) (hv : (verd p).2 = 0) (b0 : Nat) (hr : Reach p b0 false) (ho : (at5 p b0).op = 12) : Calls Tryd.prog 35 #[v, .int .i64 b0] w (BkPost p b0 w) := by
  have HI : Hid (∀ X, Keeps (fun _ => False) w X → InsAt X v p) := fun X k => h.keeps k
  obtain ⟨hp, hl⟩ := verd_ok_len hv
  obtain ⟨⟨av, cap, rfl, -⟩, -, -⟩ := h
  have hb0 := (blk_in hv hr ho .start).1
  have HV : Hid ((verd p).2 = 0 ∧ Reach p b0 false ∧ (at5 p b0).op = 12) := ⟨hv, hr, ho⟩
  clear hv hr ho
  obtain ⟨x, hmk, hB⟩ := run_bl w p.length (by omega)
  have hmark := hB.mark hb0
  have fz := hB.frozen b0
  have c0 := hB.cell hb0
  have e0 : ((w.alloc (.cells x 4)).setCell ⟨w.heap.size, b0, none⟩ (.bool true)) = w.alloc (.cells (x.setIfInBounds b0 (.bool true)) 4) := World.setCell_alloc_new _ _ _ _
  have k1 := (Keeps.refl (fun _ => False) w).alloc (.cells (x.setIfInBounds b0 (.bool true)) 4)
  rw [e0] at hmark
  have hb0i : (b0 : Int) < p.length := by omega
  clear e0 hB
  go_enter Tryd.func35, Tryd.ntmps35
  go_wp2_with fail
  clear hmk fz c0
  go_loopg [6] (p.length + 2) (fun gq m wr => ∃ (b : Bool) (L : List Nat), m = .bool b ∧ (b = true → p.length + 2 ≤ gq + L.length) ∧ Hid (BW p b0 L ∧ b0 ∈ L ∧ Bn wr w.heap.size p.length L ∧ Keeps (fun _ => False) w wr ∧ (b = false → ∀ a, ShutB p L a)))
  case atStart => exact ⟨true, [b0], rfl, fun _ => by simp, ⟨⟨fun m hm => by simp at hm; subst hm; exact .start, by simp⟩, by simp, hmark, k1, fun e => by cases e⟩⟩
  case round =>
    clear hmark k1
    obtain ⟨b, L, rfl, hgq, hh⟩ := hrel
    obtain ⟨hW, hm0, hF, hK, hb⟩ := hh.out
    cases b
    · have hS := hb rfl
      have hR := shut_all hW hm0 hS
      clear hh
      go_wp2_with fail
      go_ret
      exact ⟨_, L, rfl, Nat.le_refl _, hK, hF, hR⟩
    · have hgL := hgq rfl
      have hLn := nat_le hW.nodup (fun x hx => (blk_in HV.out.1 HV.out.2.1 HV.out.2.2 (hW.blk x hx)).1)
      clear hh hb hgq
      go_wp2_with fail
      go_loopw [6, 7] (fun x m wr => ∃ (a : Nat) (b : Bool) (L' : List Nat), x = .bool b ∧ m = .int .i64 a ∧ a ≤ p.length ∧ Hid (BW p b0 L' ∧ b0 ∈ L' ∧ Bn wr w.heap.size p.length L' ∧ Keeps (fun _ => False) w wr ∧ (b = false → L' = L ∧ ∀ a', a' < a → ShutB p L a') ∧ (b = true → L.length < L'.length))) (fun _ m _ => p.length - (intOf m).toNat)
      case atStart => exact ⟨0, false, L, rfl, rfl, Nat.zero_le _, ⟨hW, hm0, hF, hK, fun _ => ⟨rfl, fun a' h => by omega⟩, fun h => by cases h⟩⟩
      case round =>
        clear hW hF hK hm0
        obtain ⟨a, b, L', rfl, rfl, ha, hh⟩ := hrel
        obtain ⟨hW, hm0, hF, hK, hb0', hb1⟩ := hh.out
        by_cases hlt : a < p.length
        · have hai : (a : Int) < p.length := by omega
          have cf := hF.cell hlt
          have HI2 := HI.out wr hK
          have RF := rfollow2_any _ p a wr HI2 hlt
          obtain ⟨⟨av', cap', hv, hc⟩, -, -⟩ := HI2
          cases hv
          obtain ⟨pg, po, rfl, d0, -, -, -, -⟩ := hc a hlt
          have h5 : p[a]'hlt = at5 p a := by simp [at5, hlt]
          rw [h5] at d0
          clear hc h5 hh
          by_cases hgo : a ∈ L' ∧ (at5 p a).op ≠ 15 ∧ (at5 p a).op ≠ 16
          · obtain ⟨hm, o15, o16⟩ := hgo
            rw [decide_eq_true hm] at cf
            have m1 : ((at5 p a).op == 15) = false := by simp [o15]
            have m2 : ((at5 p a).op == 16) = false := by simp [o16]
            have hbk := hW.blk a hm
            have haf := (blk_in HV.out.1 HV.out.2.1 HV.out.2.2 hbk).2
            have HO : Hid ((at5 p a).op ≠ 15 ∧ (at5 p a).op ≠ 16) := ⟨o15, o16⟩
            have HX : Hid (BW p b0 L' ∧ b0 ∈ L' ∧ Bn wr w.heap.size p.length L' ∧ Keeps (fun _ => False) w wr ∧ (b = false → L' = L ∧ ∀ a', a' < a → ShutB p L a') ∧ (b = true → L.length < L'.length)) := ⟨hW, hm0, hF, hK, hb0', hb1⟩
            clear hW hm0 hF hK hb0' hb1
            go_wp2_with fail
            refine RF.mono ?_
            rintro e w2 ⟨u, rfl, hN, k2⟩
            obtain ⟨hW, hm0, hF, hK, hb0', hb1⟩ := HX.out
            have hfl := folL_len (at5 p a) a
            generalize hFL : folL (at5 p a) a = F at *
            have HO2 : Hid ((at5 p a).op ≠ 15 ∧ (at5 p a).op ≠ 16 ∧ folL (at5 p a) a = F) := ⟨o15, o16, hFL⟩
            have lf : w.heap.size < wr.heap.size := hF.lt
            have hF2 := hF.keeps k2 (fun f => f)
            have K2 := hK.trans k2
            obtain ⟨ua, uc, hu, -⟩ := hN w2 (Keeps.refl _ _)
            rw [List.length_map] at hu
            subst hu
            clear hF k2 RF d0 hK HO hFL HX m1 m2 o15 o16 cf
            generalize wr.heap.size = bs at *
            go_wp2_with fail
            go_loopw [6, 9] (fun x m wr => ∃ (k : Nat) (b : Bool) (L' : List Nat), x = .bool b ∧ m = .int .i64 k ∧ k ≤ F.length ∧ Hid (BW p b0 L' ∧ b0 ∈ L' ∧ Bn wr w.heap.size p.length L' ∧ Keeps (fun _ => False) w wr ∧ NumSt bs wr (.slice ua F.length uc) (F.map fun (n : Nat) => (n : Int)) ∧ (b = false → L' = L ∧ (∀ a', a' < a → ShutB p L a') ∧ ∀ c ∈ F.take k, c ∈ L) ∧ (b = true → L.length < L'.length))) (fun _ m _ => F.length - (intOf m).toNat)
            case atStart => exact ⟨0, b, L', rfl, rfl, Nat.zero_le _, ⟨hW, hm0, hF2, K2, hN, fun e => ⟨(hb0' e).1, (hb0' e).2, fun c hc => by simp at hc⟩, hb1⟩⟩
            case round =>
              clear hF2 K2 hN hW hm0 hb0' hb1 hm
              obtain ⟨k, b, L', rfl, rfl, hk, hh⟩ := hrel
              obtain ⟨hW, hm0, hF, hK, hN, hb0', hb1⟩ := hh.out
              by_cases hklt : k < F.length
              · have hki : (k : Int) < F.length := by omega
                obtain ⟨ua', uc', hu, hc⟩ := hN wr (Keeps.refl _ _)
                rw [List.length_map] at hu
                cases hu
                obtain ⟨ug, uo, rfl, x0⟩ := hc k (by simpa using hklt)
                simp only [List.getElem_map] at x0
                have hbF := List.getElem_mem hklt
                have hTk := List.take_succ_eq_append_getElem hklt
                generalize F[k]'hklt = y at *
                have hyn := haf y hbF
                have hyi : (y : Int) < p.length := by omega
                have cf := hF.cell hyn
                by_cases hm : y ∈ L'
                · rw [decide_eq_true hm] at cf
                  have HR : Hid (BW p b0 L' ∧ b0 ∈ L' ∧ Bn wr w.heap.size p.length L' ∧ Keeps (fun _ => False) w wr ∧ NumSt bs wr (.slice (some ⟨ug, uo, none⟩) F.length uc) (F.map fun (n : Nat) => (n : Int)) ∧ (b = false → L' = L ∧ (∀ a', a' < a → ShutB p L a') ∧ ∀ c ∈ F.take (k + 1), c ∈ L) ∧ (b = true → L.length < L'.length)) := ⟨hW, hm0, hF, hK, hN, fun e => ⟨(hb0' e).1, (hb0' e).2.1, fun c hc => by
                    rw [hTk] at hc
                    rcases List.mem_append.1 hc with hc | hc
                    · exact (hb0' e).2.2 c hc
                    · simp at hc; subst hc; rw [← (hb0' e).1]; exact hm⟩, hb1⟩
                  clear hh hW hm0 hF hK hN hb0' hb1 hc hTk
                  go_wp2_with fail
                  go_roundw
                  · exact ⟨k + 1, b, L', rfl, by simp, by omega, HR⟩
                  · simp [intOf]; omega
                · rw [decide_eq_false hm] at cf
                  have fz := hF.frozen y
                  have FM := hF.mark hyn
                  have hW' := hW.push hbk HO2.out.1 HO2.out.2.1 (by rw [HO2.out.2.2]; exact hbF) hm
                  have kM := (Keeps.refl (fun q => q = w.heap.size) wr).setCell (p := ⟨w.heap.size, y, none⟩) (.inr rfl) (.bool true)
                  have HR : Hid (BW p b0 (L' ++ [y]) ∧ b0 ∈ L' ++ [y] ∧ Bn (wr.setCell ⟨w.heap.size, y, none⟩ (.bool true)) w.heap.size p.length (L' ++ [y]) ∧ Keeps (fun _ => False) w (wr.setCell ⟨w.heap.size, y, none⟩ (.bool true)) ∧ NumSt bs (wr.setCell ⟨w.heap.size, y, none⟩ (.bool true)) (.slice (some ⟨ug, uo, none⟩) F.length uc) (F.map fun (n : Nat) => (n : Int)) ∧ L.length < (L' ++ [y]).length) :=
                    ⟨hW', List.mem_append_left _ hm0, FM, hK.setCell (.inl (Nat.le_refl _)) _, fun X kX => hN X ((kM.mono fun q _ e => by rw [e]; exact lf).trans kX), by
                      have : L.length ≤ L'.length := by
                        rcases b with _ | _
                        · rw [(hb0' rfl).1]; exact Nat.le_refl _
                        · have := hb1 rfl; omega
                      simp; omega⟩
                  clear hh hW hm0 hF hK hN hb0' hb1 hc hTk hW' FM kM
                  go_wp2_with fail
                  go_roundw
                  · obtain ⟨z1, z2, z3, z4, z5, z6⟩ := HR.out
                    exact ⟨k + 1, true, _, rfl, by simp, by omega, ⟨z1, z2, z3, z4, z5, (fun e => by cases e), fun _ => z6⟩⟩
                  · simp [intOf]; omega
              · have hki : ¬ (k : Int) < F.length := by omega
                obtain rfl : k = F.length := by omega
                rw [List.take_length] at hb0'
                have HR : Hid (BW p b0 L' ∧ b0 ∈ L' ∧ Bn wr w.heap.size p.length L' ∧ Keeps (fun _ => False) w wr ∧ (b = false → L' = L ∧ ∀ a', a' < a + 1 → ShutB p L a') ∧ (b = true → L.length < L'.length)) := ⟨hW, hm0, hF, hK, fun e => by
                  obtain ⟨e1, e2, e3⟩ := hb0' e
                  refine ⟨e1, fun a' ha' => ?_⟩
                  by_cases he : a' = a
                  · subst he
                    intro _ _ _ c hc
                    rw [HO2.out.2.2] at hc
                    exact e3 c hc
                  · exact e2 a' (by omega), hb1⟩
                clear hh hW hm0 hF hK hN hb0' hb1
                go_wp2_with fail
                go_roundw
                · exact ⟨a + 1, b, L', rfl, by simp, by omega, HR⟩
                · simp [intOf]; omega
          · have HR : Hid (BW p b0 L' ∧ b0 ∈ L' ∧ Bn wr w.heap.size p.length L' ∧ Keeps (fun _ => False) w wr ∧ (b = false → L' = L ∧ ∀ a', a' < a + 1 → ShutB p L a') ∧ (b = true → L.length < L'.length)) := ⟨hW, hm0, hF, hK, fun e => by
              obtain ⟨e1, e2⟩ := hb0' e
              refine ⟨e1, fun a' ha' => ?_⟩
              by_cases he : a' = a
              · subst he
                intro h1 h2 h3
                exact absurd ⟨by rw [e1]; exact h1, h2, h3⟩ hgo
              · exact e2 a' (by omega), hb1⟩
            clear hW hm0 hF hK hb0' hb1 RF
            by_cases hm : a ∈ L'
            · rw [decide_eq_true hm] at cf
              by_cases o15 : (at5 p a).op = 15
              · rw [o15] at d0
                clear hgo
                go_wp2_with fail
                go_roundw
                · exact ⟨a + 1, b, L', rfl, by simp, by omega, HR⟩
                · simp [intOf]; omega
              · have o16 : (at5 p a).op = 16 := Classical.byContradiction fun h => hgo ⟨hm, o15, h⟩
                rw [o16] at d0
                clear hgo o15
                go_wp2_with fail
                go_roundw
                · exact ⟨a + 1, b, L', rfl, by simp, by omega, HR⟩
                · simp [intOf]; omega
            · rw [decide_eq_false hm] at cf
              clear hgo
              go_wp2_with fail
              go_roundw
              · exact ⟨a + 1, b, L', rfl, by simp, by omega, HR⟩
              · simp [intOf]; omega
        · have hai : ¬ (a : Int) < p.length := by omega
          obtain rfl : a = p.length := by omega
          have HR : Hid (BW p b0 L' ∧ b0 ∈ L' ∧ Bn wr w.heap.size p.length L' ∧ Keeps (fun _ => False) w wr ∧ (b = false → ∀ a, ShutB p L' a)) := ⟨hW, hm0, hF, hK, fun e => by
            obtain ⟨e1, e2⟩ := hb0' e
            subst e1
            intro a hm
            exact e2 a (blk_in HV.out.1 HV.out.2.1 HV.out.2.2 (hW.blk a hm)).1 hm⟩
          have hlen : b = true → p.length + 2 ≤ gk - 1 + L'.length := fun e => by have := hb1 e; omega
          clear hh hW hm0 hF hK hb0' hb1
          go_wp2_with fail
          go_roundg (gk - 1)
          case measure => omega
          case rel => exact ⟨b, L', rfl, hlen, HR⟩
end Go.Proofs.YtljapgoeomedkaaDoor
namespace Go.Proofs.YtljapgoeomedkaaDoor
open Go.RowKit Go.Shelf

theorem Sps.base_le {w : World} {b b' : Nat} {v : Value} {L : List Spn} (h : Sps w b v L) (hb : b' ≤ b) : Sps w b' v L :=
  ⟨⟨h.own.1, by
    rcases h.own.2 with h2 | ⟨g, cap, cur, hv, h1, h2⟩
    · exact .inl h2
    · exact .inr ⟨g, cap, cur, hv, Nat.le_trans hb h1, h2⟩⟩, Nat.le_trans hb h.base, fun s hs => ⟨(h.each s hs).1.base_le hb, (h.each s hs).2.base_le hb⟩, h.apart⟩
theorem Sps.keepsS {w w' : World} {b : Nat} {v : Value} {L : List Spn} {S : Nat → Prop} (h : Sps w b v L) (k : Keeps S w w') (hs : ∀ x ∈ v :: spB L, ∀ q, x.ownBlock = some q → ¬ S q) : Sps w' b v L :=
  ⟨own_keeps h.own k (hs v (by simp)), Nat.le_trans h.base k.size, fun s hm => ⟨(h.each s hm).1.keeps k (hs _ (List.mem_cons_of_mem _ (mem_spB.2 ⟨s, hm, .inl rfl⟩))), (h.each s hm).2.keeps k (hs _ (List.mem_cons_of_mem _ (mem_spB.2 ⟨s, hm, .inr rfl⟩)))⟩, h.apart⟩
theorem Sps.kept {w W W' : World} {v v' : Value} {L : List Spn} {b : Nat} (h : Sps W b v L) (g : Grew W W' v v') (k : Keeps (fun _ => False) w W) (hb : w.heap.size ≤ b) : Keeps (fun _ => False) w W' :=
  ⟨g.keeps.os.trans k.os, g.keeps.tape.trans k.tape, g.keeps.output.trans k.output, Nat.le_trans k.size g.keeps.size, fun q hq hs => (g.keeps.block q (Nat.lt_of_lt_of_le hq k.size) fun e => by
    have := (own_block h.own e).2; omega).trans (k.block q hq hs)⟩
noncomputable def blkK (p : List I5) (b : Nat) (o : Int) (k : Nat) : List Nat := (List.range k).filter fun k => blkB p b k && decide ((at5 p k).op = o)
theorem blkK_yes {p : List I5} {b : Nat} {o : Int} {k : Nat} (h1 : blkB p b k = true) (h2 : (at5 p k).op = o) : blkK p b o (k + 1) = blkK p b o k ++ [k] := by
  unfold blkK; rw [List.range_succ, List.filter_append]; simp [h1, h2]
theorem blkK_no {p : List I5} {b : Nat} {o : Int} {k : Nat} (h : blkB p b k = true → (at5 p k).op ≠ o) : blkK p b o (k + 1) = blkK p b o k := by
  unfold blkK; rw [List.range_succ, List.filter_append]
  cases hb : blkB p b k
  · simp [hb]
  · simp [hb, h hb]
theorem blkK_len (p : List I5) (b : Nat) (o : Int) (k : Nat) : (castL (blkK p b o k)).length ≤ k := by
  rw [castL_len]; unfold blkK; exact Nat.le_trans (List.length_filter_le _ _) (by simp)
/-- What stands while the places of a block are gone through. -/
structure SpI (p : List I5) (i : Nat) (w W : World) (S f bs : Nat) (u : Value) (L : List Spn) (M : List Nat) (vE vA : Value) (k : Nat) : Prop where
  kp : Keeps (fun _ => False) w W
  sp : W.heap[S]? = some (.cells #[.int .i64 i, vE, vA] 79 (0, 0))
  been : Bn W f p.length M
  lst : Sps W w.heap.size u L
  ends : Its W bs vE (castL (blkK p i 15 k))
  aborts : Its W bs vA (castL (blkK p i 16 k))
  a3 : NoMeet vE vA
  lS : S < f
  lf : f < bs
  ly : ∀ x ∈ u :: spB L, ∀ q, x.ownBlock = some q → q < S
  lw : w.heap.size ≤ S
theorem SpI.note1 {p : List I5} {i : Nat} {w W W1 : World} {S f bs : Nat} {u : Value} {L : List Spn} {M : List Nat} {vE vE' vA : Value} {k : Nat} (h : SpI p i w W S f bs u L M vE vA k) (hk : blkB p i k = true) (ho : (at5 p k).op = 15) (hI : Its W1 bs vE' (castL (blkK p i 15 k) ++ [(k : Int)])) (g : Grew W W1 vE vE') : SpI p i w (W1.setCell ⟨S, 1, none⟩ vE') S f bs u L M vE' vA (k + 1) := by
  have lS := h.lS
  have lf := h.lf
  have lw := h.lw
  have nb : ∀ q, q < bs → vE.ownBlock ≠ some q := fun q hq e => by have := (own_block h.ends.own e).2; omega
  have K1 := grew_keeps g h.kp h.ends (by omega)
  obtain ⟨a1, aa⟩ := h.aborts.apart_grow g (fun q hq e => h.a3 q e hq)
  have s1 := (g.keeps.block _ (lt_of_block h.sp) (nb _ (by omega))).trans h.sp
  have b1 := h.been.keeps g.keeps (nb _ (by omega))
  have l1 := h.lst.keepsS g.keeps (fun x hx q hq e => nb q (by have := h.ly x hx q hq; omega) e)
  have ks := (Keeps.refl (fun q => q = S) W1).setCell (p := ⟨S, 1, none⟩) (.inr rfl) vE'
  have o1 : ∀ {v : Value} {L : List Int}, Its W1 bs v L → ∀ q, v.ownBlock = some q → ¬ q = S := fun hv q hq e => by have := (own_block hv.own hq).2; omega
  refine ⟨K1.setCell (.inl lw) _, block_set s1 1 vE', b1.keeps ks (by omega), l1.keepsS ks (fun x hx q hq e => by have := h.ly x hx q hq; omega), ?_, ?_, fun q hq e => aa q e hq, lS, lf, h.ly, lw⟩
  · rw [blkK_yes hk ho]
    have := hI.keeps ks (o1 hI)
    simpa [castL] using this
  · rw [blkK_no (fun _ => by omega)]; exact a1.keeps ks (o1 a1)
theorem SpI.note2 {p : List I5} {i : Nat} {w W W1 : World} {S f bs : Nat} {u : Value} {L : List Spn} {M : List Nat} {vE vA vA' : Value} {k : Nat} (h : SpI p i w W S f bs u L M vE vA k) (hk : blkB p i k = true) (ho : (at5 p k).op = 16) (hI : Its W1 bs vA' (castL (blkK p i 16 k) ++ [(k : Int)])) (g : Grew W W1 vA vA') : SpI p i w (W1.setCell ⟨S, 2, none⟩ vA') S f bs u L M vE vA' (k + 1) := by
  have lS := h.lS
  have lf := h.lf
  have lw := h.lw
  have nb : ∀ q, q < bs → vA.ownBlock ≠ some q := fun q hq e => by have := (own_block h.aborts.own e).2; omega
  have K1 := grew_keeps g h.kp h.aborts (by omega)
  obtain ⟨a1, aa⟩ := h.ends.apart_grow g h.a3
  have s1 := (g.keeps.block _ (lt_of_block h.sp) (nb _ (by omega))).trans h.sp
  have b1 := h.been.keeps g.keeps (nb _ (by omega))
  have l1 := h.lst.keepsS g.keeps (fun x hx q hq e => nb q (by have := h.ly x hx q hq; omega) e)
  have ks := (Keeps.refl (fun q => q = S) W1).setCell (p := ⟨S, 2, none⟩) (.inr rfl) vA'
  have o1 : ∀ {v : Value} {L : List Int}, Its W1 bs v L → ∀ q, v.ownBlock = some q → ¬ q = S := fun hv q hq e => by have := (own_block hv.own hq).2; omega
  refine ⟨K1.setCell (.inl lw) _, block_set s1 2 vA', b1.keeps ks (by omega), l1.keepsS ks (fun x hx q hq e => by have := h.ly x hx q hq; omega), ?_, ?_, aa, lS, lf, h.ly, lw⟩
  · rw [blkK_no (fun _ => by omega)]; exact a1.keeps ks (o1 a1)
  · rw [blkK_yes hk ho]
    have := hI.keeps ks (o1 hI)
    simpa [castL] using this
theorem SpI.skip {p : List I5} {i : Nat} {w W : World} {S f bs : Nat} {u : Value} {L : List Spn} {M : List Nat} {vE vA : Value} {k : Nat} (h : SpI p i w W S f bs u L M vE vA k) (hk : blkB p i k = true → (at5 p k).op ≠ 15 ∧ (at5 p k).op ≠ 16) : SpI p i w W S f bs u L M vE vA (k + 1) :=
  ⟨h.kp, h.sp, h.been, h.lst, by rw [blkK_no (fun e => (hk e).1)]; exact h.ends, by rw [blkK_no (fun e => (hk e).2)]; exact h.aborts, h.a3, h.lS, h.lf, h.ly, h.lw⟩
theorem SpI.facts {p : List I5} {i : Nat} {w W : World} {S f bs : Nat} {u : Value} {L : List Spn} {M : List Nat} {vE vA : Value} {k : Nat} (h : SpI p i w W S f bs u L M vE vA k) : W.cell? ⟨S, 0, none⟩ = some (.int .i64 i) ∧ W.cell? ⟨S, 1, none⟩ = some vE ∧ W.cell? ⟨S, 2, none⟩ = some vA ∧ W.frozen? ⟨S, 1, none⟩ = false ∧ W.frozen? ⟨S, 2, none⟩ = false :=
  ⟨by rw [cell_of_block h.sp]; rfl, by rw [cell_of_block h.sp]; rfl, by rw [cell_of_block h.sp]; rfl, frozen_of_block h.sp 1, frozen_of_block h.sp 2⟩
theorem SpI.still {p : List I5} {i : Nat} {w W W1 : World} {S f bs : Nat} {u : Value} {L : List Spn} {M : List Nat} {vE vA v v' : Value} {k : Nat} {l : List Int} (h : SpI p i w W S f bs u L M vE vA k) (hI : Its W bs v l) (g : Grew W W1 v v') : W1.cell? ⟨S, 1, none⟩ = some vE ∧ W1.cell? ⟨S, 2, none⟩ = some vA ∧ W1.frozen? ⟨S, 1, none⟩ = false ∧ W1.frozen? ⟨S, 2, none⟩ = false := by
  have s1 := (g.keeps.block _ (lt_of_block h.sp) (fun e => by have := (own_block hI.own e).2; have := h.lS; have := h.lf; omega)).trans h.sp
  exact ⟨by rw [cell_of_block s1]; rfl, by rw [cell_of_block s1]; rfl, frozen_of_block s1 1, frozen_of_block s1 2⟩
theorem SpI.mid {p : List I5} {i : Nat} {w W W1 : World} {S f bs : Nat} {u : Value} {L : List Spn} {M : List Nat} {vE vA v v' : Value} {k : Nat} {l : List Int} (h : SpI p i w W S f bs u L M vE vA k) (hI : Its W bs v l) (g : Grew W W1 v v') : Keeps (fun _ => False) w W1 ∧ Bn W1 f p.length M := by
  have lS := h.lS
  have lf := h.lf
  have lw := h.lw
  exact ⟨grew_keeps g h.kp hI (by omega), h.been.keeps g.keeps (fun e => by have := (own_block hI.own e).2; omega)⟩
end Go.Proofs.YtljapgoeomedkaaDoor
namespace Go.Proofs.YtljapgoeomedkaaDoor
open Go.RowKit Go.Shelf

theorem modeN_zero {p : List I5} {k : Nat} : (modeN p k = 0) ↔ (reachB p k false || reachB p k true) = false := by
  unfold modeN modeB
  cases reachB p k false <;> cases reachB p k true <;> simp
set_option maxRecDepth 100000 in
set_option maxHeartbeats 8000000 in
theorem rspans_any (v : Value) (p : List I5) (w : World) (h : InsAt w v p) : Calls Tryd.prog 14 #[v] w (SsPost p w) := by
  have MA := rmodes_any v p w h
  have HI : Hid (∀ X, Keeps (fun _ => False) w X → InsAt X v p) := fun X k => h.keeps k
  obtain ⟨⟨av, cap, rfl, -⟩, -, -⟩ := h
  go_enter Tryd.func14, Tryd.ntmps14
  go_wp2_with fail
  refine MA.mono ?_
  rintro e w1 ⟨mv, rfl, k1, hyes, hno⟩
  clear MA
  by_cases hv : (verd p).2 = 0
  · obtain ⟨hp, hl⟩ := verd_ok_len hv
    have HV : Hid ((verd p).2 = 0) := hv
    have hN := hyes hv
    rw [hv]
    obtain ⟨ma, mc, hm, -⟩ := hN w1 (Keeps.refl _ _)
    rw [List.length_map, List.length_range] at hm
    subst hm
    have HW : Hid (Keeps (fun _ => False) w w1 ∧ ∀ X, Keeps (fun _ => False) w1 X → NumAt X (.slice ma p.length mc) ((List.range p.length).map (modeN p))) := ⟨k1, fun X k => hN X (k.mono fun _ _ f => f.elim)⟩
    have S1 := Sps.nil w1
    clear hyes hno hv hN
    go_wp2_with fail
    go_loopw [6, 7] (fun u m wr => ∃ (i : Nat) (L : List Spn), m = .int .i64 i ∧ i ≤ p.length ∧ Hid (L.map Spn.pure = spnL p i ∧ Keeps (fun _ => False) w1 wr ∧ Sps wr w1.heap.size u L)) (fun _ m _ => p.length - (intOf m).toNat)
    case atStart => exact ⟨0, [], rfl, Nat.zero_le _, ⟨rfl, Keeps.refl _ _, S1⟩⟩
    case round =>
      clear S1
      obtain ⟨i, L, rfl, hk, hh⟩ := hrel
      obtain ⟨hM, hK, hS⟩ := hh.out
      obtain ⟨ub, uc, rfl⟩ := hS.form
      have hLl : L.length ≤ i := by
        have := congrArg List.length hM
        rw [List.length_map] at this
        rw [this]; exact spnL_len p i
      by_cases hlt : i < p.length
      · have hki : (i : Int) < p.length := by omega
        obtain ⟨⟨av', cap', hv, hc⟩, -, -⟩ := HI.out wr (HW.out.1.trans hK)
        cases hv
        obtain ⟨pg, po, rfl, d0, -, -, -, -⟩ := hc i hlt
        have h5 : p[i]'hlt = at5 p i := by simp [at5, hlt]
        rw [h5] at d0
        obtain ⟨ma', mc', hm, hmc⟩ := HW.out.2 wr hK
        rw [List.length_map, List.length_range] at hm
        cases hm
        obtain ⟨mg, mo, rfl, m0⟩ := hmc i (by simpa using hlt)
        rw [List.getElem_map, List.getElem_range] at m0
        clear hc h5 hmc
        by_cases hb : begB p i = true
        · obtain ⟨ho, hr, ht⟩ := beg_facts HV.out hlt hb
          have hr' := reachB_iff.2 hr
          have hmn : modeN p i = 1 := by unfold modeN modeB; rw [hr', ht]; rfl
          rw [hmn] at m0
          rw [ho] at d0
          obtain ⟨WS, hWS⟩ : ∃ W, W = wr.alloc (.cells #[.int .i64 i, .slice none 0 0, .slice none 0 0] 79) := ⟨_, rfl⟩
          have kX : Keeps (fun _ => False) wr WS := by rw [hWS]; exact (Keeps.refl (fun _ => False) wr).alloc _
          have hSp : WS.heap[wr.heap.size]? = some (.cells #[.int .i64 i, .slice none 0 0, .slice none 0 0] 79 (0, 0)) := by rw [hWS]; exact heap_alloc_new _ _
          have BA := rblock_any _ p _ (HI.out _ ((HW.out.1.trans hK).trans kX)) HV.out i hr ho
          rw [hWS] at BA
          have HBA : Hid (_) := BA
          have HX : Hid (L.map Spn.pure = spnL p i ∧ Keeps (fun _ => False) w1 wr ∧ Sps wr w1.heap.size (.slice ub L.length uc) L ∧ spnL p (i + 1) = spnL p i ++ [(i, castL (blkL p i 15), castL (blkL p i 16))] ∧ Keeps (fun _ => False) wr WS ∧ WS.heap[wr.heap.size]? = some (.cells #[.int .i64 i, .slice none 0 0, .slice none 0 0] 79 (0, 0)) ∧ WS.heap.size = wr.heap.size + 1) := ⟨hM, hK, hS, spnL_yes hb, kX, hSp, by rw [hWS]; simp⟩
          clear hh hM hK hS hb ho hr ht hr' hmn kX hSp BA
          go_wp2_with fail
          refine Calls.mono HBA.out ?_
          rw [← hWS]
          rintro e w2 ⟨f, M, rfl, hf, k2, hB, hbk⟩
          clear HBA hWS
          obtain ⟨hM, hK, hS, hN, kX, hSp, hsz⟩ := HX.out
          have I2 : SpI p i w1 w2 wr.heap.size f w2.heap.size (.slice ub L.length uc) L M (.slice none 0 0) (.slice none 0 0) 0 := ⟨(hK.trans kX).trans k2, (k2.block _ (lt_of_block hSp) (fun f => f)).trans hSp, hB, (hS.keeps kX).keeps k2, Its.nil w2, Its.nil w2, fun q hq => by simp [Value.ownBlock] at hq, by omega, hB.lt, fun x hx q hq => (hS.young x hx q hq).2, hK.size⟩
          have HY : Hid (L.map Spn.pure = spnL p i ∧ spnL p (i + 1) = spnL p i ++ [(i, castL (blkL p i 15), castL (blkL p i 16))] ∧ ∀ a, decide (a ∈ M) = blkB p i a) := ⟨hM, hN, hbk⟩
          clear hM hK hS hN kX hSp hsz HX k2 hB hbk d0 m0 hf
          generalize wr.heap.size = S at *
          generalize hbs : w2.heap.size = bs at I2
          clear hbs
          go_wp2_with fail
          go_loopw [10] (fun m wr' => ∃ (k : Nat) (vE vA : Value), m = .int .i64 k ∧ k ≤ p.length ∧ Hid (SpI p i w1 wr' S f bs (.slice ub L.length uc) L M vE vA k)) (fun m _ => p.length - (intOf m).toNat)
          case atStart => exact ⟨0, _, _, rfl, Nat.zero_le _, I2⟩
          case round =>
            clear I2
            obtain ⟨k, vE, vA, rfl, hkk, hh⟩ := hrel
            have hI := hh.out
            obtain ⟨f0, f1, f2, z1, z2⟩ := hI.facts
            obtain ⟨eb, en, ec, rfl⟩ : ∃ b n c, vE = .slice b n c := by
              obtain ⟨b, c, h⟩ := hI.ends.form
              exact ⟨_, _, _, h⟩
            obtain ⟨ab, an, ac, rfl⟩ : ∃ b n c, vA = .slice b n c := by
              obtain ⟨b, c, h⟩ := hI.aborts.form
              exact ⟨_, _, _, h⟩
            by_cases hkl : k < p.length
            · have hkl' : (k : Int) < p.length := by omega
              have cb := hI.been.cell hkl
              obtain ⟨⟨av', cap', hv, hc⟩, -, -⟩ := HI.out wr (HW.out.1.trans hI.kp)
              cases hv
              obtain ⟨pg', po', hpe, d0, -, -, -, -⟩ := hc k hkl
              cases hpe
              have h5 : p[k]'hkl = at5 p k := by simp [at5, hkl]
              rw [h5] at d0
              obtain ⟨⟨av', cap', hv, hc'⟩, -, -⟩ := HI.out w (Keeps.refl _ _)
              cases hv
              obtain ⟨pg', po', hpe, dw, -, -, -, -⟩ := hc' k hkl
              cases hpe
              have hpS : S ≠ pg := by
                have h1 := World.block_lt_of_cell? _ _ dw
                have h2 := HW.out.1.size
                have h3 := hI.lw
                simp at h1
                omega
              have hfS : S ≠ f := by have := hI.lS; omega
              have hbk := HY.out.2.2 k
              clear hc hc' dw
              by_cases hm : k ∈ M
              · rw [decide_eq_true hm] at cb
                have hbk' : blkB p i k = true := by rw [← hbk, decide_eq_true hm]
                by_cases o15 : (at5 p k).op = 15
                · obtain ⟨vE', W1, r1, I1, G1⟩ := hI.ends.push k (by have := blkK_len p i 15 k; omega)
                  have N1 := hI.note1 hbk' o15 I1 G1
                  obtain ⟨y1, -, y2, -⟩ := hI.still hI.ends G1
                  obtain ⟨kW, bW⟩ := hI.mid hI.ends G1
                  have cb' := bW.cell hkl
                  rw [decide_eq_true hm] at cb'
                  obtain ⟨⟨av', cap', hv, hc⟩, -, -⟩ := HI.out W1 (HW.out.1.trans kW)
                  cases hv
                  obtain ⟨pg', po', hpe, d0', -, -, -, -⟩ := hc k hkl
                  cases hpe
                  rw [h5, o15] at d0'
                  rw [o15] at d0
                  obtain ⟨eb', ln, ec', rfl⟩ : ∃ b n c, vE' = .slice b n c := by
                    obtain ⟨b, c, h⟩ := I1.form
                    exact ⟨_, _, _, h⟩
                  have HA : Hid (_ = _) := r1
                  have HN : Hid (_) := N1
                  clear hh hI N1 r1 I1 G1 kW bW hc h5 o15 hbk hbk' f0 f2 z2
                  go_wp2_with (at_builtin; refine wpList_append_run rfl _ _ 53 rfl rfl rfl HA.out ?_)
                  go_roundw
                  · exact ⟨k + 1, _, _, by simp, by omega, HN⟩
                  · simp [intOf]; omega
                · by_cases o16 : (at5 p k).op = 16
                  · obtain ⟨vA', W1, r1, I1, G1⟩ := hI.aborts.push k (by have := blkK_len p i 16 k; omega)
                    have N1 := hI.note2 hbk' o16 I1 G1
                    obtain ⟨-, y1, -, y2⟩ := hI.still hI.aborts G1
                    rw [o16] at d0
                    obtain ⟨eb', ln, ec', rfl⟩ : ∃ b n c, vA' = .slice b n c := by
                      obtain ⟨b, c, h⟩ := I1.form
                      exact ⟨_, _, _, h⟩
                    have HA : Hid (_ = _) := r1
                    have HN : Hid (_) := N1
                    clear hh hI N1 r1 I1 G1 h5 o15 o16 hbk hbk' f0 f1 z1
                    go_wp2_with (at_builtin; refine wpList_append_run rfl _ _ 53 rfl rfl rfl HA.out ?_)
                    go_roundw
                    · exact ⟨k + 1, _, _, by simp, by omega, HN⟩
                    · simp [intOf]; omega
                  · have m1 : ((at5 p k).op == 15) = false := by simp [o15]
                    have m2 : ((at5 p k).op == 16) = false := by simp [o16]
                    have HN : Hid (_) := hI.skip (fun _ => ⟨o15, o16⟩)
                    clear hh hI h5 o15 o16 hbk hbk' f0 f1 f2 z1 z2
                    go_wp2_with fail
                    go_roundw
                    · exact ⟨k + 1, _, _, by simp, by omega, HN⟩
                    · simp [intOf]; omega
              · rw [decide_eq_false hm] at cb
                have HN : Hid (_) := hI.skip (fun e => by rw [← hbk, decide_eq_false hm] at e; cases e)
                clear hh hI h5 hbk f0 f1 f2 z1 z2
                go_wp2_with fail
                go_roundw
                · exact ⟨k + 1, _, _, by simp, by omega, HN⟩
                · simp [intOf]; omega
            · have hkl' : ¬ (k : Int) < p.length := by omega
              obtain rfl : k = p.length := by omega
              obtain ⟨hM, hN, -⟩ := HY.out
              have lS := hI.lS
              have lf := hI.lf
              have lw := hI.lw
              have yg : ∀ x ∈ (Value.slice ub L.length uc) :: spB L, NoMeet x (.slice eb en ec) ∧ NoMeet x (.slice ab an ac) := fun x hx => by
                have h1 : ∀ q, x.ownBlock = some q → q < bs := fun q hq => by
                  have := hI.ly x hx q hq; omega
                exact ⟨hI.ends.far h1, hI.aborts.far h1⟩
              obtain ⟨v', W4, r1, S4, G4⟩ := hI.lst.push (Spn.mk i (castL (blkL p i 15)) (castL (blkL p i 16)) (.slice eb en ec) (.slice ab an ac)) (hI.ends.base_le (by omega)) (hI.aborts.base_le (by omega)) yg hI.a3 (by omega)
              dsimp only at r1
              have HA : Hid (_ = _) := r1
              have HR : Hid ((L ++ [(Spn.mk i (castL (blkL p i 15)) (castL (blkL p i 16)) (.slice eb en ec) (.slice ab an ac))]).map Spn.pure = spnL p (i + 1) ∧ Keeps (fun _ => False) w1 W4 ∧ Sps W4 w1.heap.size v' (L ++ [(Spn.mk i (castL (blkL p i 15)) (castL (blkL p i 16)) (.slice eb en ec) (.slice ab an ac))])) := ⟨by rw [hN, List.map_append, hM]; rfl, hI.lst.kept G4 hI.kp (Nat.le_refl _), S4⟩
              clear hh hI hM hN yg r1 S4 G4
              go_wp2_with (at_builtin; refine wpList_append_run rfl _ _ 28 rfl rfl rfl HA.out ?_)
              go_roundw
              · exact ⟨i + 1, _, by simp, by omega, HR⟩
              · simp [intOf]; omega
        · have hbf : begB p i = false := by simpa using hb
          have HR : Hid (L.map Spn.pure = spnL p (i + 1) ∧ Keeps (fun _ => False) w1 wr ∧ Sps wr w1.heap.size (.slice ub L.length uc) L) := ⟨by rw [spnL_no hbf]; exact hM, hK, hS⟩
          clear hh hM hK hS hb
          by_cases ho : (at5 p i).op = 12
          · rw [ho] at d0
            have hz : modeN p i = 0 := by
              rw [modeN_zero]
              unfold begB at hbf
              rw [ho] at hbf
              simpa using hbf
            rw [hz] at m0
            clear hbf ho hz
            go_wp2_with fail
            go_roundw
            · exact ⟨i + 1, _, by simp, by omega, HR⟩
            · simp [intOf]; omega
          · have m2 : ((at5 p i).op == 12) = false := by simp [ho]
            clear hbf
            go_wp2_with fail
            go_roundw
            · exact ⟨i + 1, _, by simp, by omega, HR⟩
            · simp [intOf]; omega
      · have hki : ¬ (i : Int) < p.length := by omega
        obtain rfl : i = p.length := by omega
        have HS : Hid (_) := hS
        clear hh hS
        go_wp2_with fail
        go_ret2
        exact ⟨_, L, by rw [HV.out]; rfl, HW.out.1.trans hK, HS.out.base_le HW.out.1.size, by rw [hM]; unfold spnP; rw [if_pos HV.out]⟩
  · obtain rfl := hno hv
    have hne : SsPost p w (.returned (.tuple #[.slice none 0 0, .int .i64 (verd p).2])) w1 := ⟨_, [], rfl, k1, ⟨⟨rfl, .inl ⟨rfl, rfl⟩⟩, k1.size, fun s hs => by simp at hs, by simp [spB]⟩, by unfold spnP; rw [if_neg hv]; rfl⟩
    generalize (verd p).2 = b at *
    have HN : Hid (_) := hne
    clear hyes hno hne
    go_wp2_with fail
    go_ret2
    exact HN.out
end Go.Proofs.YtljapgoeomedkaaDoor
