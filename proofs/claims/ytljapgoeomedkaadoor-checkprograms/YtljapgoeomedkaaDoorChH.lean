
/- Walks of look and Program (package check): what is wrong with a program. No statement of the seat is proved here. -/
import Derived.Test.YtljapgoeomedkaaDoorChG
import Derived.Test.YtljapgoeomedkaaDoorChC2
namespace Go.Proofs.YtljapgoeomedkaaDoor
open Go.RowKit Go.Shelf

theorem verd_count {p : List I5} (h : p.length < 1 ∨ 256 < p.length) : verd p = (-1, 200) := by
  unfold verd verdW; rw [if_pos h]
theorem verd_form {p : List I5} (h : ¬ (p.length < 1 ∨ 256 < p.length)) {k : Nat} (h1 : k < p.length) (h2 : formF p k = true) (h3 : ∀ j, j < k → formF p j = false) : verd p = ((k : Int), 201) := by
  unfold verd verdW; rw [if_neg h, firstK_some.2 ⟨h1, h2, h3⟩]
theorem verd_tgt {p : List I5} (h : ¬ (p.length < 1 ∨ 256 < p.length)) (hf : ∀ k, k < p.length → formF p k = false) {k : Nat} (h1 : k < p.length) (h2 : tgtF p k = true) (h3 : ∀ j, j < k → tgtF p j = false) : verd p = ((k : Int), 202) := by
  unfold verd verdW; rw [if_neg h, firstK_none.2 hf, firstK_some.2 ⟨h1, h2, h3⟩]
theorem verd_beh {p : List I5} (h : ¬ (p.length < 1 ∨ 256 < p.length)) (hf : ∀ k, k < p.length → formF p k = false) (ht : ∀ k, k < p.length → tgtF p k = false) (hwf : ∀ i ∈ p, i.wf) {s : Bool} {b : Nat} (h1 : Reach p (p.length - 1) s) (h2 : b ∈ folL (at5 p (p.length - 1)) (p.length - 1)) (h3 : p.length ≤ b) : verd p = (((p.length - 1 : Nat) : Int), 203) := by
  unfold verd verdW
  rw [if_neg h, firstK_none.2 hf, firstK_none.2 ht]
  have hk : firstK p.length (behF (reachB p) p) = some (p.length - 1) := by
    refine firstK_some.2 ⟨by omega, ?_, fun j hj => ?_⟩
    · unfold behF
      rw [Bool.and_eq_true, List.any_eq_true]
      refine ⟨?_, b, h2, by simpa using h3⟩
      cases s
      · rw [reachB_iff.2 h1]; rfl
      · rw [reachB_iff.2 h1]; simp
    · rcases hb : behF (reachB p) p j with _ | _
      · rfl
      · unfold behF at hb
        rw [Bool.and_eq_true, List.any_eq_true] at hb
        obtain ⟨_, c, hc, hle⟩ := hb
        have := stray ht hwf (by omega) (a := j) (b := c) (by omega) hc (by simpa using hle)
        omega
  rw [hk]
theorem verd_mod {p : List I5} (h : ¬ (p.length < 1 ∨ 256 < p.length)) (hf : ∀ k, k < p.length → formF p k = false) (ht : ∀ k, k < p.length → tgtF p k = false) (hb : ∀ k, k < p.length → behF (reachB p) p k = false) : verd p = (firstI p.length (modF (reachB p) p), if firstI p.length (modF (reachB p) p) = -1 then 0 else 204) := by
  unfold verd verdW
  rw [if_neg h, firstK_none.2 hf, firstK_none.2 ht, firstK_none.2 hb]
  unfold firstI
  rcases firstK p.length (modF (reachB p) p) with _ | k
  · simp
  · simp only
    rw [if_neg (by omega)]

theorem results_tc {fn : Func} {t p : Tmp} {ty : TypeId} (h : fn.results = #[.tmp t, .cell p ty]) (tmps : Array Value) (P : Program) (w : World) :
    (results fn tmps).run P w = ((asAddr (tmps.getD p undef)).run P w).andThen fun a w₁ => ((loadVar ty a).run P w₁).andThen fun v w₂ => .ok (.tuple #[tmps.getD t undef, v]) w₂ := by
  simp only [results, h]
  simp [Sem.run_bind, Result.andThen]
theorem size_wrong : (Tryd.prog.info? 40).map (·.size) = some 2 := by kernel_rfl
theorem wrong_ret2 {fn : Func} {t p : Tmp} (h : fn.results = #[.tmp t, .cell p 40]) (tmps : Array Value) (w : World) (b : Nat) (cs : Array Value) (hb : w.heap[b]? = some (.cells cs 40 (0, 0))) (hs : cs.size = 2)
    (hp : tmps.getD p undef = .pointer (some ⟨b, 0, none⟩)) : (results fn tmps).run Tryd.prog w = .ok (.tuple #[tmps.getD t undef, .agg cs]) w := by
  rw [results_tc h, hp]
  simp [asAddr, run_loadVar_row w b 40 40 cs (0, 0) _ hb Tryd.underlying40 rfl (by rw [size_wrong, hs]), Result.andThen]
theorem wrong_ret1 {fn : Func} {p : Tmp} (h : fn.results = #[.cell p 40]) (tmps : Array Value) (w : World) (b : Nat) (cs : Array Value) (hb : w.heap[b]? = some (.cells cs 40 (0, 0))) (hs : cs.size = 2)
    (hp : tmps.getD p undef = .pointer (some ⟨b, 0, none⟩)) : (results fn tmps).run Tryd.prog w = .ok (.agg cs) w :=
  results_cell_row h tmps w b 40 cs (0, 0) _ hp hb Tryd.underlying40 rfl (by rw [size_wrong, hs])
def wrV (a e : Int) : Array Value := #[.int .i64 a, .int .i64 e]
theorem wr_size (a e : Int) : (Tryd.prog.info? 40).map (·.size) = some (wrV a e).size := size_wrong
theorem wr_all (a e : Int) : (wrV a e).all (·.oneCell') = true := by simp [wrV, Value.oneCell']
theorem fine_any (w : World) : Calls Tryd.prog 42 #[] w fun e w' => e = .returned (.agg (wrV (-1) 0)) ∧ Keeps (fun _ => False) w w' := by
  have KA := (Keeps.refl (fun _ => False) w).alloc (.cells (wrV (-1) 0) 40)
  go_enter Tryd.func42, Tryd.ntmps42
  go_wp2_with fail
  refine bodyPost_ret (wrong_ret1 rfl _ _ w.heap.size _ (heap_alloc_new _ _) rfl rfl) rfl ?_
  exact ⟨rfl, KA⟩

/-- What look answers. -/
def LPost (p : List I5) (w : World) (e : Ending) (w' : World) : Prop := ∃ fv, e = .returned (.tuple #[fv, .agg (wrV (verd p).1 (verd p).2)]) ∧ Keeps (fun _ => False) w w' ∧
  ((verd p).2 = 0 → ∃ f, fv = .slice (some ⟨f, 0, none⟩) p.length p.length ∧ w.heap.size ≤ f ∧ Fnd w' f p.length (reachB p)) ∧ ((verd p).2 ≠ 0 → fv = .slice none 0 0)
theorem LPost.bad {p : List I5} {w w' : World} {a e : Int} (hv : verd p = (a, e)) (he : e ≠ 0) (k : Keeps (fun _ => False) w w') : LPost p w (.returned (.tuple #[.slice none 0 0, .agg (wrV a e)])) w' := by
  unfold LPost
  rw [hv]
  exact ⟨_, rfl, k, fun h => absurd h he, fun _ => rfl⟩

set_option maxRecDepth 100000 in
set_option maxHeartbeats 4000000 in
theorem look_any (v : Value) (p : List I5) (w : World) (h : InsAt w v p) (hG : Gb w) : Calls Tryd.prog 31 #[v] w (LPost p w) := by
  have HI : Hid (InsAt w v p) := h
  have HG : Hid (Gb w) := hG
  obtain ⟨⟨av, cap, rfl, hc⟩, hwf, hbig⟩ := h
  clear hc hG
  have A0 : (w.alloc (.cells (wrV 0 0) 40)).heap[w.heap.size]? = some (.cells (wrV 0 0) 40 (0, 0)) := heap_alloc_new _ _
  have KA := (Keeps.refl (fun _ => False) w).alloc (.cells (wrV 0 0) 40)
  unfold wrV at A0 KA
  by_cases hct : p.length < 1 ∨ 256 < p.length
  · by_cases h1 : (p.length : Int) < 1
    · go_enter Tryd.func31, Tryd.ntmps31
      go_wp2_with fail
      refine bodyPost_ret (wrong_ret2 rfl _ _ w.heap.size _ (heap_alloc_new _ _) rfl rfl) rfl ?_
      exact LPost.bad (verd_count hct) (by decide) ((Keeps.refl (fun _ => False) w).alloc (.cells (wrV (-1) 200) 40))
    · have h2 : (p.length : Int) > 256 := by omega
      go_enter Tryd.func31, Tryd.ntmps31
      go_wp2_with fail
      refine bodyPost_ret (wrong_ret2 rfl _ _ w.heap.size _ (heap_alloc_new _ _) rfl rfl) rfl ?_
      exact LPost.bad (verd_count hct) (by decide) ((Keeps.refl (fun _ => False) w).alloc (.cells (wrV (-1) 200) 40))
  · have h1 : ¬ (p.length : Int) < 1 := by omega
    have h2 : ¬ (p.length : Int) > 256 := by omega
    go_enter Tryd.func31, Tryd.ntmps31
    go_wp2_with fail
    go_loopw [24] (fun m wr => ∃ k : Nat, m = .int .i64 k ∧ k ≤ p.length ∧ Hid ((∀ j, j < k → formF p j = false) ∧ Keeps (fun _ => False) w wr ∧ wr.heap[w.heap.size]? = some (.cells #[.int .i64 0, .int .i64 0] 40 (0, 0)))) (fun m _ => p.length - (intOf m).toNat)
    case atStart => exact ⟨0, rfl, Nat.zero_le _, ⟨fun j hj => by omega, KA, A0⟩⟩
    case round =>
      clear A0 KA
      obtain ⟨k, rfl, hkl, hh⟩ := hrel
      by_cases hlt : k < p.length
      · obtain ⟨hM, hK, hB⟩ := hh.out
        have hki : (k : Int) < p.length := by omega
        obtain ⟨⟨av', cap', hv, hc⟩, -, -⟩ := HI.out.keeps hK
        cases hv
        obtain ⟨pg, po, rfl, d0, d1, d2, d3, d4⟩ := hc k hlt
        have h5 : p[k]'hlt = at5 p k := by simp [at5, hlt]
        rw [h5] at d0 d1 d2 d3 d4
        have FA := formed_any (at5 p k)
        have hfk : formF p k = !formedB (at5 p k) := rfl
        generalize hi : at5 p k = i at *
        obtain ⟨op, a, b, c, n⟩ := i
        dsimp only at d0 d1 d2 d3 d4
        have lp : pg < wr.heap.size := World.block_lt_of_cell? _ _ d0
        clear hc h5 hi
        rcases hfb : formedB ⟨op, a, b, c, n⟩ with _ | _
        · rw [hfb] at FA hfk
          have hv := verd_form hct hlt hfk hM
          clear hh hM hfk hfb
          go_wp2_with fail
          refine (FA _).mono ?_
          rintro e w1 ⟨rfl, k1⟩
          have K1 := (hK.alloc _).trans k1
          have B1 := ((((Keeps.refl (fun _ => False) wr).alloc _).trans k1).block _ (lt_of_block hB) (fun f => f)).trans hB
          clear FA d0 d1 d2 d3 d4 hK hB k1
          go_wp2_with (refine wpList_store_row rfl 40 _ _ rfl w.heap.size (wrV k 201) rfl rfl 40 _ B1 (wr_size _ _) rfl (wr_all _ _) ?_)
          refine bodyPost_ret (wrong_ret2 rfl _ _ w.heap.size (wrV k 201) (setRow_heap _ _ _ _ _ _ B1) rfl rfl) rfl ?_
          exact LPost.bad hv (by decide) (K1.row (Nat.le_refl _) _)
        · rw [hfb] at FA hfk
          have hM2 : Hid (∀ j, j < k + 1 → formF p j = false) := upto_more hM hfk
          clear hh hM hfk hfb
          go_wp2_with fail
          refine (FA _).mono ?_
          rintro e w1 ⟨rfl, k1⟩
          have K1 := (hK.alloc _).trans k1
          have B1 := ((((Keeps.refl (fun _ => False) wr).alloc _).trans k1).block _ (lt_of_block hB) (fun f => f)).trans hB
          clear FA d0 d1 d2 d3 d4 hK hB k1
          go_wp2_with fail
          go_roundw
          · exact ⟨k + 1, by simp, by omega, ⟨hM2.out, K1, B1⟩⟩
          · simp [intOf]; omega
      · have hki : ¬ (k : Int) < p.length := by omega
        obtain rfl : k = p.length := by omega
        obtain ⟨hFm, hK, hB⟩ := hh.out
        have HFm : Hid (∀ j, j < p.length → formF p j = false) := hFm
        clear hh hFm
        go_wp2_with fail
        go_loopw [37] (fun m wr => ∃ k : Nat, m = .int .i64 k ∧ k ≤ p.length ∧ Hid ((∀ j, j < k → tgtF p j = false) ∧ Keeps (fun _ => False) w wr ∧ wr.heap[w.heap.size]? = some (.cells #[.int .i64 0, .int .i64 0] 40 (0, 0)))) (fun m _ => p.length - (intOf m).toNat)
        case atStart => exact ⟨0, rfl, Nat.zero_le _, ⟨fun j hj => by omega, hK, hB⟩⟩
        case round =>
          clear hK hB
          obtain ⟨k, rfl, hkl, hh⟩ := hrel
          by_cases hlt : k < p.length
          · obtain ⟨hM, hK, hB⟩ := hh.out
            have hki : (k : Int) < p.length := by omega
            obtain ⟨⟨av', cap', hv, hc⟩, -, -⟩ := HI.out.keeps hK
            cases hv
            obtain ⟨pg, po, rfl, d0, d1, d2, d3, d4⟩ := hc k hlt
            have h5 : p[k]'hlt = at5 p k := by simp [at5, hlt]
            rw [h5] at d0 d1 d2 d3 d4
            have IN := info_any (at5 p k).op
            have htk : tgtF p k = (tgtB (at5 p k).op && decide ((p.length : Int) ≤ (at5 p k).n)) := rfl
            generalize hi : at5 p k = i at *
            obtain ⟨op, a, b, c, n⟩ := i
            dsimp only at d0 d1 d2 d3 d4 IN htk
            have lp : pg < wr.heap.size := World.block_lt_of_cell? _ _ d0
            clear hc h5 hi
            generalize tgtB op = tb at *
            go_wp2_with fail
            refine (IN _).mono ?_
            rintro e w1 ⟨⟨r, nb, rfl⟩, k1⟩
            have K1 := (hK.alloc (.cells #[.int .i64 op, .int .i64 a, .int .i64 b, .int .i64 c, .int .u64 n] 50)).trans k1
            have KW := ((Keeps.refl (fun _ => False) wr).alloc (.cells #[.int .i64 op, .int .i64 a, .int .i64 b, .int .i64 c, .int .u64 n] 50)).trans k1
            have B1 := (KW.block _ (lt_of_block hB) (fun f => f)).trans hB
            have P1 := (k1.block _ (by simp) (fun f => f)).trans (heap_alloc_new wr (.cells #[.int .i64 op, .int .i64 a, .int .i64 b, .int .i64 c, .int .u64 n] 50))
            have q4 : w1.cell? ⟨wr.heap.size, 4, none⟩ = some (.int .u64 n) := by rw [cell_of_block P1]; rfl
            have lq := lt_of_block P1
            have lB := lt_of_block B1
            have K2 := K1.alloc (.cells #[.int .i64 r, .bool nb, .bool tb, .bool (outB op), .bool (insB op)] 91)
            have B2 := (((Keeps.refl (fun _ => False) w1).alloc (.cells #[.int .i64 r, .bool nb, .bool tb, .bool (outB op), .bool (insB op)] 91)).block _ lB (fun f => f)).trans B1
            generalize outB op = ob at *
            generalize insB op = ib at *
            clear IN d0 d1 d2 d3 d4 hK hB k1 KW P1 K1 B1
            by_cases hn : (p.length : Int) ≤ n
            · have hng : n ≥ (p.length : Int) := hn
              rw [decide_eq_true hn] at htk
              cases tb
              · have hM2 : Hid (∀ j, j < k + 1 → tgtF p j = false) := upto_more hM htk
                clear hh hM htk
                go_wp2_with fail
                go_roundw
                · exact ⟨k + 1, by simp, by omega, ⟨hM2.out, K2, B2⟩⟩
                · simp [intOf]; omega
              · have hv := verd_tgt hct HFm.out hlt htk hM
                clear hh hM htk
                go_wp2_with (refine wpList_store_row rfl 40 _ _ rfl w.heap.size (wrV k 202) rfl rfl 40 _ B2 (wr_size _ _) rfl (wr_all _ _) ?_)
                refine bodyPost_ret (wrong_ret2 rfl _ _ w.heap.size (wrV k 202) (setRow_heap _ _ _ _ _ _ B2) rfl rfl) rfl ?_
                exact LPost.bad hv (by decide) (K2.row (Nat.le_refl _) _)
            · have hng : ¬ n ≥ (p.length : Int) := hn
              rw [decide_eq_false hn, Bool.and_false] at htk
              have hM2 : Hid (∀ j, j < k + 1 → tgtF p j = false) := upto_more hM htk
              clear hh hM htk
              cases tb
              · go_wp2_with fail
                go_roundw
                · exact ⟨k + 1, by simp, by omega, ⟨hM2.out, K2, B2⟩⟩
                · simp [intOf]; omega
              · go_wp2_with fail
                go_roundw
                · exact ⟨k + 1, by simp, by omega, ⟨hM2.out, K2, B2⟩⟩
                · simp [intOf]; omega
          · have hki : ¬ (k : Int) < p.length := by omega
            obtain rfl : k = p.length := by omega
            obtain ⟨hT, hK, hB⟩ := hh.out
            have hFm := HFm.out
            have IW := HI.out.keeps hK
            have HL : Hid (w.heap.size < wr.heap.size) := lt_of_block hB
            have SA := spread_any follow_any _ p wr IW (by omega) (by omega) hT
            have HT : Hid (∀ j, j < p.length → tgtF p j = false) := hT
            clear hh hFm hT IW
            go_wp2_with fail
            refine SA.mono ?_
            rintro e w1 ⟨f, x, rfl, hf, k1, hx⟩
            have K1 := hK.trans k1
            have B1 := (k1.block _ (lt_of_block hB) (fun f => f)).trans hB
            rcases hx with ⟨rfl, hF, hbh⟩ | ⟨hx, s, b, hr, hb, hle⟩
            · have MA := misplaced_any _ p f (reachB p) w1 (HI.out.keeps K1) (by omega) HFm.out hF (HG.out.keeps K1)
              have hv := verd_mod hct HFm.out HT.out hbh
              generalize hfi : firstI p.length (modF (reachB p) p) = q at *
              have HB : Hid (wr.heap.size ≤ f ∧ Keeps (fun _ => False) w wr) := ⟨hf, hK⟩
              clear SA hK hB k1 hfi
              go_wp2_with fail
              refine MA.mono ?_
              rintro e w2 ⟨rfl, k2⟩
              have K2 := K1.trans k2
              have B2 := (k2.block _ (lt_of_block B1) (fun f => f)).trans B1
              have F2 := hF.keeps k2 (fun f => f)
              by_cases hq : q = -1
              · subst hq
                clear MA k2 B1 K1 hF
                go_wp2_with fail
                refine (fine_any _).mono ?_
                rintro e w3 ⟨rfl, k3⟩
                have K3 := K2.trans k3
                have B3 := (k3.block _ (lt_of_block B2) (fun f => f)).trans B2
                have F3 := F2.keeps k3 (fun f => f)
                go_wp2_with (refine wpList_store_row rfl 40 _ _ rfl w.heap.size (wrV (-1) 0) rfl rfl 40 _ B3 (wr_size _ _) rfl (wr_all _ _) ?_)
                refine bodyPost_ret (wrong_ret2 rfl _ _ w.heap.size (wrV (-1) 0) (setRow_heap _ _ _ _ _ _ B3) rfl rfl) rfl ?_
                have hne : f ≠ w.heap.size := by
                  have := lt_of_block B3
                  have h1 := HB.out.1
                  intro e
                  have h2 := HL.out
                  omega
                unfold LPost
                rw [hv]
                refine ⟨_, rfl, K3.row (Nat.le_refl _) _, fun _ => ⟨f, rfl, Nat.le_trans HB.out.2.size HB.out.1, ?_⟩, fun h => absurd rfl h⟩
                obtain ⟨c, c1, c2, c3⟩ := F3
                exact ⟨c, (setRow_other _ _ _ _ hne).trans c1, c2, c3⟩
              · rw [if_neg hq] at hv
                clear MA k2 B1 K1 hF F2
                go_wp2_with (refine wpList_store_row rfl 40 _ _ rfl w.heap.size (wrV q 204) rfl rfl 40 _ B2 (wr_size _ _) rfl (wr_all _ _) ?_)
                refine bodyPost_ret (wrong_ret2 rfl _ _ w.heap.size (wrV q 204) (setRow_heap _ _ _ _ _ _ B2) rfl rfl) rfl ?_
                exact LPost.bad hv (by decide) (K2.row (Nat.le_refl _) _)
            · have hv := verd_beh hct HFm.out HT.out hwf hr hb hle
              rw [show ((p.length - 1 : Nat) : Int) = x by omega] at hv
              have hq : ¬ x = -1 := by omega
              clear SA hK hB k1 hr hb hle
              go_wp2_with (refine wpList_store_row rfl 40 _ _ rfl w.heap.size (wrV x 203) rfl rfl 40 _ B1 (wr_size _ _) rfl (wr_all _ _) ?_)
              refine bodyPost_ret (wrong_ret2 rfl _ _ w.heap.size (wrV x 203) (setRow_heap _ _ _ _ _ _ B1) rfl rfl) rfl ?_
              exact LPost.bad hv (by decide) (K1.row (Nat.le_refl _) _)
end Go.Proofs.YtljapgoeomedkaaDoor
