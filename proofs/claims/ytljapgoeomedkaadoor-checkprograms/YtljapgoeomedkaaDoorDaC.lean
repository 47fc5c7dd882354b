
/- Walks of the document's ways: what is wrong with them. No statement of the seat is proved here. -/
import Derived.Test.YtljapgoeomedkaaDoorDaB
import Derived.Test.YtljapgoeomedkaaDoorCiE
namespace Go.Proofs.YtljapgoeomedkaaDoor
open Go.RowKit Go.Shelf

theorem rwrong_any (a e : Int) (w : World) : Calls Tryd.prog 36 #[.int .i64 a, .int .i64 e] w fun r w' => r = .returned (.agg (wrV a e)) ∧ Keeps (fun _ => False) w w' := by
  have KA := (Keeps.refl (fun _ => False) w).alloc (.cells (wrV a e) 40)
  go_enter Tryd.func36, Tryd.ntmps36
  go_wp2_with fail
  refine bodyPost_ret (wrong_ret1 rfl _ _ w.heap.size _ (heap_alloc_new _ _) rfl rfl) rfl ?_
  exact ⟨rfl, KA⟩

/-- What is wrong with the ways. -/
noncomputable def wayV (p : List I5) : Int × Int := match firstK p.length (behF (reachB p) p) with
  | some k => (k, 203)
  | none => match firstK p.length (modF (reachB p) p) with
    | some k => (k, 204)
    | none => (-1, 0)
theorem wayV_beh {p : List I5} {k : Nat} (h1 : k < p.length) (h2 : behF (reachB p) p k = true) (h3 : ∀ j, j < k → behF (reachB p) p j = false) : wayV p = ((k : Int), 203) := by
  unfold wayV; rw [firstK_some.2 ⟨h1, h2, h3⟩]
theorem wayV_mod {p : List I5} (hb : ∀ j, j < p.length → behF (reachB p) p j = false) {k : Nat} (h1 : k < p.length) (h2 : modF (reachB p) p k = true) (h3 : ∀ j, j < k → modF (reachB p) p j = false) : wayV p = ((k : Int), 204) := by
  unfold wayV; rw [firstK_none.2 hb, firstK_some.2 ⟨h1, h2, h3⟩]
theorem wayV_ok {p : List I5} (hb : ∀ j, j < p.length → behF (reachB p) p j = false) (hm : ∀ j, j < p.length → modF (reachB p) p j = false) : wayV p = (-1, 0) := by
  unfold wayV; rw [firstK_none.2 hb, firstK_none.2 hm]
theorem verd_way {p : List I5} (h : ¬ (p.length < 1 ∨ 256 < p.length)) (hf : ∀ k, k < p.length → formF p k = false) (ht : ∀ k, k < p.length → tgtF p k = false) : verd p = wayV p := by
  unfold verd verdW wayV; rw [if_neg h, firstK_none.2 hf, firstK_none.2 ht]; rfl

theorem wayV_first {p : List I5} {R : Nat → Bool → Bool} (hR : reachB p = R) {k : Nat} (h1 : k < p.length) (h2 : behF R p k = true) (h3 : ∀ j, j < k → behF R p j = false) : wayV p = ((k : Int), 203) := by
  subst hR; exact wayV_beh h1 h2 h3
theorem wayV_modR {p : List I5} {R : Nat → Bool → Bool} (hR : reachB p = R) (hb : ∀ j, j < p.length → behF R p j = false) {k : Nat} (h1 : k < p.length) (h2 : modF R p k = true) (h3 : ∀ j, j < k → modF R p j = false) : wayV p = ((k : Int), 204) := by
  subst hR; exact wayV_mod hb h1 h2 h3
theorem wayV_okR {p : List I5} {R : Nat → Bool → Bool} (hR : reachB p = R) (hb : ∀ j, j < p.length → behF R p j = false) (hm : ∀ j, j < p.length → modF R p j = false) : wayV p = (-1, 0) := by
  subst hR; exact wayV_ok hb hm

set_option maxRecDepth 100000 in
set_option maxHeartbeats 8000000 in
theorem ways_any (v : Value) (p : List I5) (w : World) (h : InsAt w v p) (hp : 0 < p.length) (hl : p.length ≤ 256) (hf : ∀ k, k < p.length → formF p k = false) : Calls Tryd.prog 38 #[v] w fun e w' => e = .returned (.agg (wrV (wayV p).1 (wayV p).2)) ∧ Keeps (fun _ => False) w w' := by
  have HI : Hid (∀ X, Keeps (fun _ => False) w X → InsAt X v p) := fun X k => h.keeps k
  have HF : Hid (∀ k, k < p.length → formF p k = false) := hf
  obtain ⟨⟨av, cap, rfl, -⟩, -, -⟩ := h
  have A0 : (w.alloc (.cells (wrV 0 0) 40)).heap[w.heap.size]? = some (.cells (wrV 0 0) 40 (0, 0)) := heap_alloc_new _ _
  have KA := (Keeps.refl (fun _ => False) w).alloc (.cells (wrV 0 0) 40)
  have SP := rspread_any _ p _ (HI.out _ KA) hp hl
  unfold wrV at A0 KA SP
  clear hf
  go_enter Tryd.func38, Tryd.ntmps38
  go_wp2_with fail
  refine SP.mono ?_
  rintro e w1 ⟨f, rfl, hfw, k1, hF⟩
  have K1 := KA.trans k1
  have B1 := (k1.block _ (lt_of_block A0) (fun f => f)).trans A0
  generalize hRR0 : reachB p = R at *
  have HRR : Hid (reachB p = R) := hRR0
  clear hRR0
  clear SP A0 KA k1 hfw
  go_wp2_with fail
  go_loopw [4] (fun m wr => ∃ i : Nat, m = .int .i64 i ∧ i ≤ p.length ∧ Hid ((∀ j, j < i → behF R p j = false) ∧ Keeps (fun _ => False) w wr ∧ Fn3 wr f p.length R ∧ wr.heap[w.heap.size]? = some (.cells #[.int .i64 0, .int .i64 0] 40 (0, 0)))) (fun m _ => p.length - (intOf m).toNat)
  case atStart => exact ⟨0, rfl, Nat.zero_le _, ⟨fun j hj => by omega, K1, hF, B1⟩⟩
  case round =>
    clear K1 hF B1
    obtain ⟨i, rfl, hi, hh⟩ := hrel
    obtain ⟨hM, hK, hF, hB⟩ := hh.out
    by_cases hlt : i < p.length
    · have hii : (i : Int) < p.length := by omega
      have RF := rfollow2_any _ p i wr (HI.out wr hK) hlt
      have hbe : behF R p i = ((R i false || R i true) && (folL (at5 p i) i).any fun b => decide (p.length ≤ b)) := rfl
      have F2 := folL_len (at5 p i) i
      unfold HPost at RF
      generalize folL (at5 p i) i = F at *
      clear hh
      go_wp2_with fail
      refine RF.mono ?_
      rintro e w2 ⟨u, rfl, hN, k2⟩
      obtain ⟨ua, uc, hu, -⟩ := hN w2 (Keeps.refl _ _)
      rw [List.length_map] at hu
      subst hu
      have K2 := hK.trans k2
      have F22 := hF.keeps k2 (fun f => f)
      have B2 := (k2.block _ (lt_of_block hB) (fun f => f)).trans hB
      obtain ⟨c0, c1⟩ := F22.cell hlt
      have HN : Hid (NumSt wr.heap.size w2 (.slice ua F.length uc) (F.map fun (n : Nat) => (n : Int))) := hN
      obtain ⟨x, hx⟩ : ∃ x, R i false = x := ⟨_, rfl⟩
      obtain ⟨y, hy⟩ : ∃ y, R i true = y := ⟨_, rfl⟩
      rw [hx] at c0 hbe
      rw [hy] at c1 hbe
      have HX : Hid (Keeps (fun _ => False) w w2 ∧ Fn3 w2 f p.length R ∧ (∀ j, j < i → behF R p j = false)) := ⟨K2, F22, hM⟩
      clear RF hK hF hB k2 hN K2 F22 hM hx hy
      go_wp2_with fail
      go_loopw [6] (fun m wq => ∃ k : Nat, m = .int .i64 k ∧ k ≤ F.length ∧ wq = w2 ∧ Hid ((x || y) = true → ∀ b ∈ F.take k, b < p.length)) (fun m _ => F.length - (intOf m).toNat)
      case atStart => exact ⟨0, rfl, Nat.zero_le _, rfl, fun _ b hb => by simp at hb⟩
      case round =>
        obtain ⟨k, rfl, hk, rfl, hq⟩ := hrel
        by_cases hkl : k < F.length
        · have hki : (k : Int) < F.length := by omega
          obtain ⟨ua', uc', hu, hc⟩ := HN.out _ (Keeps.refl _ _)
          rw [List.length_map] at hu
          cases hu
          obtain ⟨ug, uo, rfl, x0⟩ := hc k (by simpa using hkl)
          simp only [List.getElem_map] at x0
          have hbF := List.getElem_mem hkl
          have hTk := List.take_succ_eq_append_getElem hkl
          generalize F[k]'hkl = z at *
          clear hc
          by_cases hz : p.length ≤ z
          · have hzi : (z : Int) ≥ p.length := by omega
            have hany : (F.any fun b => decide (p.length ≤ b)) = true := List.any_eq_true.2 ⟨z, hbF, by simpa using hz⟩
            rw [hany, Bool.and_true] at hbe
            rcases hxy : (x || y) with _ | _
            · have HQ : Hid ((x || y) = true → ∀ b ∈ F.take (k + 1), b < p.length) := fun e => by rw [hxy] at e; cases e
              have hx : x = false := by cases x; rfl; cases y <;> simp at hxy
              have hy : y = false := by cases y; rfl; rw [hx] at hxy; simp at hxy
              subst hx hy
              clear hq hxy hbe hTk
              go_wp2_with fail
              go_roundw
              · exact ⟨k + 1, by simp, by omega, by first | rfl | trivial, HQ.out⟩
              · simp [intOf]; omega
            · rw [hxy] at hbe
              have hv := wayV_first HRR.out hlt hbe HX.out.2.2
              have RW := rwrong_any i 203
              have KX := HX.out.1
              clear hq hTk HX hbe
              cases x
              · have hy : y = true := by simpa using hxy
                subst hy
                clear hxy
                go_wp2_with fail
                refine (RW _).mono ?_
                rintro e w3 ⟨rfl, k3⟩
                have K3 := KX.trans k3
                have B3 := (k3.block _ (lt_of_block B2) (fun f => f)).trans B2
                go_wp2_with (refine wpList_store_row rfl 40 _ _ rfl w.heap.size (wrV i 203) rfl rfl 40 _ B3 (wr_size _ _) rfl (wr_all _ _) ?_)
                refine bodyPost_ret (wrong_ret1 rfl _ _ w.heap.size (wrV i 203) (setRow_heap _ _ _ _ _ _ B3) rfl rfl) rfl ?_
                exact ⟨by rw [hv], K3.row (Nat.le_refl _) _⟩
              · clear hxy
                cases y
                · go_wp2_with fail
                  refine (RW _).mono ?_
                  rintro e w3 ⟨rfl, k3⟩
                  have K3 := KX.trans k3
                  have B3 := (k3.block _ (lt_of_block B2) (fun f => f)).trans B2
                  go_wp2_with (refine wpList_store_row rfl 40 _ _ rfl w.heap.size (wrV i 203) rfl rfl 40 _ B3 (wr_size _ _) rfl (wr_all _ _) ?_)
                  refine bodyPost_ret (wrong_ret1 rfl _ _ w.heap.size (wrV i 203) (setRow_heap _ _ _ _ _ _ B3) rfl rfl) rfl ?_
                  exact ⟨by rw [hv], K3.row (Nat.le_refl _) _⟩
                · go_wp2_with fail
                  refine (RW _).mono ?_
                  rintro e w3 ⟨rfl, k3⟩
                  have K3 := KX.trans k3
                  have B3 := (k3.block _ (lt_of_block B2) (fun f => f)).trans B2
                  go_wp2_with (refine wpList_store_row rfl 40 _ _ rfl w.heap.size (wrV i 203) rfl rfl 40 _ B3 (wr_size _ _) rfl (wr_all _ _) ?_)
                  refine bodyPost_ret (wrong_ret1 rfl _ _ w.heap.size (wrV i 203) (setRow_heap _ _ _ _ _ _ B3) rfl rfl) rfl ?_
                  exact ⟨by rw [hv], K3.row (Nat.le_refl _) _⟩
          · have hzi : ¬ (z : Int) ≥ p.length := by omega
            have HQ : Hid ((x || y) = true → ∀ b ∈ F.take (k + 1), b < p.length) := fun e b hb => by
              rw [hTk] at hb
              rcases List.mem_append.1 hb with hb | hb
              · exact hq.out e b hb
              · simp at hb; omega
            clear hq hTk
            cases x <;> cases y
            · go_wp2_with fail
              go_roundw
              · exact ⟨k + 1, by simp, by omega, by first | rfl | trivial, HQ.out⟩
              · simp [intOf]; omega
            · go_wp2_with fail
              go_roundw
              · exact ⟨k + 1, by simp, by omega, by first | rfl | trivial, HQ.out⟩
              · simp [intOf]; omega
            · go_wp2_with fail
              go_roundw
              · exact ⟨k + 1, by simp, by omega, by first | rfl | trivial, HQ.out⟩
              · simp [intOf]; omega
            · go_wp2_with fail
              go_roundw
              · exact ⟨k + 1, by simp, by omega, by first | rfl | trivial, HQ.out⟩
              · simp [intOf]; omega
        · have hki : ¬ (k : Int) < F.length := by omega
          obtain rfl : k = F.length := by omega
          rw [List.take_length] at hq
          have hb0 : behF R p i = false := by
            rw [hbe]
            rcases hxy : (x || y) with _ | _
            · rfl
            · simp only [Bool.true_and, List.any_eq_false, decide_eq_true_eq]
              intro b hb
              have := hq.out hxy b hb
              omega
          obtain ⟨KX, FX, MX⟩ := HX.out
          have HR : Hid ((∀ j, j < i + 1 → behF R p j = false) ∧ Keeps (fun _ => False) w wr ∧ Fn3 wr f p.length R ∧ wr.heap[w.heap.size]? = some (.cells #[.int .i64 0, .int .i64 0] 40 (0, 0))) := ⟨upto_more MX hb0, KX, FX, B2⟩
          clear HX hb0 KX FX MX hq hbe
          go_wp2_with fail
          go_roundw
          · exact ⟨i + 1, by simp, by omega, HR.out⟩
          · simp [intOf]; omega
    · have hii : ¬ (i : Int) < p.length := by omega
      obtain rfl : i = p.length := by omega
      have HBE : Hid (∀ j, j < p.length → behF R p j = false) := hM
      clear hh hM
      go_wp2_with fail
      go_loopw [7] (fun m wr => ∃ i : Nat, m = .int .i64 i ∧ i ≤ p.length ∧ Hid ((∀ j, j < i → modF R p j = false) ∧ Keeps (fun _ => False) w wr ∧ Fn3 wr f p.length R ∧ wr.heap[w.heap.size]? = some (.cells #[.int .i64 0, .int .i64 0] 40 (0, 0)))) (fun m _ => p.length - (intOf m).toNat)
      case atStart => exact ⟨0, rfl, Nat.zero_le _, ⟨fun j hj => by omega, hK, hF, hB⟩⟩
      case round =>
        clear hK hF hB
        obtain ⟨i, rfl, hi, hh⟩ := hrel
        obtain ⟨hM, hK, hF, hB⟩ := hh.out
        by_cases hlt : i < p.length
        · have hii : (i : Int) < p.length := by omega
          have hmk : modF R p i = ((R i false && R i true) || (R i false && !outB (at5 p i).op) || (R i true && !insB (at5 p i).op)) := rfl
          have hff := formed_facts (i := at5 p i) (by simpa [formF] using HF.out i hlt)
          obtain ⟨⟨av', cap', hv, hc⟩, -, -⟩ := HI.out wr hK
          cases hv
          obtain ⟨pg, po, rfl, d0, -, -, -, -⟩ := hc i hlt
          have h5 : p[i]'hlt = at5 p i := by simp [at5, hlt]
          rw [h5] at d0
          generalize hop : (at5 p i).op = op at *
          obtain ⟨⟨q0, q1⟩, -⟩ := hff
          have IN := rinfo_yes op q0 q1
          clear hc h5 hop
          generalize outB op = o at *
          generalize insB op = n at *
          generalize regsN op = r1 at *
          generalize numB op = r2 at *
          generalize tgtB op = r3 at *
          go_wp2_with fail
          refine (IN _).mono ?_
          rintro e w2 ⟨rfl, k2⟩
          have KX := (hK.trans k2).alloc (.cells #[.int .i64 (r1 : Nat), .bool r2, .bool r3, .bool o, .bool n] 91)
          have kk := k2.alloc (.cells #[.int .i64 (r1 : Nat), .bool r2, .bool r3, .bool o, .bool n] 91)
          have FX := hF.keeps kk (fun f => f)
          have BX := (kk.block _ (lt_of_block hB) (fun f => f)).trans hB
          obtain ⟨c0, c1⟩ := (hF.keeps k2 (fun f => f)).cell hlt
          have lf := (hF.keeps k2 (fun f => f)).lt
          obtain ⟨x, hx⟩ : ∃ x, R i false = x := ⟨_, rfl⟩
          obtain ⟨y, hy⟩ : ∃ y, R i true = y := ⟨_, rfl⟩
          rw [hx] at c0 hmk
          rw [hy] at c1 hmk
          have HX : Hid (Keeps (fun _ => False) w (w2.alloc (.cells #[.int .i64 (r1 : Nat), .bool r2, .bool r3, .bool o, .bool n] 91)) ∧ Fn3 (w2.alloc (.cells #[.int .i64 (r1 : Nat), .bool r2, .bool r3, .bool o, .bool n] 91)) f p.length R ∧ (w2.alloc (.cells #[.int .i64 (r1 : Nat), .bool r2, .bool r3, .bool o, .bool n] 91)).heap[w.heap.size]? = some (.cells #[.int .i64 0, .int .i64 0] 40 (0, 0)) ∧ (∀ j, j < i → modF R p j = false)) := ⟨KX, FX, BX, hM⟩
          clear IN hh hK hF hB k2 kk KX FX BX hM hx hy d0
          go_wp2_with fail
          go_quiet (fail)
          rcases Bool.eq_false_or_eq_true x with rfl | rfl <;> rcases Bool.eq_false_or_eq_true y with rfl | rfl <;> rcases Bool.eq_false_or_eq_true o with rfl | rfl <;> rcases Bool.eq_false_or_eq_true n with rfl | rfl
          · have hv := wayV_modR HRR.out HBE.out hlt hmk HX.out.2.2.2
            have RW := rwrong_any i 204
            go_wp2_with fail
            refine (RW _).mono ?_
            rintro e w3 ⟨rfl, k3⟩
            have K3 := (HX.out.1.drewN _).trans k3
            have B3 := (k3.block _ (lt_of_block HX.out.2.2.1) (fun f => f)).trans HX.out.2.2.1
            go_wp2_with (refine wpList_store_row rfl 40 _ _ rfl w.heap.size (wrV i 204) rfl rfl 40 _ B3 (wr_size _ _) rfl (wr_all _ _) ?_)
            refine bodyPost_ret (wrong_ret1 rfl _ _ w.heap.size (wrV i 204) (setRow_heap _ _ _ _ _ _ B3) rfl rfl) rfl ?_
            exact ⟨by rw [hv], K3.row (Nat.le_refl _) _⟩
          · have hv := wayV_modR HRR.out HBE.out hlt hmk HX.out.2.2.2
            have RW := rwrong_any i 204
            go_wp2_with fail
            refine (RW _).mono ?_
            rintro e w3 ⟨rfl, k3⟩
            have K3 := (HX.out.1.drewN _).trans k3
            have B3 := (k3.block _ (lt_of_block HX.out.2.2.1) (fun f => f)).trans HX.out.2.2.1
            go_wp2_with (refine wpList_store_row rfl 40 _ _ rfl w.heap.size (wrV i 204) rfl rfl 40 _ B3 (wr_size _ _) rfl (wr_all _ _) ?_)
            refine bodyPost_ret (wrong_ret1 rfl _ _ w.heap.size (wrV i 204) (setRow_heap _ _ _ _ _ _ B3) rfl rfl) rfl ?_
            exact ⟨by rw [hv], K3.row (Nat.le_refl _) _⟩
          · have hv := wayV_modR HRR.out HBE.out hlt hmk HX.out.2.2.2
            have RW := rwrong_any i 204
            go_wp2_with fail
            refine (RW _).mono ?_
            rintro e w3 ⟨rfl, k3⟩
            have K3 := (HX.out.1.drewN _).trans k3
            have B3 := (k3.block _ (lt_of_block HX.out.2.2.1) (fun f => f)).trans HX.out.2.2.1
            go_wp2_with (refine wpList_store_row rfl 40 _ _ rfl w.heap.size (wrV i 204) rfl rfl 40 _ B3 (wr_size _ _) rfl (wr_all _ _) ?_)
            refine bodyPost_ret (wrong_ret1 rfl _ _ w.heap.size (wrV i 204) (setRow_heap _ _ _ _ _ _ B3) rfl rfl) rfl ?_
            exact ⟨by rw [hv], K3.row (Nat.le_refl _) _⟩
          · have hv := wayV_modR HRR.out HBE.out hlt hmk HX.out.2.2.2
            have RW := rwrong_any i 204
            go_wp2_with fail
            refine (RW _).mono ?_
            rintro e w3 ⟨rfl, k3⟩
            have K3 := (HX.out.1.drewN _).trans k3
            have B3 := (k3.block _ (lt_of_block HX.out.2.2.1) (fun f => f)).trans HX.out.2.2.1
            go_wp2_with (refine wpList_store_row rfl 40 _ _ rfl w.heap.size (wrV i 204) rfl rfl 40 _ B3 (wr_size _ _) rfl (wr_all _ _) ?_)
            refine bodyPost_ret (wrong_ret1 rfl _ _ w.heap.size (wrV i 204) (setRow_heap _ _ _ _ _ _ B3) rfl rfl) rfl ?_
            exact ⟨by rw [hv], K3.row (Nat.le_refl _) _⟩
          · have HR : Hid (∀ j, j < i + 1 → modF R p j = false) := upto_more HX.out.2.2.2 hmk
            go_wp2_with fail
            go_roundw
            · exact ⟨i + 1, by simp, by omega, ⟨HR.out, HX.out.1.drewN _, HX.out.2.1.keeps ((Keeps.refl (fun _ => False) _).drewN _) (fun f => f), HX.out.2.2.1⟩⟩
            · simp [intOf]; omega
          · have HR : Hid (∀ j, j < i + 1 → modF R p j = false) := upto_more HX.out.2.2.2 hmk
            go_wp2_with fail
            go_roundw
            · exact ⟨i + 1, by simp, by omega, ⟨HR.out, HX.out.1.drewN _, HX.out.2.1.keeps ((Keeps.refl (fun _ => False) _).drewN _) (fun f => f), HX.out.2.2.1⟩⟩
            · simp [intOf]; omega
          · have hv := wayV_modR HRR.out HBE.out hlt hmk HX.out.2.2.2
            have RW := rwrong_any i 204
            go_wp2_with fail
            refine (RW _).mono ?_
            rintro e w3 ⟨rfl, k3⟩
            have K3 := (HX.out.1.drewN _).trans k3
            have B3 := (k3.block _ (lt_of_block HX.out.2.2.1) (fun f => f)).trans HX.out.2.2.1
            go_wp2_with (refine wpList_store_row rfl 40 _ _ rfl w.heap.size (wrV i 204) rfl rfl 40 _ B3 (wr_size _ _) rfl (wr_all _ _) ?_)
            refine bodyPost_ret (wrong_ret1 rfl _ _ w.heap.size (wrV i 204) (setRow_heap _ _ _ _ _ _ B3) rfl rfl) rfl ?_
            exact ⟨by rw [hv], K3.row (Nat.le_refl _) _⟩
          · have hv := wayV_modR HRR.out HBE.out hlt hmk HX.out.2.2.2
            have RW := rwrong_any i 204
            go_wp2_with fail
            refine (RW _).mono ?_
            rintro e w3 ⟨rfl, k3⟩
            have K3 := (HX.out.1.drewN _).trans k3
            have B3 := (k3.block _ (lt_of_block HX.out.2.2.1) (fun f => f)).trans HX.out.2.2.1
            go_wp2_with (refine wpList_store_row rfl 40 _ _ rfl w.heap.size (wrV i 204) rfl rfl 40 _ B3 (wr_size _ _) rfl (wr_all _ _) ?_)
            refine bodyPost_ret (wrong_ret1 rfl _ _ w.heap.size (wrV i 204) (setRow_heap _ _ _ _ _ _ B3) rfl rfl) rfl ?_
            exact ⟨by rw [hv], K3.row (Nat.le_refl _) _⟩
          · have HR : Hid (∀ j, j < i + 1 → modF R p j = false) := upto_more HX.out.2.2.2 hmk
            go_wp2_with fail
            go_roundw
            · exact ⟨i + 1, by simp, by omega, ⟨HR.out, HX.out.1.drewN _, HX.out.2.1.keeps ((Keeps.refl (fun _ => False) _).drewN _) (fun f => f), HX.out.2.2.1⟩⟩
            · simp [intOf]; omega
          · have hv := wayV_modR HRR.out HBE.out hlt hmk HX.out.2.2.2
            have RW := rwrong_any i 204
            go_wp2_with fail
            refine (RW _).mono ?_
            rintro e w3 ⟨rfl, k3⟩
            have K3 := (HX.out.1.drewN _).trans k3
            have B3 := (k3.block _ (lt_of_block HX.out.2.2.1) (fun f => f)).trans HX.out.2.2.1
            go_wp2_with (refine wpList_store_row rfl 40 _ _ rfl w.heap.size (wrV i 204) rfl rfl 40 _ B3 (wr_size _ _) rfl (wr_all _ _) ?_)
            refine bodyPost_ret (wrong_ret1 rfl _ _ w.heap.size (wrV i 204) (setRow_heap _ _ _ _ _ _ B3) rfl rfl) rfl ?_
            exact ⟨by rw [hv], K3.row (Nat.le_refl _) _⟩
          · have HR : Hid (∀ j, j < i + 1 → modF R p j = false) := upto_more HX.out.2.2.2 hmk
            go_wp2_with fail
            go_roundw
            · exact ⟨i + 1, by simp, by omega, ⟨HR.out, HX.out.1.drewN _, HX.out.2.1.keeps ((Keeps.refl (fun _ => False) _).drewN _) (fun f => f), HX.out.2.2.1⟩⟩
            · simp [intOf]; omega
          · have hv := wayV_modR HRR.out HBE.out hlt hmk HX.out.2.2.2
            have RW := rwrong_any i 204
            go_wp2_with fail
            refine (RW _).mono ?_
            rintro e w3 ⟨rfl, k3⟩
            have K3 := (HX.out.1.drewN _).trans k3
            have B3 := (k3.block _ (lt_of_block HX.out.2.2.1) (fun f => f)).trans HX.out.2.2.1
            go_wp2_with (refine wpList_store_row rfl 40 _ _ rfl w.heap.size (wrV i 204) rfl rfl 40 _ B3 (wr_size _ _) rfl (wr_all _ _) ?_)
            refine bodyPost_ret (wrong_ret1 rfl _ _ w.heap.size (wrV i 204) (setRow_heap _ _ _ _ _ _ B3) rfl rfl) rfl ?_
            exact ⟨by rw [hv], K3.row (Nat.le_refl _) _⟩
          · have HR : Hid (∀ j, j < i + 1 → modF R p j = false) := upto_more HX.out.2.2.2 hmk
            go_wp2_with fail
            go_roundw
            · exact ⟨i + 1, by simp, by omega, ⟨HR.out, HX.out.1.drewN _, HX.out.2.1.keeps ((Keeps.refl (fun _ => False) _).drewN _) (fun f => f), HX.out.2.2.1⟩⟩
            · simp [intOf]; omega
          · have HR : Hid (∀ j, j < i + 1 → modF R p j = false) := upto_more HX.out.2.2.2 hmk
            go_wp2_with fail
            go_roundw
            · exact ⟨i + 1, by simp, by omega, ⟨HR.out, HX.out.1.drewN _, HX.out.2.1.keeps ((Keeps.refl (fun _ => False) _).drewN _) (fun f => f), HX.out.2.2.1⟩⟩
            · simp [intOf]; omega
          · have HR : Hid (∀ j, j < i + 1 → modF R p j = false) := upto_more HX.out.2.2.2 hmk
            go_wp2_with fail
            go_roundw
            · exact ⟨i + 1, by simp, by omega, ⟨HR.out, HX.out.1.drewN _, HX.out.2.1.keeps ((Keeps.refl (fun _ => False) _).drewN _) (fun f => f), HX.out.2.2.1⟩⟩
            · simp [intOf]; omega
          · have HR : Hid (∀ j, j < i + 1 → modF R p j = false) := upto_more HX.out.2.2.2 hmk
            go_wp2_with fail
            go_roundw
            · exact ⟨i + 1, by simp, by omega, ⟨HR.out, HX.out.1.drewN _, HX.out.2.1.keeps ((Keeps.refl (fun _ => False) _).drewN _) (fun f => f), HX.out.2.2.1⟩⟩
            · simp [intOf]; omega
        · have hii : ¬ (i : Int) < p.length := by omega
          obtain rfl : i = p.length := by omega
          have hv := wayV_okR HRR.out HBE.out hM
          have RW := rwrong_any (-1) 0
          clear hh hM
          go_wp2_with fail
          refine (RW _).mono ?_
          rintro e w3 ⟨rfl, k3⟩
          have K3 := hK.trans k3
          have B3 := (k3.block _ (lt_of_block hB) (fun f => f)).trans hB
          go_wp2_with (refine wpList_store_row rfl 40 _ _ rfl w.heap.size (wrV (-1) 0) rfl rfl 40 _ B3 (wr_size _ _) rfl (wr_all _ _) ?_)
          refine bodyPost_ret (wrong_ret1 rfl _ _ w.heap.size (wrV (-1) 0) (setRow_heap _ _ _ _ _ _ B3) rfl rfl) rfl ?_
          exact ⟨by rw [hv], K3.row (Nat.le_refl _) _⟩
end Go.Proofs.YtljapgoeomedkaaDoor
