/-
  The law CellsMeanwhile returns true for every slice of words and every slice of cells, and leaves all that was there as it was: no condition.
-/
import Derived.Test.YtmffkcbdgpaieaaOpen
import Derived.Test.YtmffkcbdgpaieaaMeanA
namespace Go.Proofs.Ytmffkcbdgpaieaa
open Go.ChangeShapes Go.WideShapes Go.ChangeAt Go.RowKit

set_option maxRecDepth 100000 in
set_option maxHeartbeats 1000000 in
theorem meanwhile_no (sp sp1 : Option Addr) (l c l1 c1 : Nat) (ws : List Int) (w : World) (hn : ws.length = l) (hr : Reads w sp ws) (h0 : sp = none → c = 0) (hb : l * 8 ≤ 140737488351232) (hl : l < 1 ∨ 65536 < l) :
    Calls Try.prog 4 #[.slice sp l c, .slice sp1 l1 c1] w fun e w' => e = .returned (.bool true) ∧ Below w.heap.size w w' := by
  have H0 : Hid (sp = none → c = 0) := h0
  have HB : Hid (l * 8 ≤ 140737488351232) := hb
  have HN : Hid (ws.length = l) := hn
  have HL : Hid (l < 1 ∨ 65536 < l) := hl
  clear h0 hb hn hl
  have k0 : Below w.heap.size w ((w.alloc (.cells #[.slice sp1 l1 c1] 49)).alloc (.cells #[.bool false] 4)) := ((Below.refl _ w).alloc (Nat.le_refl _) _).alloc (by simp) _
  have a1 := alloc_block (w.alloc (.cells #[.slice sp1 l1 c1] 49)) (.cells #[.bool false] 4)
  rw [World.size_alloc] at a1
  go_enter Try.func4, Try.ntmps4
  go_wp2_with fail
  refine (lent_any sp l c ws _ HN.out (hr.below k0) H0.out HB.out).mono ?_
  generalize (w.alloc (.cells #[.slice sp1 l1 c1] 49)).alloc (.cells #[.bool false] 4) = W0 at k0 a1 ⊢
  rintro e w1 ⟨g, gcap, rfl, hg, hL, k1⟩
  replace a1 := (k1.block _ (lt_of_block a1) (fun f => f)).trans a1
  replace k0 := keepsB k0 k1
  clear k1 hL
  go_wp2_with fail
  refine (of_no _ l _ _ HL.out).mono ?_
  rintro e w2 ⟨rfl, hw2⟩
  subst hw2
  have a2 := alloc_old a1 (.cells #[.pointer none] 25)
  have t2 := alloc_block w2 (.cells #[.pointer none] 25)
  have k2 := k0.alloc k0.size (.cells #[.pointer none] 25)
  go_wp2_with fail
  refine (rof_no sp l c _ HL.out).mono ?_
  have hz : (w2.alloc (.cells #[.pointer none] 25)).heap.size = w2.heap.size + 1 := by simp
  generalize w2.alloc (.cells #[.pointer none] 25) = W3 at a2 t2 k2 hz ⊢
  rintro e w3 ⟨rfl, hw3⟩
  subst hw3
  have a3 := alloc_old a2 (.cells #[.pointer none] 30)
  have t3 := alloc_old t2 (.cells #[.pointer none] 30)
  have r3 := alloc_block w3 (.cells #[.pointer none] 30)
  have k3 := k2.alloc k2.size (.cells #[.pointer none] 30)
  have c1' : (w3.alloc (.cells #[.pointer none] 30)).cell? ⟨w2.heap.size, 0, none⟩ = some (.pointer none) := cell_of_block t3 0
  have c2' : (w3.alloc (.cells #[.pointer none] 30)).cell? ⟨w3.heap.size, 0, none⟩ = some (.pointer none) := cell_of_block r3 0
  go_wp2_with (go_at_call 13; refine (num_any _ _).mono ?_; rintro e w' ⟨rfl, rfl⟩)
  refine (known_any _).mono ?_
  rintro e w5 ⟨rfl, k5⟩
  have a5 := (k5.block _ (lt_of_block a3) (fun f => f)).trans a3
  have ac : w5.cell? ⟨w.heap.size + 1, 0, none⟩ = some (.bool false) := cell_of_block a5 0
  have af := frozen_of_block a5 0
  have k6 := (keepsB k3 k5).setCell (p := ⟨w.heap.size + 1, 0, none⟩) (by simp) (.bool true)
  have a6 := cell_of_block (block_set a5 0 (.bool true)) 0
  go_wp2_with fail
  exact bodyPost_ret (v := .bool true) (by simp [results, Try.results4, go_sem, a6]) rfl ⟨rfl, k6⟩

theorem meanwhile_any (sp sp1 : Option Addr) (l c l1 c1 : Nat) (ws : List Int) (cs : List (Int × Int)) (w : World) (hn : ws.length = l) (hr : Reads w sp ws) (h0 : sp = none → c = 0) (hb : l * 8 ≤ 140737488351232)
    (hn1 : cs.length = l1) (hp1 : Pairs w sp1 cs) (hb1 : l1 * 16 ≤ 140737488351232)
    (hw1 : ∀ x ∈ cs, (0 ≤ x.1 ∧ x.1 ≤ 18446744073709551615) ∧ 0 ≤ x.2 ∧ x.2 ≤ 18446744073709551615) :
    Calls Try.prog 4 #[.slice sp l c, .slice sp1 l1 c1] w fun e w' => e = .returned (.bool true) ∧ Below w.heap.size w w' := by
  by_cases hl : 1 ≤ l ∧ l ≤ 65536
  · exact meanwhile_yes sp sp1 l c l1 c1 ws cs w hn hr h0 hl.1 hl.2 hn1 hp1 hb1 hw1
  · exact meanwhile_no sp sp1 l c l1 c1 ws w hn hr h0 hb (by omega)

set_option maxRecDepth 100000 in
theorem meanwhile_lifted (os : Os) (started : os.Started) (H : Type) (enc : TypeId × Value → H) :
    ReturnsInHanded {} Try.checked os 4 .any (Rows.cellsMeanwhileSpec.pre6 enc Try.prog Try.f4 Rows.cellsMeanwhileRow.domain false) (Rows.cellsMeanwhileSpec.post enc Try.prog Try.f4 false true false false) := by
  refine returnsInHanded_of_change_sized (C := Try.checked) own started (by kernel_rfl) Try.func4
    (ChangeSpec.witness6 (enc := enc) (C := Try.checked) false ⟨#[], #[.slice none 0 0, .slice none 0 0], []⟩ 8 (by kernel_rfl) (by kernel_rfl) (by kernel_rfl) (by kernel_rfl)) ?_
  intro W base args ds gs before hval0 hW hcnd hsz0 _
  have hval : ∀ (j : Nat) t v, Try.f4.params[j]? = some t → args[j]? = some v → Value.okWide Try.prog W .any base t v := hval0
  have hsz : (DataW.weightsEach Try.prog (Try.f4.params.toList ++ Rows.cellsMeanwhileSpec.plain.varTypes Try.prog) (ds ++ gs)).all (· ≤ reachBytes) = true := hsz0
  have hW' := hW
  obtain ⟨p, q, hA0, hV, rfl, hfz, hnd⟩ := hW
  have hA : DataW.TrodAll enc Try.prog W 0 (fun _ => true) true Try.f4.params.toList args.toList ds p := hA0
  rw [Try.params4] at hA hval hsz
  obtain ⟨v0, vs0, d0, ds0, p0, q0, hargs, rfl, rfl, h0, r0⟩ := trodAll_cons hA
  obtain ⟨v1, vs1, d1, ds1, p1, q1, rfl, rfl, rfl, h1, r1⟩ := trodAll_cons r0
  obtain ⟨rfl, rfl, rfl⟩ := trodAll_nil r1
  obtain rfl : args = #[v0, v1] := by cases args; simp_all
  obtain ⟨rfl, rfl⟩ := trodVars_none hV
  have lt0 : ∀ x ∈ p0, x.block < W.heap.size := by obtain ⟨m, hm⟩ := h0; exact DataW.trod_lt m _ _ _ hm
  have lt1 : ∀ x ∈ p1, x.block < W.heap.size := by obtain ⟨m, hm⟩ := h1; exact DataW.trod_lt m _ _ _ hm
  obtain ⟨sp, l, c, ws, rfl, hn, hr, hc0, hwf, hd0⟩ := open_words (hval 0 22 v0 rfl rfl) h0
  obtain ⟨sp1, l1, c1, cs, rfl, hn1, hp1, hw1, hd1⟩ := open_pairs (hval 1 49 v1 rfl rfl) h1
  have b0 : l * 8 ≤ 140737488351232 := by
    rcases hd0 with ⟨_, rfl⟩ | ⟨e, s, rfl, hl⟩
    · omega
    · have := sized_slice hsz (j := 0) (t := 22) (e := 36) rfl rfl Try.underlying22
      rw [bytes36] at this
      simp only [reachBytes] at this
      omega
  have b1 : l1 * 16 ≤ 140737488351232 := by
    rcases hd1 with ⟨_, rfl⟩ | ⟨e, s, rfl, hl⟩
    · omega
    · have := sized_slice hsz (j := 1) (t := 49) (e := 58) rfl rfl Try.underlying49
      rw [bytes58] at this
      simp only [reachBytes] at this
      omega
  clear hA0 hval0
  refine (meanwhile_any sp sp1 l c l1 c1 ws cs W hn hr hc0 b0 hn1 hp1 b1 hw1).mono fun e W' ⟨he, bel⟩ => ?_
  subst he
  exact ⟨_, rfl, _, _, _, [], _, [], hW', trodAll_mk1 (shut_bool Try.underlying4 _),
    trodAll_cons_mk (Below.trod laidOut (by kernel_rfl) (of_decide_eq_true (by kernel_rfl)) h0 bel lt0) (trodAll_cons_mk (Below.trod laidOut (by kernel_rfl) (of_decide_eq_true (by kernel_rfl)) h1 bel lt1) trodAll_mk0),
    rfl, bel.frame _, fun h => by cases h⟩

theorem cellsMeanwhile_holds : Rows.CellsMeanwhileSaid :=
  OpenClaim.holds_of_wide 4 Try.f4 rfl rfl rfl rfl rfl rfl rfl ⟨rfl, rfl, rfl, rfl, rfl⟩ rfl rfl rfl rfl rfl (by kernel_rfl) Try.func4 (by kernel_rfl)
    (of_decide_eq_true (by kernel_rfl)) (by unfold Func.isWrapper; first | (rw [if_pos (by decide +kernel)]; kernel_rfl) | (rw [if_neg (by decide +kernel)]; exact ⟨rfl, rfl⟩))
    (fun os started H enc _ => meanwhile_lifted os started H enc)

end Go.Proofs.Ytmffkcbdgpaieaa
