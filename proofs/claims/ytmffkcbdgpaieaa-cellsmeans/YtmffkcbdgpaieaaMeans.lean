/-
  The law CellsMeans returns true for every slice of words and every two slices of cells, and leaves all that was there as it was: no condition.
-/
import Derived.Test.YtmffkcbdgpaieaaOpen
import Derived.Test.YtmffkcbdgpaieaaMeansC
namespace Go.Proofs.Ytmffkcbdgpaieaa
open Go.ChangeShapes Go.WideShapes Go.ChangeAt Go.RowKit

theorem means_any (sp sp1 sp2 : Option Addr) (l c l1 c1 l2 c2 : Nat) (ws : List Int) (cs ds : List (Int × Int)) (w : World) (hn : ws.length = l) (hr : Reads w sp ws) (h0 : sp = none → c = 0) (hb : l * 8 ≤ 140737488351232)
    (hn1 : cs.length = l1) (hp1 : Pairs w sp1 cs) (hb1 : l1 * 16 ≤ 140737488351232) (hn2 : ds.length = l2) (hp2 : Pairs w sp2 ds) (hb2 : l2 * 16 ≤ 140737488351232)
    (hw1 : ∀ x ∈ cs, (0 ≤ x.1 ∧ x.1 ≤ 18446744073709551615) ∧ 0 ≤ x.2 ∧ x.2 ≤ 18446744073709551615) (hw2 : ∀ x ∈ ds, (0 ≤ x.1 ∧ x.1 ≤ 18446744073709551615) ∧ 0 ≤ x.2 ∧ x.2 ≤ 18446744073709551615) (hwf : Wf ws) :
    Calls Try.prog 5 #[.slice sp l c, .slice sp1 l1 c1, .slice sp2 l2 c2] w fun e w' => e = .returned (.bool true) ∧ Below w.heap.size w w' := by
  by_cases hl : 1 ≤ l ∧ l ≤ 65536
  · exact (means_yes sp sp1 sp2 l c l1 c1 l2 c2 ws cs ds w hn hr h0 hl.1 hl.2 hn1 hp1 hb1 hn2 hp2 hb2 hw1 hw2 hwf).mono fun _ _ ⟨h1, h2⟩ => ⟨h1, h2.below _ (Nat.le_refl _) (fun _ f => f.elim)⟩
  · exact (means_no sp l c ws _ _ w hn hr h0 hb (by omega)).mono fun _ _ ⟨h1, h2⟩ => ⟨h1, h2.below _ (Nat.le_refl _) (fun _ f => f.elim)⟩

set_option maxRecDepth 100000 in
theorem means_lifted (os : Os) (started : os.Started) (H : Type) (enc : TypeId × Value → H) :
    ReturnsInHanded {} Try.checked os 5 .any (Rows.cellsMeansSpec.pre6 enc Try.prog Try.f5 Rows.cellsMeansRow.domain false) (Rows.cellsMeansSpec.post enc Try.prog Try.f5 false true false false) := by
  refine returnsInHanded_of_change_sized (C := Try.checked) own started (by kernel_rfl) Try.func5
    (ChangeSpec.witness6 (enc := enc) (C := Try.checked) false ⟨#[], #[.slice none 0 0, .slice none 0 0, .slice none 0 0], []⟩ 8 (by kernel_rfl) (by kernel_rfl) (by kernel_rfl) (by kernel_rfl)) ?_
  intro W base args ds gs before hval0 hW hcnd hsz0 _
  have hval : ∀ (j : Nat) t v, Try.f5.params[j]? = some t → args[j]? = some v → Value.okWide Try.prog W .any base t v := hval0
  have hsz : (DataW.weightsEach Try.prog (Try.f5.params.toList ++ Rows.cellsMeansSpec.plain.varTypes Try.prog) (ds ++ gs)).all (· ≤ reachBytes) = true := hsz0
  have hW' := hW
  obtain ⟨p, q, hA0, hV, rfl, hfz, hnd⟩ := hW
  have hA : DataW.TrodAll enc Try.prog W 0 (fun _ => true) true Try.f5.params.toList args.toList ds p := hA0
  rw [Try.params5] at hA hval hsz
  obtain ⟨v0, vs0, d0, ds0, p0, q0, hargs, rfl, rfl, h0, r0⟩ := trodAll_cons hA
  obtain ⟨v1, vs1, d1, ds1, p1, q1, rfl, rfl, rfl, h1, r1⟩ := trodAll_cons r0
  obtain ⟨v2, vs2, d2, ds2, p2, q2, rfl, rfl, rfl, h2, r2⟩ := trodAll_cons r1
  obtain ⟨rfl, rfl, rfl⟩ := trodAll_nil r2
  obtain rfl : args = #[v0, v1, v2] := by cases args; simp_all
  obtain ⟨rfl, rfl⟩ := trodVars_none hV
  have lt0 : ∀ x ∈ p0, x.block < W.heap.size := by obtain ⟨m, hm⟩ := h0; exact DataW.trod_lt m _ _ _ hm
  have lt1 : ∀ x ∈ p1, x.block < W.heap.size := by obtain ⟨m, hm⟩ := h1; exact DataW.trod_lt m _ _ _ hm
  have lt2 : ∀ x ∈ p2, x.block < W.heap.size := by obtain ⟨m, hm⟩ := h2; exact DataW.trod_lt m _ _ _ hm
  obtain ⟨sp, l, c, ws, rfl, hn, hr, hc0, hwf, hd0⟩ := open_words (hval 0 22 v0 rfl rfl) h0
  obtain ⟨sp1, l1, c1, cs, rfl, hn1, hp1, hw1, hd1⟩ := open_pairs (hval 1 49 v1 rfl rfl) h1
  obtain ⟨sp2, l2, c2, es, rfl, hn2, hp2, hw2, hd2⟩ := open_pairs (hval 2 49 v2 rfl rfl) h2
  have b0 : l * 8 ≤ 140737488351232 := by
    rcases hd0 with ⟨_, rfl⟩ | ⟨e, s, rfl, hl⟩
    · omega
    · have := sized_slice hsz (j := 0) (t := 22) (e := 36) rfl rfl Try.underlying22
      rw [bytes36] at this
      simp only [reachBytes] at this
      omega
  have b1 : l1 * 16 ≤ 140737488351232 := by
    rcases hd1 with ⟨_, rfl⟩ | ⟨e, s, rfl, hl⟩
    · omega
    · have := sized_slice hsz (j := 1) (t := 49) (e := 58) rfl rfl Try.underlying49
      rw [bytes58] at this
      simp only [reachBytes] at this
      omega
  have b2 : l2 * 16 ≤ 140737488351232 := by
    rcases hd2 with ⟨_, rfl⟩ | ⟨e, s, rfl, hl⟩
    · omega
    · have := sized_slice hsz (j := 2) (t := 49) (e := 58) rfl rfl Try.underlying49
      rw [bytes58] at this
      simp only [reachBytes] at this
      omega
  clear hA0 hval0
  refine (means_any sp sp1 sp2 l c l1 c1 l2 c2 ws cs es W hn hr hc0 b0 hn1 hp1 b1 hn2 hp2 b2 hw1 hw2 hwf).mono fun e W' ⟨he, bel⟩ => ?_
  subst he
  exact ⟨_, rfl, _, _, _, [], _, [], hW', trodAll_mk1 (shut_bool Try.underlying4 _),
    trodAll_cons_mk (Below.trod laidOut (by kernel_rfl) (of_decide_eq_true (by kernel_rfl)) h0 bel lt0) (trodAll_cons_mk (Below.trod laidOut (by kernel_rfl) (of_decide_eq_true (by kernel_rfl)) h1 bel lt1) (trodAll_cons_mk (Below.trod laidOut (by kernel_rfl) (of_decide_eq_true (by kernel_rfl)) h2 bel lt2) trodAll_mk0)),
    rfl, bel.frame _, fun h => by cases h⟩

theorem cellsMeans_holds : Rows.CellsMeansSaid :=
  OpenClaim.holds_of_wide 5 Try.f5 rfl rfl rfl rfl rfl rfl rfl ⟨rfl, rfl, rfl, rfl, rfl⟩ rfl rfl rfl rfl rfl (by kernel_rfl) Try.func5 (by kernel_rfl)
    (of_decide_eq_true (by kernel_rfl)) (by unfold Func.isWrapper; first | (rw [if_pos (by decide +kernel)]; kernel_rfl) | (rw [if_neg (by decide +kernel)]; exact ⟨rfl, rfl⟩))
    (fun os started H enc _ => means_lifted os started H enc)

end Go.Proofs.Ytmffkcbdgpaieaa
