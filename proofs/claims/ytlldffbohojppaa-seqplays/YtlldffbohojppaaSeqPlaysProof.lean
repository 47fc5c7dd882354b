
/-
  The law SeqPlays returns true for every word and every slice of steps, and leaves all that was there as it was: no condition.
-/
import Derived.Test.YtlldffbohojppaaRows
import Derived.Test.YtlldffbohojppaaSeqI
import Derived.ProofKit
import Derived.OpenShut
import Derived.SizedLaws
import Derived.Deep.Grids
namespace Go.Proofs.Ytlldffbohojppaa
open Go.ChangeShapes Go.WideShapes Go.ChangeAt Go.RowKit

theorem laidOut : laidOutB Try.prog = true := by kernel_rfl
theorem own : ownKnob Try.prog.godebug = none := by kernel_rfl
theorem cellsWord : Try.prog.cellsOf 22 = 1 := by kernel_rfl
theorem cellsInt : Try.prog.cellsOf 3 = 1 := by kernel_rfl
theorem cellsStep : Try.prog.cellsOf 34 = 4 := by kernel_rfl
theorem bytesStep : Try.prog.bytesOf 34 = 32 := by kernel_rfl
theorem cellsBool : Try.prog.cellsOf 4 = 1 := by kernel_rfl
theorem wf_u64 {n : Int} (h : (Lit.int .u64 n).wf = true) : 0 ≤ n ∧ n < 18446744073709551616 := by
  have h : 0 ≤ n ∧ n ≤ 18446744073709551615 := by simpa [Lit.wf, IntKind.min, IntKind.max, IntKind.signed, IntKind.bits] using h
  omega

theorem cell_spot {w : World} {a : Addr} {v : Value} (h : w.cell? a = some v) : a.spot = none := by
  unfold World.cell? at h
  split at h
  · cases hs : a.spot with
    | none => rfl
    | some _ => simp [hs] at h
  · simp at h

section
variable {H : Type} {enc : TypeId × Value → H} {W : World}
set_option maxRecDepth 100000 in
/-- One step. -/
theorem open_step {fuel : Nat} {cs : List Value} {d : DataW H} {ps : List MemPlace} (h : DataW.trod enc Try.prog W 0 (fun _ => true) true fuel 34 cs = some (d, ps)) (hlen : cs.length = 4) :
    ∃ o : StepD, cs = [.int .i64 o.kd, .int .i64 o.on, .int .u64 o.s, .bool o.nr] ∧ 0 ≤ o.s ∧ o.s < 18446744073709551616 := by
  obtain ⟨xs, k, hk, hxy, _, hxl, hf⟩ := DataW.trod_struct Try.underlying34 h
  match xs, hxl, cs, hlen with
  | [y0, y1, y2, y3], _, [v0, v1, v2, v3], _ =>
    have g0 := hf 0 _ rfl
    have g1 := hf 1 _ rfl
    have g2 := hf 2 _ rfl
    have g3 := hf 3 _ rfl
    simp [cellsInt, cellsWord, cellsBool] at g0 g1 g2 g3
    obtain ⟨n0, e0, _, _⟩ := DataW.trod_int Try.underlying3 g0
    obtain ⟨n1, e1, _, _⟩ := DataW.trod_int Try.underlying3 g1
    obtain ⟨n2, e2, _, b2⟩ := DataW.trod_int Try.underlying22 g2
    obtain ⟨n3, e3, _⟩ := DataW.trod_bool Try.underlying4 g3
    simp at e0 e1 e2 e3
    subst e0 e1 e2 e3
    exact ⟨⟨n0, n1, n2, n3⟩, rfl, wf_u64 b2⟩

set_option maxRecDepth 100000 in
/-- The script. -/
theorem open_steps {v : Value} {d : DataW H} {ps : List MemPlace} {base : Nat} (hok : Value.okWide Try.prog W .any base 23 v) (h : DataW.Trod enc Try.prog W 0 (fun _ => true) true 23 v d ps) (hwt : ∀ N ∈ d.weights Try.prog 23, N ≤ reachBytes) :
    ∃ a n c ss, v = .slice a n c ∧ ss.length = n ∧ StepsAt W a ss ∧ n * 32 ≤ 140737488351232 := by
  obtain ⟨a, len, cap, rfl⟩ := okWide_slice Try.underlying23 hok
  obtain ⟨fuel, hf⟩ := h
  rcases Deep.open_slice Try.underlying23 hf with ⟨hcs, hx⟩ | ⟨x, l, c, m, n, D, Pl, hcs, _, hl, hm, hmm, hx, hcell⟩
  · simp [Value.cells] at hcs
    obtain ⟨rfl, rfl, rfl⟩ := hcs
    exact ⟨none, 0, 0, [], rfl, rfl, fun k hk => absurd hk (by simp), by omega⟩
  · simp [Value.cells] at hcs
    obtain ⟨rfl, rfl, rfl⟩ := hcs
    simp at hmm
    subst hmm
    have hd := (Prod.mk.inj hx).1
    have hb : len * 32 ≤ 140737488351232 := by
      have := hwt ((len + (m - len)) * Try.prog.bytesOf 34) (by
        rw [hd]
        simp [DataW.weights, Try.underlying23])
      rw [bytesStep] at this
      simp only [reachBytes] at this
      omega
    have each : ∀ i, i < len → ∃ o : StepD, (0 ≤ o.s ∧ o.s < 18446744073709551616) ∧ W.cells? 0 (x.add (i * 4)) 4 = some [.int .i64 o.kd, .int .i64 o.on, .int .u64 o.s, .bool o.nr] := fun i hi => by
      obtain ⟨cs', h1, h2⟩ := hcell i (by omega)
      rw [cellsStep] at h1
      obtain ⟨_, hlen, _⟩ := World.cells?_some h1
      obtain ⟨o, rfl, ho⟩ := open_step h2 hlen
      exact ⟨o, ho, h1⟩
    haveI : Inhabited StepD := ⟨⟨0, 0, 0, false⟩⟩
    obtain ⟨q, hq⟩ := Deep.choose_lt each
    refine ⟨some x, len, _, (List.range len).map q, rfl, by simp, fun k hk => ?_, hb⟩
    have hk : k < len := by simpa using hk
    obtain ⟨ho, h1⟩ := hq k hk
    obtain ⟨_, _, hc⟩ := World.cells?_some h1
    have hsp : x.spot = none := by
      obtain ⟨_, h10⟩ := hq 0 (by omega)
      obtain ⟨_, _, hc0⟩ := World.cells?_some h10
      have := hc0 0 (by omega)
      simp [Addr.add] at this
      exact cell_spot this
    obtain ⟨xb, xo, xs⟩ := x
    cases hsp
    have e := fun (j : Nat) (hj : j < 4) => (congrArg W.cell? (show (⟨xb, xo + k * 4 + j, none⟩ : Addr) = ((⟨xb, xo, none⟩ : Addr).add (k * 4)).add j by rw [addr_add, addr_add])).trans (hc j hj)
    exact ⟨xb, xo, q k, rfl, by simp [hk], ho.1, ho.2, e 0 (by omega), e 1 (by omega), e 2 (by omega), e 3 (by omega)⟩
end

set_option maxRecDepth 100000 in
theorem plays_lifted (os : Os) (started : os.Started) (H : Type) (enc : TypeId × Value → H) :
    ReturnsInHanded {} Try.checked os 3 .any (Rows.seqPlaysSpec.pre6 enc Try.prog Try.f3 Rows.seqPlaysRow.domain false) (Rows.seqPlaysSpec.post enc Try.prog Try.f3 false true false false) := by
  refine returnsInHanded_of_change_sized (C := Try.checked) own started (by kernel_rfl) Try.func3
    (ChangeSpec.witness6 (enc := enc) (C := Try.checked) false ⟨#[], #[.int .u64 0, .slice none 0 0], []⟩ 8 (by kernel_rfl) (by kernel_rfl) (by kernel_rfl) (by kernel_rfl)) ?_
  intro W base args ds gs before hval0 hW hcnd hsz0 _
  have hval : ∀ (j : Nat) t v, Try.f3.params[j]? = some t → args[j]? = some v → Value.okWide Try.prog W .any base t v := hval0
  have hsz : (DataW.weightsEach Try.prog (Try.f3.params.toList ++ Rows.seqPlaysSpec.plain.varTypes Try.prog) (ds ++ gs)).all (· ≤ reachBytes) = true := hsz0
  have hW' := hW
  obtain ⟨p, q, hA0, hV, rfl, hfz, hnd⟩ := hW
  have hA : DataW.TrodAll enc Try.prog W 0 (fun _ => true) true Try.f3.params.toList args.toList ds p := hA0
  rw [Try.params3] at hA hval hsz
  obtain ⟨v0, vs0, d0, ds0, p0, q0, hargs, rfl, rfl, h0, r0⟩ := trodAll_cons hA
  obtain ⟨v1, vs1, d1, ds1, p1, q1, rfl, rfl, rfl, h1, r1⟩ := trodAll_cons r0
  obtain ⟨rfl, rfl, rfl⟩ := trodAll_nil r1
  obtain rfl : args = #[v0, v1] := by cases args; simp_all
  obtain ⟨rfl, rfl⟩ := trodVars_none hV
  have lt0 : ∀ x ∈ p0, x.block < W.heap.size := by obtain ⟨m, hm⟩ := h0; exact DataW.trod_lt m _ _ _ hm
  have lt1 : ∀ x ∈ p1, x.block < W.heap.size := by obtain ⟨m, hm⟩ := h1; exact DataW.trod_lt m _ _ _ hm
  have ho := open_int Try.underlying22 (hval 0 22 v0 rfl rfl) h0
  obtain ⟨x, rfl, _, _, w0⟩ := ho
  have hwt : ∀ N ∈ d1.weights Try.prog 23, N ≤ reachBytes := fun N hN => by
    have := List.all_eq_true.1 hsz _ (DataW.weights_mem_each (j := 1) (t := 23) (d := d1) rfl rfl N hN)
    simpa using this
  obtain ⟨sp, l, c, ss, rfl, hn, hr, hb⟩ := open_steps (hval 1 23 v1 rfl rfl) h1 hwt
  clear hA0 hval0
  refine (plays_law x (wf_u64 w0).1 (wf_u64 w0).2 sp l c ss W hn hr (by omega)).mono fun e W' ⟨he, hk⟩ => ?_
  have bel : Below W.heap.size W W' := hk.below _ (Nat.le_refl _) (fun _ f => f.elim)
  subst he
  exact ⟨_, rfl, _, _, _, [], _, [], hW', trodAll_mk1 (shut_bool Try.underlying4 _),
    trodAll_cons_mk (Below.trod laidOut (by kernel_rfl) (of_decide_eq_true (by kernel_rfl)) h0 bel lt0) (trodAll_cons_mk (Below.trod laidOut (by kernel_rfl) (of_decide_eq_true (by kernel_rfl)) h1 bel lt1) trodAll_mk0),
    rfl, bel.frame _, fun h => by cases h⟩

theorem seqPlays_holds : Rows.SeqPlaysSaid :=
  OpenClaim.holds_of_wide 3 Try.f3 rfl rfl rfl rfl rfl rfl rfl ⟨rfl, rfl, rfl, rfl, rfl⟩ rfl rfl rfl rfl rfl (by kernel_rfl) Try.func3 (by kernel_rfl)
    (of_decide_eq_true (by kernel_rfl)) (by unfold Func.isWrapper; first | (rw [if_pos (by decide +kernel)]; kernel_rfl) | (rw [if_neg (by decide +kernel)]; exact ⟨rfl, rfl⟩))
    (fun os started H enc _ => plays_lifted os started H enc)

end Go.Proofs.Ytlldffbohojppaa
