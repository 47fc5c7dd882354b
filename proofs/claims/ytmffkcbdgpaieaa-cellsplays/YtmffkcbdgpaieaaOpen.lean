/-
  How the laws' arguments read: a slice of words, a slice of addresses with words. No statement of the seat is proved here.
-/
import Derived.Test.YtmffkcbdgpaieaaRows
import Derived.Test.YtmffkcbdgpaieaaMeansA
import Derived.ProofKit
import Derived.OpenShut
import Derived.SizedLaws
import Derived.Deep.SlicePairs
namespace Go.Proofs.Ytmffkcbdgpaieaa
open Go.ChangeShapes Go.WideShapes Go.ChangeAt Go.RowKit

theorem laidOut : laidOutB Try.prog = true := by kernel_rfl
theorem own : ownKnob Try.prog.godebug = none := by kernel_rfl
theorem cells36 : Try.prog.cellsOf 36 = 1 := by kernel_rfl
theorem cells58 : Try.prog.cellsOf 58 = 2 := by kernel_rfl
theorem bytes36 : Try.prog.bytesOf 36 = 8 := by kernel_rfl
theorem bytes58 : Try.prog.bytesOf 58 = 16 := by kernel_rfl

theorem wf_u64 {n : Int} (h : (Lit.int .u64 n).wf = true) : 0 ≤ n ∧ n ≤ 18446744073709551615 := by
  simpa [Lit.wf, IntKind.min, IntKind.max, IntKind.signed, IntKind.bits] using h

/-- A slice of words that came in. -/
theorem open_words {H : Type} {enc : TypeId × Value → H} {W : World} {v : Value} {d : DataW H} {ps : List MemPlace} {base : Nat} (hok : Value.okWide Try.prog W .any base 22 v) (h : DataW.Trod enc Try.prog W 0 (fun _ => true) true 22 v d ps) :
    ∃ sp l c ws, v = .slice sp l c ∧ ws.length = l ∧ Reads W sp ws ∧ (sp = none → c = 0) ∧ Wf ws ∧ ((d = .nil ∧ l = 0) ∨ ∃ elems spare, d = .slice elems spare ∧ elems.length = l) := by
  obtain ⟨a, len, cap, rfl⟩ := okWide_slice Try.underlying22 hok
  obtain ⟨fuel, hf⟩ := h
  rcases open_ints Try.underlying22 Try.underlying36 cells36 hf with ⟨hcs, hx⟩ | ⟨x, l, c, zs, hcs, _, hl, hm, hz, hx, hcell, hwz⟩
  · simp [Value.cells] at hcs
    obtain ⟨rfl, rfl, rfl⟩ := hcs
    exact ⟨none, 0, 0, [], rfl, rfl, Reads.nil _ _, fun _ => rfl, fun x hx => by simp at hx, .inl ⟨(Prod.mk.inj hx).1, rfl⟩⟩
  · simp [Value.cells] at hcs
    obtain ⟨rfl, rfl, rfl⟩ := hcs
    simp at hz
    refine ⟨some x, len, cap, zs.take len, rfl, by simp; omega, fun i hi => ⟨x, rfl, ?_⟩, fun e => (by cases e), fun n hn => wf_u64 (hwz n (List.mem_of_mem_take hn)), .inr ⟨_, _, (Prod.mk.inj hx).1, by simp [lits]; omega⟩⟩
    have hi' : i < len := by simp at hi; omega
    rw [hcell i (by omega), List.getElem?_take_of_lt hi', List.getD_eq_getElem?_getD]

/-- A slice of addresses with words that came in. -/
theorem open_pairs {H : Type} {enc : TypeId × Value → H} {W : World} {v : Value} {d : DataW H} {ps : List MemPlace} {base : Nat} (hok : Value.okWide Try.prog W .any base 49 v) (h : DataW.Trod enc Try.prog W 0 (fun _ => true) true 49 v d ps) :
    ∃ sp l c cs, v = .slice sp l c ∧ cs.length = l ∧ Pairs W sp cs ∧ (∀ x ∈ cs, (0 ≤ x.1 ∧ x.1 ≤ 18446744073709551615) ∧ 0 ≤ x.2 ∧ x.2 ≤ 18446744073709551615) ∧ ((d = .nil ∧ l = 0) ∨ ∃ elems spare, d = .slice elems spare ∧ elems.length = l) := by
  obtain ⟨a, len, cap, rfl⟩ := okWide_slice Try.underlying49 hok
  obtain ⟨fuel, hf⟩ := h
  rcases Deep.open_slice_pairs Try.underlying49 Try.underlying58 cells58 rfl rfl cells36 cells36 hf with ⟨hcs, hx⟩ | ⟨x, l, c, m, n, V0, V1, D0, D1, P0, P1, hcs, _, hl, hm, hmm, hx, hcell⟩
  · simp [Value.cells] at hcs
    obtain ⟨rfl, rfl, rfl⟩ := hcs
    exact ⟨none, 0, 0, [], rfl, rfl, fun i hi => by simp at hi, fun x hx => by simp at hx, .inl ⟨(Prod.mk.inj hx).1, rfl⟩⟩
  · simp [Value.cells] at hcs
    obtain ⟨rfl, rfl, rfl⟩ := hcs
    simp at hmm
    subst hmm
    have each : ∀ i, i < len → ∃ q : Int × Int, (V0 i = .int .u64 q.1 ∧ (0 ≤ q.1 ∧ q.1 ≤ 18446744073709551615)) ∧ V1 i = .int .u64 q.2 ∧ 0 ≤ q.2 ∧ q.2 ≤ 18446744073709551615 := fun i hi => by
      obtain ⟨_, _, h3, h4⟩ := hcell i (by omega)
      obtain ⟨n0, e0, _, w0⟩ := DataW.trod_int Try.underlying36 h3
      obtain ⟨n1, e1, _, w1⟩ := DataW.trod_int Try.underlying36 h4
      simp at e0 e1
      exact ⟨(n0, n1), ⟨e0, wf_u64 w0⟩, e1, wf_u64 w1⟩
    obtain ⟨q, hq⟩ := Deep.choose_lt each
    refine ⟨some x, len, _, (List.range len).map q, rfl, by simp, fun i hi => ?_, fun y hy => ?_, .inr ⟨_, _, (Prod.mk.inj hx).1, by simp⟩⟩
    · have hi' : i < len := by simpa using hi
      have hsp : x.spot = none := by
        have := (hcell 0 (by omega)).1
        simp [Addr.add] at this
        unfold World.cell? at this
        split at this
        · cases hs : x.spot with
          | none => rfl
          | some _ => simp [hs] at this
        · simp at this
      obtain ⟨xb, xo, xs⟩ := x
      cases hsp
      obtain ⟨h1, h2, _, _⟩ := hcell i (by omega)
      obtain ⟨⟨g1, _⟩, g2, _⟩ := hq i hi'
      rw [addr_add, g1] at h1
      rw [addr_add, g2] at h2
      refine ⟨xb, xo, rfl, ?_, ?_⟩
      · simpa [hi'] using h1
      · simpa [hi', Nat.add_assoc] using h2
    · obtain ⟨i, hi, rfl⟩ := List.mem_map.1 hy
      obtain ⟨⟨_, g1⟩, _, g2⟩ := hq i (List.mem_range.1 hi)
      exact ⟨g1, g2⟩

end Go.Proofs.Ytmffkcbdgpaieaa
