
/-
  How the laws' arguments read: a slice of words. No statement of the seat is proved here.
-/
import Derived.Test.YtljcojonchfjfaaDoorDoorL
import Derived.Test.YtljcojonchfjfaaDoorWords
import Derived.SizedLaws
import Derived.Deep.SlicePairs
import Derived.Test.YtljcojonchfjfaaDoorCells
namespace Go.Proofs.YtljcojonchfjfaaDoor
open Go.ChangeShapes Go.WideShapes Go.ChangeAt Go.RowKit

theorem laidOut : laidOutB Tryd.prog = true := by kernel_rfl
theorem cellsU : Tryd.prog.cellsOf 38 = 1 := by kernel_rfl
theorem bytesU : Tryd.prog.bytesOf 38 = 8 := by kernel_rfl

set_option maxRecDepth 100000 in
/-- A slice of words that came in. -/
theorem open_words {H : Type} {enc : TypeId × Value → H} {W : World} {v : Value} {d : DataW H} {ps : List MemPlace} {base : Nat} (hok : Value.okWide Tryd.prog W .any base 39 v) (h : DataW.Trod enc Tryd.prog W 0 (fun _ => true) true 39 v d ps) :
    ∃ ws : List Int, Lies W v ws ∧ (∀ x, x ∈ ws → (Lit.int .u64 x).wf = true) ∧ ((d = .nil ∧ ws = []) ∨ ∃ elems spare, d = .slice elems spare ∧ elems.length = ws.length) := by
  obtain ⟨a, len, cap, rfl⟩ := okWide_slice Tryd.underlying39 hok
  obtain ⟨fuel, hf⟩ := h
  rcases open_ints Tryd.underlying39 Tryd.underlying38 cellsU hf with ⟨hcs, hx⟩ | ⟨x, l, c, zs, hcs, _, hl, hm, hz, hx, hcell, hwz⟩
  · simp [Value.cells] at hcs
    obtain ⟨rfl, rfl, rfl⟩ := hcs
    exact ⟨[], ⟨none, 0, rfl, fun i hi => absurd hi (by simp)⟩, fun x hx => by simp at hx, .inl ⟨(Prod.mk.inj hx).1, rfl⟩⟩
  · simp [Value.cells] at hcs
    obtain ⟨rfl, rfl, rfl⟩ := hcs
    simp at hz
    have hlen : (zs.take len).length = len := by simp; omega
    refine ⟨zs.take len, ?_, fun n hn => hwz n (List.mem_of_mem_take hn), .inr ⟨_, _, (Prod.mk.inj hx).1, by simp [lits]⟩⟩
    refine ⟨some x, cap, by rw [hlen], fun i hi => ?_⟩
    have hi' : i < len := by omega
    have hc := hcell i (by omega)
    have hsp : x.spot = none := by
      have := hcell 0 (by omega)
      simp [Addr.add] at this
      unfold World.cell? at this
      split at this
      · cases hs : x.spot with
        | none => rfl
        | some _ => simp [hs] at this
      · simp at this
    obtain ⟨xb, xo, xs⟩ := x
    cases hsp
    rw [addr_add] at hc
    refine ⟨xb, xo, rfl, ?_⟩
    rw [hc, List.getD_eq_getElem?_getD]
    unfold oat
    rw [List.getElem?_take_of_lt hi']

theorem cellsC : Tryd.prog.cellsOf 72 = 2 := by kernel_rfl
theorem bytesC : Tryd.prog.bytesOf 72 = 16 := by kernel_rfl
set_option maxRecDepth 100000 in
/-- A slice of addresses with words that came in. -/
theorem open_pairs {H : Type} {enc : TypeId × Value → H} {W : World} {v : Value} {d : DataW H} {ps : List MemPlace} {base : Nat} (hok : Value.okWide Tryd.prog W .any base 29 v) (h : DataW.Trod enc Tryd.prog W 0 (fun _ => true) true 29 v d ps) :
    ∃ cs : List (Int × Int), Pairs W v cs ∧ (∀ x ∈ cs, (0 ≤ x.1 ∧ x.1 < 18446744073709551616) ∧ 0 ≤ x.2 ∧ x.2 < 18446744073709551616) ∧ ((d = .nil ∧ cs = []) ∨ ∃ elems spare, d = .slice elems spare ∧ elems.length = cs.length) := by
  obtain ⟨a, len, cap, rfl⟩ := okWide_slice Tryd.underlying29 hok
  obtain ⟨fuel, hf⟩ := h
  rcases Deep.open_slice_pairs Tryd.underlying29 Tryd.underlying72 cellsC rfl rfl cellsU cellsU hf with ⟨hcs, hx⟩ | ⟨x, l, c, m, n, V0, V1, D0, D1, P0, P1, hcs, _, hl, hm, hmm, hx, hcell⟩
  · simp [Value.cells] at hcs
    obtain ⟨rfl, rfl, rfl⟩ := hcs
    exact ⟨[], ⟨none, 0, rfl, fun i hi => by simp at hi⟩, fun x hx => by simp at hx, .inl ⟨(Prod.mk.inj hx).1, rfl⟩⟩
  · simp [Value.cells] at hcs
    obtain ⟨rfl, rfl, rfl⟩ := hcs
    simp at hmm
    subst hmm
    have each : ∀ i, i < len → ∃ q : Int × Int, (V0 i = .int .u64 q.1 ∧ (0 ≤ q.1 ∧ q.1 < 18446744073709551616)) ∧ V1 i = .int .u64 q.2 ∧ 0 ≤ q.2 ∧ q.2 < 18446744073709551616 := fun i hi => by
      obtain ⟨_, _, h3, h4⟩ := hcell i (by omega)
      obtain ⟨n0, e0, _, w0⟩ := DataW.trod_int Tryd.underlying38 h3
      obtain ⟨n1, e1, _, w1⟩ := DataW.trod_int Tryd.underlying38 h4
      simp at e0 e1
      exact ⟨(n0, n1), ⟨e0, wf_u64 w0⟩, e1, wf_u64 w1⟩
    obtain ⟨q, hq⟩ := Deep.choose_lt each
    have hlen : ((List.range len).map q).length = len := by simp
    refine ⟨(List.range len).map q, ⟨some x, _, by rw [hlen], fun i hi => ?_⟩, fun y hy => ?_, .inr ⟨_, _, (Prod.mk.inj hx).1, by simp⟩⟩
    · have hi' : i < len := by simpa using hi
      have hsp : x.spot = none := by
        have := (hcell 0 (by omega)).1
        simp [Addr.add] at this
        unfold World.cell? at this
        split at this
        · cases hs : x.spot with
          | none => rfl
          | some _ => simp [hs] at this
        · simp at this
      obtain ⟨xb, xo, xs⟩ := x
      cases hsp
      obtain ⟨h1, h2, _, _⟩ := hcell i (by omega)
      obtain ⟨⟨g1, _⟩, g2, _⟩ := hq i hi'
      rw [addr_add, g1] at h1
      rw [addr_add, g2] at h2
      refine ⟨xb, xo, (q i).1, (q i).2, rfl, by simp [hi'], h1, ?_⟩
      simpa [Nat.add_assoc] using h2
    · obtain ⟨i, hi, rfl⟩ := List.mem_map.1 hy
      obtain ⟨⟨_, g1⟩, _, g2⟩ := hq i (List.mem_range.1 hi)
      exact ⟨g1, g2⟩
end Go.Proofs.YtljcojonchfjfaaDoor
