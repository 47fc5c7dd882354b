/-
  How the laws' arguments read: a slice of words. No statement of the seat is proved here.
-/
import Derived.Test.YtbhocajmcfdffaaDoorDoor
import Derived.Test.YtbhocajmcfdffaaDoorWords
import Derived.SizedLaws
namespace Go.Proofs.YtbhocajmcfdffaaDoor
open Go.ChangeShapes Go.WideShapes Go.ChangeAt Go.RowKit

theorem laidOut : laidOutB Tryd.prog = true := by kernel_rfl
theorem cellsU : Tryd.prog.cellsOf 25 = 1 := by kernel_rfl
theorem bytesU : Tryd.prog.bytesOf 25 = 8 := by kernel_rfl

set_option maxRecDepth 100000 in
/-- A slice of words that came in. -/
theorem open_words {H : Type} {enc : TypeId × Value → H} {W : World} {v : Value} {d : DataW H} {ps : List MemPlace} {base : Nat} (hok : Value.okWide Tryd.prog W .any base 37 v) (h : DataW.Trod enc Tryd.prog W 0 (fun _ => true) true 37 v d ps) :
    ∃ ws : List Int, Lies W v ws ∧ (∀ x, x ∈ ws → (Lit.int .u64 x).wf = true) ∧ ((d = .nil ∧ ws = []) ∨ ∃ elems spare, d = .slice elems spare ∧ elems.length = ws.length) := by
  obtain ⟨a, len, cap, rfl⟩ := okWide_slice Tryd.underlying37 hok
  obtain ⟨fuel, hf⟩ := h
  rcases open_ints Tryd.underlying37 Tryd.underlying25 cellsU hf with ⟨hcs, hx⟩ | ⟨x, l, c, zs, hcs, _, hl, hm, hz, hx, hcell, hwz⟩
  · simp [Value.cells] at hcs
    obtain ⟨rfl, rfl, rfl⟩ := hcs
    exact ⟨[], ⟨none, 0, rfl, fun i hi => absurd hi (by simp)⟩, fun x hx => by simp at hx, .inl ⟨(Prod.mk.inj hx).1, rfl⟩⟩
  · simp [Value.cells] at hcs
    obtain ⟨rfl, rfl, rfl⟩ := hcs
    simp at hz
    have hlen : (zs.take len).length = len := by simp; omega
    refine ⟨zs.take len, ?_, fun n hn => hwz n (List.mem_of_mem_take hn), .inr ⟨_, _, (Prod.mk.inj hx).1, by simp [lits]⟩⟩
    refine ⟨some x, cap, by rw [hlen], fun i hi => ?_⟩
    have hi' : i < len := by omega
    have hc := hcell i (by omega)
    have hsp : x.spot = none := by
      have := hcell 0 (by omega)
      simp [Addr.add] at this
      unfold World.cell? at this
      split at this
      · cases hs : x.spot with
        | none => rfl
        | some _ => simp [hs] at this
      · simp at this
    obtain ⟨xb, xo, xs⟩ := x
    cases hsp
    rw [addr_add] at hc
    refine ⟨xb, xo, rfl, ?_⟩
    rw [hc, List.getD_eq_getElem?_getD]
    unfold oat
    rw [List.getElem?_take_of_lt hi']
end Go.Proofs.YtbhocajmcfdffaaDoor
