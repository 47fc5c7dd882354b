
/- A slice of words that came in, with its bound (layer 23). No statement of the seat is proved here. -/
import Derived.Test.YtadbplbifjeghaaQuOpen
namespace Go.Proofs.Ytadbplbifjeghaa
open Go.ChangeShapes Go.WideShapes Go.ChangeAt Go.RowKit

section
variable {H : Type} {enc : TypeId × Value → H} {W : World}
theorem open_wordsC {v : Value} {d : DataW H} {ps : List MemPlace} {base : Nat} (hok : Value.okWide Try.prog W .any base 36 v) (h : DataW.Trod enc Try.prog W 0 (fun _ => true) true 36 v d ps) (hwt : ∀ N ∈ d.weights Try.prog 36, N ≤ reachBytes) :
    ∃ a ws c, v = .slice a ws.length c ∧ ws.length ≤ c ∧ Lies W v ws ∧ (∀ x ∈ ws, isW x) ∧ ws.length * 8 ≤ 140737488351232 := by
  obtain ⟨a, len, cap, rfl⟩ := okWide_slice Try.underlying36 hok
  obtain ⟨fuel, hf⟩ := h
  rcases open_ints Try.underlying36 Try.underlying33 cellsWord hf with ⟨hcs, hx⟩ | ⟨x, l, c, zs, hcs, _, hl, hm, hz, hx, hcell, hwz⟩
  · simp [Value.cells] at hcs
    obtain ⟨rfl, rfl, rfl⟩ := hcs
    exact ⟨none, [], 0, rfl, by simp, ⟨none, 0, rfl, fun i h => absurd h (by simp)⟩, fun x hx => by simp at hx, by simp⟩
  · simp [Value.cells] at hcs
    obtain ⟨rfl, rfl, rfl⟩ := hcs
    simp at hz
    have hlen : (zs.take len).length = len := by simp; omega
    have hb : len * 8 ≤ 140737488351232 := by
      rw [(Prod.mk.inj hx).1] at hwt
      have := hwt _ (by
        simp only [DataW.weights, Try.underlying36]
        exact List.mem_cons_self)
      rw [bytesWord] at this
      simp only [reachBytes, lits, List.length_map, List.length_take, List.length_drop] at this
      omega
    refine ⟨some x, zs.take len, cap, by rw [hlen], by rw [hlen]; exact hl, ⟨some x, cap, by rw [hlen], fun i hi => ?_⟩, fun n hn => wf_u64 (hwz n (List.mem_of_mem_take hn)), by rw [hlen]; exact hb⟩
    have hi' : i < len := by simp at hi; omega
    obtain ⟨b, o, s⟩ := x
    have hc := hcell i (by omega)
    have hs : s = none := by
      have := cell_spot (hcell 0 (by omega))
      simpa [Addr.add] using this
    subst hs
    rw [addr_add] at hc
    refine ⟨b, o, rfl, ?_⟩
    rw [hc]
    simp [oat, List.getElem?_take_of_lt hi', List.getD_eq_getElem?_getD]

end
end Go.Proofs.Ytadbplbifjeghaa
