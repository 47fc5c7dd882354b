
/- How an event that comes in reads. No statement of the seat is proved here. -/
import Derived.Test.YtjaldfmdjnkoeaaDoorEvZ
namespace Go.Proofs.YtjaldfmdjnkoeaaDoor
open Go.ChangeShapes Go.WideShapes Go.ChangeAt Go.RowKit Go.Shelf

section
variable {H : Type} {enc : TypeId × Value → H} {W : World}
set_option maxRecDepth 100000 in
theorem open_ev {v : Value} {d : DataW H} {ps : List MemPlace} {base : Nat} (hok : Value.okWide Tryd.prog W .any base 44 v) (h : DataW.Trod enc Tryd.prog W 0 (fun _ => true) true 44 v d ps) :
    ∃ e : Ev, v = .agg e.cells ∧ e.wf := by
  obtain ⟨cs, rfl, hs⟩ := okWide_struct Tryd.underlying44 hok
  obtain ⟨fuel, hf⟩ := h
  rw [cellsE] at hs
  obtain ⟨e, hi, hw⟩ := open_ev6 hf (by simpa [Value.cells] using hs)
  refine ⟨e, ?_, hw⟩
  simp [Value.cells] at hi
  rw [show cs = cs.toList.toArray by simp, hi]
end
end Go.Proofs.YtjaldfmdjnkoeaaDoor
