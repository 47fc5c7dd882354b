
/- What the seat's rows list: the program's two tables, in the world in which a call begins, and a world that holds them. No statement of the seat is proved here. -/
import Derived.Test.YtljapgoeomedkaaDoorCards
import Derived.Test.YtljapgoeomedkaaDoorTie
import Derived.Test.YtljapgoeomedkaaDoorChK
import Derived.ProofKit
import Derived.OpenShut
import Derived.Deep.DeepHandedRow
import Derived.Lib.LaidTab
import Derived.Shelf.Vars
namespace Go.Proofs.YtljapgoeomedkaaDoor
open Go.ChangeShapes Go.WideShapes Go.ChangeAt Go.RowKit Go.Shelf

theorem own : ownKnob Tryd.prog.godebug = none := by kernel_rfl
theorem gNei : Tryd.prog.globalNamed "parley/check.neither" = some 0 := by kernel_rfl
theorem gBot : Tryd.prog.globalNamed "parley/check.both" = some 1 := by kernel_rfl
theorem gNeiType : (Tryd.prog.globals[0]?).map (·.type) = some 76 := by kernel_rfl
theorem gBotType : (Tryd.prog.globals[1]?).map (·.type) = some 76 := by kernel_rfl
theorem cellsSd : Tryd.prog.cellsOf 76 = 2 := by kernel_rfl
theorem cellsBl : Tryd.prog.cellsOf 4 = 1 := by kernel_rfl

/-- An array of two that reads as two truths holds these. -/
theorem cells_of_two {H : Type} {enc : TypeId × Value → H} {P : Program} {w : World} {base : Nat} {sp : Nat → Bool} {held : Bool} {fuel : Nat} {t e : TypeId} {cs : List Value} {x y : Bool} {p : List MemPlace}
    (ht : P.underlying t = some (.array 2 e)) (he : P.underlying e = some .bool) (hce : P.cellsOf e = 1) (hct : P.cellsOf t = 2)
    (h : DataW.trod enc P w base sp held fuel t cs = some (.agg [.lit (.bool x), .lit (.bool y)], p)) : cs[0]? = some (.bool x) ∧ cs[1]? = some (.bool y) := by
  cases fuel with
  | zero => simp [DataW.trod] at h
  | succ fuel =>
    simp only [DataW.trod, ht, hce, hct, Nat.mul_one] at h
    split at h
    · obtain ⟨xs, hm, hx⟩ := Option.map_eq_some_iff.1 h
      have hxs : xs.map (·.1) = [(DataW.lit (.bool x) : DataW H), .lit (.bool y)] := by
        have := congrArg Prod.fst hx
        simpa using this
      have key : ∀ i, i < 2 → ∀ z : Bool, (xs.map (·.1))[i]? = some (DataW.lit (.bool z) : DataW H) → cs[i]? = some (.bool z) := fun i hi z hz => by
        obtain ⟨b, hb, hf⟩ := Lib.mapM_at hm i i (by simp [hi])
        obtain ⟨z', hc, rfl⟩ := DataW.trod_bool he hf
        have h1 : cs[i]? = some (.bool z') := by
          have := congrArg (·[0]?) hc
          simpa [List.getElem?_take, List.getElem?_drop] using this
        rw [List.getElem?_map, hb] at hz
        simp at hz
        rw [h1, hz]
      rw [hxs] at key
      exact ⟨key 0 (by decide) x rfl, key 1 (by decide) y rfl⟩
    · cases h

/-- What a row's list gives. -/
theorem gb_of {W : World} (h : laidMetH Tryd.prog [("parley/check.neither", Rows.laid_parley_check_neither), ("parley/check.both", Rows.laid_parley_check_both)] W) : Gb W := by
  have h' : laidMet Tryd.prog [("parley/check.neither", Rows.laid_parley_check_neither), ("parley/check.both", Rows.laid_parley_check_both)] W := h
  obtain ⟨ps, hv, _⟩ := h'
  obtain ⟨g', t', cs, fuel, p, q, hg', ht', hvar, hd, hv2, _⟩ := hv
  obtain rfl := Option.some.inj (gNei.symm.trans hg')
  obtain rfl := Option.some.inj (gNeiType.symm.trans ht')
  obtain ⟨a0, a1⟩ := cells_of_two Tryd.underlying76 Tryd.underlying4 cellsBl cellsSd hd
  obtain ⟨g', t', cs', fuel', p', q', hg', ht', hvar', hd', _, _⟩ := hv2
  obtain rfl := Option.some.inj (gBot.symm.trans hg')
  obtain rfl := Option.some.inj (gBotType.symm.trans ht')
  obtain ⟨b0, b1⟩ := cells_of_two Tryd.underlying76 Tryd.underlying4 cellsBl cellsSd hd'
  have e := fun i => World.var?_cell gNei hvar i
  have e' := fun i => World.var?_cell gBot hvar' i
  refine ⟨(e 0).trans ?_, (e 1).trans ?_, (e' 0).trans ?_, (e' 1).trans ?_⟩
  · simpa using a0
  · simpa using a1
  · simpa using b0
  · simpa using b1

def litV : Lit → Value
  | .bool b => .bool b
  | _ => undef
def flat1 : DataW Unit → List Value
  | .agg ds => ds.map fun
    | .lit l => litV l
    | _ => undef
  | _ => []
def layAt (cs : List Value) : Obj → Obj
  | .cells _ t frozen => .cells cs.toArray t frozen
  | o => o
/-- A world for the witness: the settled one, the tables holding what their initialisers lay. -/
noncomputable def laidWorldT (os : Os) : World :=
  { World.holding Tryd.prog os ⟨#[], #[], []⟩ with heap := ((World.holding Tryd.prog os ⟨#[], #[], []⟩).heap.modify 0 (layAt (flat1 Rows.laid_parley_check_neither))).modify 1 (layAt (flat1 Rows.laid_parley_check_both)) }
end Go.Proofs.YtljapgoeomedkaaDoor
