
/- What the document's one answers (package parleyref08), and what its walk needs. No statement of the seat is proved here. -/
import Derived.Test.YtijommlodgpphaaDoorRdH
import Derived.Test.YtijommlodgpphaaDoorRdF
import Derived.Deep.RegionHeld3
namespace Go.Proofs.YtijommlodgpphaaDoor
open Go.RowKit Go.Shelf

/-- What the document's one answers. -/
def OPost (l : List UInt8) (e : Ending) : Prop := match firstF l with
  | some (i, k) => e = .returned (.tuple #[.agg i.cells, .int .i64 k, .bool true])
  | none => e = .returned (.tuple #[.agg #[.int .i64 0, .int .i64 0, .int .i64 0, .int .i64 0, .int .u64 0], .int .i64 0, .bool false])
theorem results_cell_tmp2 {fn : Func} {p u v : Tmp} {ty : TypeId} (h : fn.results = #[.cell p ty, .tmp u, .tmp v]) (tmps : Array Value) (P : Program) (w : World) :
    (results fn tmps).run P w = ((asAddr (tmps.getD p undef)).run P w).andThen fun a w₁ => ((loadVar ty a).run P w₁).andThen fun x w₂ => .ok (.tuple #[x, tmps.getD u undef, tmps.getD v undef]) w₂ := by
  simp only [results, h]
  simp [Sem.run_bind, Result.andThen]
theorem ins_ret3 {fn : Func} {p u v : Tmp} (h : fn.results = #[.cell p 38, .tmp u, .tmp v]) (tmps : Array Value) (w : World) (b : Nat) (old cs : Array Value) (hb : w.heap[b]? = some (.cells old 38 (0, 0))) (hs : cs.size = 5)
    (hp : tmps.getD p undef = .pointer (some ⟨b, 0, none⟩)) : (results fn tmps).run Tryd.prog (w.setRow b cs) = .ok (.tuple #[.agg cs, tmps.getD u undef, tmps.getD v undef]) (w.setRow b cs) := by
  rw [results_cell_tmp2 h, hp]
  simp [asAddr, run_loadVar_row (w.setRow b cs) b 38 38 cs (0, 0) _ (setRow_heap w b old cs _ _ hb) Tryd.underlying38 rfl (by rw [size_ins, hs]), Result.andThen]
/-- The registers' bytes so far. -/
def regA (t : List UInt8) (k : Nat) : Array Value := #[.int .i64 (if 0 < k then ((t[0]?).getD 0).toNat else 0 : Nat), .int .i64 (if 1 < k then ((t[1]?).getD 0).toNat else 0 : Nat), .int .i64 (if 2 < k then ((t[2]?).getD 0).toNat else 0 : Nat)]
theorem regA_set (t : List UInt8) (k : Nat) (hk : k < 3) (hl : k < t.length) : (regA t k).setIfInBounds k (.int .i64 ((t[k]).toNat : Nat)) = regA t (k + 1) := by
  have : k = 0 ∨ k = 1 ∨ k = 2 := by omega
  rcases this with rfl | rfl | rfl <;> simp [regA, hl]
end Go.Proofs.YtijommlodgpphaaDoor
