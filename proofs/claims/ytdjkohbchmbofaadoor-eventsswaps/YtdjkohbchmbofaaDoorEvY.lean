
/- A whole event stored into a row of the call's own, in a region that leaves its order open. No statement of the seat is proved here. -/
import Derived.Test.YtdjkohbchmbofaaDoorEvX
import Derived.Test.YtdjkohbchmbofaaDoorEvN
import Derived.Test.YtdjkohbchmbofaaDoorARoundC
import Derived.Deep.MidRow
import Derived.Deep.RegionHeld3
namespace Go.Proofs.YtdjkohbchmbofaaDoor
open Go.RowKit Go.Shelf

theorem run_store_mid_op {P : Program} {o : Oper} {a : Act} {w : World} {x y : Operand} {ty : TypeId} (ho : o.op = .store ty x y) (g off : Nat) (cells : Array Value) (hx : a.eval x = .pointer (some ⟨g, off, none⟩)) (hy : a.eval y = .agg cells)
    (ht : w.there g off cells.size) (hi : (P.info? ty).map (·.size) = some cells.size) (h1 : cells.all (·.oneCell') = true) : (execOp a.eval o).run P w = .ok .skip (w.setCells g off cells.toList) := by
  unfold execOp
  simp only [ho, hx, hy, run_storeAt_mid w g off ty cells ht hi h1, Sem.run_bind, Sem.run_pure, Result.andThen_ok]
theorem there_of {w : World} {g off n : Nat} {cur : Array Value} {t : TypeId} (hb : w.heap[g]? = some (.cells cur t (0, 0))) (h : off + n ≤ cur.size) : w.there g off n := fun j hj => by
  refine ⟨?_, frozen_of_block hb _⟩
  rw [cell_of_block hb, Array.getElem?_eq_getElem (by omega)]
  rfl
theorem OwnR.setEv {t : TypeId} {w : World} {base g n cap : Nat} {L : List Ev} (h : OwnR Ev.cl 6 t w base (.slice (some ⟨g, 0, none⟩) n cap) L) (k : Nat) (y : Ev) (hk : k < L.length) :
    OwnR Ev.cl 6 t (w.setCells g (k * 6) y.cl) base (.slice (some ⟨g, 0, none⟩) n cap) (L.set k y) := by
  obtain ⟨z, hz⟩ : ∃ z, L[k] = z := ⟨_, rfl⟩
  have a0 := h.set ev_len k 0 ⟨y.th, z.kd, z.ad, z.wd, z.own, z.er⟩ (.int .i64 y.th) hk (by decide) (by rw [hz]; rfl)
  have a1 := a0.set ev_len k 1 ⟨y.th, y.kd, z.ad, z.wd, z.own, z.er⟩ (.int .i64 y.kd) (by simpa using hk) (by decide) (by rw [List.getElem_set_self]; rfl)
  have a2 := a1.set ev_len k 2 ⟨y.th, y.kd, y.ad, z.wd, z.own, z.er⟩ (.int .u64 y.ad) (by simpa using hk) (by decide) (by rw [List.getElem_set_self]; rfl)
  have a3 := a2.set ev_len k 3 ⟨y.th, y.kd, y.ad, y.wd, z.own, z.er⟩ (.int .u64 y.wd) (by simpa using hk) (by decide) (by rw [List.getElem_set_self]; rfl)
  have a4 := a3.set ev_len k 4 ⟨y.th, y.kd, y.ad, y.wd, y.own, z.er⟩ (.bool y.own) (by simpa using hk) (by decide) (by rw [List.getElem_set_self]; rfl)
  have a5 := a4.set ev_len k 5 y (.int .i64 y.er) (by simpa using hk) (by decide) (by rw [List.getElem_set_self]; rfl)
  simp only [List.set_set] at a5
  exact a5
theorem cells_keeps {g : Nat} : ∀ (vs : List Value) (o : Nat) (w : World), Keeps (fun q => q = g) w (w.setCells g o vs)
  | [], _, w => Keeps.refl _ w
  | v :: vs, o, w => ((Keeps.refl (fun q => q = g) w).setCell (p := ⟨g, o, none⟩) (.inr rfl) v).trans (cells_keeps vs (o + 1) _)
@[go_sem] theorem field_odd (c b : Int) (w : World) : (Instr.field 27 (.agg #[.int .i64 c, .int .i64 b]) 1).run Tryd.prog w = .ok (.int .i64 b) w := by
  have u4 := Tryd.underlying25
  have a4 := Tryd.isAgg25
  have z4 := Tryd.sizeOf25
  unfold Instr.field
  simp only [Sem.run_bind, run_underlying Tryd.underlying27, Result.andThen_ok]
  go_simp
  simp [asAgg]
theorem blk6 {w : World} {p : Nat} {v0 v1 v2 v3 v4 v5 : Value} {t : TypeId} (h : w.heap[p]? = some (.cells #[v0, v1, v2, v3, v4, v5] t (0, 0))) : w.cell? ⟨p, 0, none⟩ = some v0 ∧ w.cell? ⟨p, 1, none⟩ = some v1 ∧ w.cell? ⟨p, 2, none⟩ = some v2 ∧ w.cell? ⟨p, 3, none⟩ = some v3 ∧ w.cell? ⟨p, 4, none⟩ = some v4 ∧ w.cell? ⟨p, 5, none⟩ = some v5 := by
  refine ⟨?_, ?_, ?_, ?_, ?_, ?_⟩ <;> (rw [cell_of_block h]; rfl)
end Go.Proofs.YtdjkohbchmbofaaDoor
