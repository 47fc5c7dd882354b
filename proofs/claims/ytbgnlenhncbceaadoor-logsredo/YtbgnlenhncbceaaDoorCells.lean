
/-
  Slices of entries that came in. No statement of the seat is proved here.
-/
import Derived.Test.YtbgnlenhncbceaaDoorEnt
namespace Go.Proofs.YtbgnlenhncbceaaDoor
open Go.RowKit Go.Shelf

/-- A slice that reads as these entries. -/
def Pairs (w : World) (v : Value) (cs : List (Int × Int)) : Prop := ∃ a c, v = .slice a cs.length c ∧ ∀ i, i < cs.length → ∃ g off x y, a = some ⟨g, off, none⟩ ∧ cs[i]? = some (x, y) ∧ w.cell? ⟨g, off + i * 2, none⟩ = some (.int .u64 x) ∧ w.cell? ⟨g, off + i * 2 + 1, none⟩ = some (.int .u64 y)
theorem Pairs.keeps {w w' : World} {v : Value} {cs : List (Int × Int)} (h : Pairs w v cs) (k : Keeps (fun _ => False) w w') : Pairs w' v cs := by
  obtain ⟨a, c, hv, hc⟩ := h
  refine ⟨a, c, hv, fun i hi => ?_⟩
  obtain ⟨g, off, x, y, ha, hx, h1, h2⟩ := hc i hi
  have hb := k.block g (World.block_lt_of_cell? _ _ h1) (fun f => f)
  exact ⟨g, off, x, y, ha, hx, (World.cell?_of_block hb).trans h1, (World.cell?_of_block hb).trans h2⟩
/-- One of the entries, wherever what was there stays. -/
theorem Pairs.fixed {w : World} {a : Option Addr} {n c : Nat} {cs : List (Int × Int)} (h : Pairs w (.slice a n c) cs) {k : Nat} (hk : k < cs.length) :
    ∃ g off x y, a = some ⟨g, off, none⟩ ∧ cs[k]? = some (x, y) ∧ Hid (∀ W, Keeps (fun _ => False) w W → W.cell? ⟨g, off + k * 2, none⟩ = some (.int .u64 x) ∧ W.cell? ⟨g, off + k * 2 + 1, none⟩ = some (.int .u64 y)) := by
  obtain ⟨a', c', hv, hc⟩ := h
  injection hv with e1 _ _
  subst e1
  obtain ⟨g, off, x, y, ha, hx, h1, h2⟩ := hc k hk
  refine ⟨g, off, x, y, ha, hx, fun W hW => ?_⟩
  have hb := hW.block g (World.block_lt_of_cell? _ _ h1) (fun f => f)
  exact ⟨(World.cell?_of_block hb).trans h1, (World.cell?_of_block hb).trans h2⟩
theorem Row.pairs {w : World} {v : Value} {es : List (Int × Int)} (h : Row w 72 2 v es.length (entV es)) : Pairs w v es := by
  obtain ⟨a, c, hv, _, _⟩ := h.form
  refine ⟨a, c, hv, fun i hi => ?_⟩
  obtain ⟨g, cap, h1, _, _, h4, _⟩ := h.at (by omega)
  rw [hv] at h1
  injection h1 with h1
  obtain ⟨e1, e2⟩ := entV_get es i (es[i]) (List.getElem?_eq_getElem hi)
  exact ⟨g, 0, (es[i]).1, (es[i]).2, h1, List.getElem?_eq_getElem hi, by rw [Nat.zero_add]; exact (h4 _ (by omega)).trans e1, by rw [Nat.zero_add]; exact (h4 _ (by omega)).trans e2⟩
end Go.Proofs.YtbgnlenhncbceaaDoor
