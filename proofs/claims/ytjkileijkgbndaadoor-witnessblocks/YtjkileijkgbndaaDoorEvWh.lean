
/- Small laws. No statement of the seat is proved here. -/
import Derived.Test.YtjkileijkgbndaaDoorEvK
import Derived.Test.YtjkileijkgbndaaDoorARoundC
namespace Go.Proofs.YtjkileijkgbndaaDoor
open Go.RowKit Go.Shelf

theorem blk6' {w : World} {g : Nat} {a b c d e f : Value} {t : TypeId} {fr : Nat × Nat} (h : w.heap[g]? = some (.cells #[a, b, c, d, e, f] t fr)) : w.cell? ⟨g, 0, none⟩ = some a ∧ w.cell? ⟨g, 1, none⟩ = some b ∧ w.cell? ⟨g, 2, none⟩ = some c ∧ w.cell? ⟨g, 3, none⟩ = some d ∧ w.cell? ⟨g, 4, none⟩ = some e ∧ w.cell? ⟨g, 5, none⟩ = some f :=
  ⟨by rw [cell_of_block h]; rfl, by rw [cell_of_block h]; rfl, by rw [cell_of_block h]; rfl, by rw [cell_of_block h]; rfl, by rw [cell_of_block h]; rfl, by rw [cell_of_block h]; rfl⟩
theorem wp_held_end {P : Program} {ops : Array Oper} {Q : Exit → Act → World → Prop} {id : Nat} {a : Act} {w : World} {S : World → Prop} (N : Nat) (hN : ops.size = N) (hm : P.follows .mixedOrders = true)
    (h : wpAnyH P .any ops (atEnd (Q .normal)) S N (Array.replicate N false) a w.drew) : (Code.region id ops true).wp P Q a w := by
  subst hN
  exact Code.wp_mono (fun e a w h => by cases e <;> first | exact h | exact h.elim) (wp_region_held hm h)
theorem hmx2 : Tryd.prog.follows .mixedOrders = true := by kernel_rfl

end Go.Proofs.YtjkileijkgbndaaDoor
