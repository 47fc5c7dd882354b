/-
  No statement of the seat is proved here. (Several texts in one: EvRb, EvWh.)
-/
import Derived.Test.YtjmmjkoloioddaaDoorEvRa
import Derived.Test.YtjmmjkoloioddaaDoorEvRd
import Derived.Test.YtjmmjkoloioddaaDoorEvRe
import Derived.Test.YtjmmjkoloioddaaDoorM09WiF
import Derived.Test.YtjmmjkoloioddaaDoorM05OpC

/- A walk of the document's Formed (package parleyref13). No statement of the seat is proved here. -/
namespace Go.Proofs.YtjmmjkoloioddaaDoor
open Go.RowKit Go.Shelf

set_option maxRecDepth 100000 in
set_option maxHeartbeats 4000000 in
theorem rformed_out (th kd ad wd : Int) (own : Bool) (er : Int) (w : World) (h : th < 0 ∨ 8 ≤ th ∨ kd < 1 ∨ 12 < kd) : Calls Tryd.prog 67 #[.agg #[.int .i64 th, .int .i64 kd, .int .u64 ad, .int .u64 wd, .bool own, .int .i64 er]] w (FP th kd ad wd own er w) := by
  have hfe : formedE ⟨th, kd, ad, wd, own, er⟩ = false := by
    unfold formedE inB
    rcases h with h | h | h | h
    · simp [show ¬ 0 ≤ th by omega]
    · simp [show ¬ th < 8 by omega]
    · simp [show ¬ 1 ≤ kd by omega]
    · simp [show ¬ kd ≤ 12 by omega]
  by_cases a1 : th < 0
  · go_enter Tryd.func67, Tryd.ntmps67
    go_wp2_with fail
    go_ret
    exact FP.mk hfe
  · by_cases a2 : 8 ≤ th
    · go_enter Tryd.func67, Tryd.ntmps67
      go_wp2_with fail
      go_ret
      exact FP.mk hfe
    · by_cases a3 : kd < 1
      · go_enter Tryd.func67, Tryd.ntmps67
        go_wp2_with fail
        go_ret
        exact FP.mk hfe
      · have a4 : 12 < kd := by omega
        go_enter Tryd.func67, Tryd.ntmps67
        go_wp2_with fail
        go_ret
        exact FP.mk hfe
theorem rformed_any (e : Ev) (hwf : e.wf) (w : World) : Calls Tryd.prog 67 #[.agg e.cells] w fun ex w' => ex = .returned (.bool (formedE e)) ∧ Keeps (fun _ => False) w w' := by
  obtain ⟨th, kd, ad, wd, own, er⟩ := e
  obtain ⟨-, -, -, ⟨w0, -⟩, -⟩ := hwf
  dsimp only at w0
  by_cases h : th < 0 ∨ 8 ≤ th ∨ kd < 1 ∨ 12 < kd
  · exact rformed_out th kd ad wd own er w h
  · have t0 : 0 ≤ th := by omega
    have t8 : th < 8 := by omega
    rcases kd12 (k := kd) (by omega) (by omega) with rfl | rfl | rfl | rfl | rfl | rfl | rfl | rfl | rfl | rfl | rfl | rfl
    · exact rformed1 th ad wd own er w t0 t8 w0
    · exact rformed2 th ad wd own er w t0 t8 w0
    · exact rformed3 th ad wd own er w t0 t8 w0
    · exact rformed4 th ad wd own er w t0 t8 w0
    · exact rformed5 th ad wd own er w t0 t8 w0
    · exact rformed6 th ad wd own er w t0 t8 w0
    · exact rformed7 th ad wd own er w t0 t8 w0
    · exact rformed8 th ad wd own er w t0 t8 w0
    · exact rformed9 th ad wd own er w t0 t8 w0
    · exact rformed10 th ad wd own er w t0 t8 w0
    · exact rformed11 th ad wd own er w t0 t8 w0
    · exact rformed12 th ad wd own er w t0 t8 w0
end Go.Proofs.YtjmmjkoloioddaaDoor


/- Small laws. No statement of the seat is proved here. -/
namespace Go.Proofs.YtjmmjkoloioddaaDoor
open Go.RowKit Go.Shelf

theorem blk6' {w : World} {g : Nat} {a b c d e f : Value} {t : TypeId} {fr : Nat × Nat} (h : w.heap[g]? = some (.cells #[a, b, c, d, e, f] t fr)) : w.cell? ⟨g, 0, none⟩ = some a ∧ w.cell? ⟨g, 1, none⟩ = some b ∧ w.cell? ⟨g, 2, none⟩ = some c ∧ w.cell? ⟨g, 3, none⟩ = some d ∧ w.cell? ⟨g, 4, none⟩ = some e ∧ w.cell? ⟨g, 5, none⟩ = some f :=
  ⟨by rw [cell_of_block h]; rfl, by rw [cell_of_block h]; rfl, by rw [cell_of_block h]; rfl, by rw [cell_of_block h]; rfl, by rw [cell_of_block h]; rfl, by rw [cell_of_block h]; rfl⟩
theorem wp_held_end {P : Program} {ops : Array Oper} {Q : Exit → Act → World → Prop} {id : Nat} {a : Act} {w : World} {S : World → Prop} (N : Nat) (hN : ops.size = N) (hm : P.follows .mixedOrders = true)
    (h : wpAnyH P .any ops (atEnd (Q .normal)) S N (Array.replicate N false) a w.drew) : (Code.region id ops true).wp P Q a w := by
  subst hN
  exact Code.wp_mono (fun e a w h => by cases e <;> first | exact h | exact h.elim) (wp_region_held hm h)
theorem hmx2 : Tryd.prog.follows .mixedOrders = true := by kernel_rfl

end Go.Proofs.YtjmmjkoloioddaaDoor
