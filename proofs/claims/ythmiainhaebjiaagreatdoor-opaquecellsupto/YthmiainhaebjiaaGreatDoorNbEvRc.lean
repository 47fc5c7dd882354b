import Derived.Test.YthmiainhaebjiaaGreatDoorM00CMem

/- Walks of the document's pair, single, Formed, turn (package parleyref13). No statement of the seat is proved here. -/
namespace Go.Proofs.YthmiainhaebjiaaGreatDoor
open Go.RowKit Go.Shelf

theorem rpair_any (k : Int) (h0 : 1 ≤ k) (h1 : k ≤ 12) (w : World) : Calls Tryz.prog 113 #[.int .i64 k] w fun e w' => e = .returned (.bool (adB k)) ∧ w' = w := by
  rcases kd12 h0 h1 with rfl | rfl | rfl | rfl | rfl | rfl | rfl | rfl | rfl | rfl | rfl | rfl
  all_goals
    go_enter Tryz.func113, Tryz.ntmps113
    go_wp2
    go_ret
    exact ⟨rfl, rfl⟩
theorem rsingle_any (k : Int) (h0 : 1 ≤ k) (h1 : k ≤ 12) (w : World) : Calls Tryz.prog 114 #[.int .i64 k] w fun e w' => e = .returned (.bool (!adB k && wdB k)) ∧ w' = w := by
  rcases kd12 h0 h1 with rfl | rfl | rfl | rfl | rfl | rfl | rfl | rfl | rfl | rfl | rfl | rfl
  all_goals
    go_enter Tryz.func114, Tryz.ntmps114
    go_wp2
    go_ret
    exact ⟨rfl, rfl⟩
def FP (th kd ad wd : Int) (own : Bool) (er : Int) (w : World) : Ending → World → Prop := fun e w' => e = .returned (.bool (formedE ⟨th, kd, ad, wd, own, er⟩)) ∧ Keeps (fun _ => False) w w'
theorem FP.mk {th kd ad wd : Int} {own b : Bool} {er : Int} {w : World} {o : Obj} (h : formedE ⟨th, kd, ad, wd, own, er⟩ = b) : FP th kd ad wd own er w (.returned (.bool b)) (w.alloc o) := ⟨by rw [h], (Keeps.refl _ w).alloc o⟩
end Go.Proofs.YthmiainhaebjiaaGreatDoor
