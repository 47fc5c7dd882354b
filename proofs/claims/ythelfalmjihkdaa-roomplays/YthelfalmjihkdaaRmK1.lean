
/- The statement's step (layer 20). No statement of the seat is proved here. -/
import Derived.Test.YthelfalmjihkdaaRmJ
namespace Go.Proofs.Ythelfalmjihkdaa
open Go.RowKit

set_option maxRecDepth 100000 in
set_option maxHeartbeats 4000000 in
theorem step_1 (t b g c b' g' c' : Nat) (s : Wd) (x y z : Int) (hx : isW x) (hy : isW y) (hz : isW z) (w : World) (h : Bo w t b g c b' g' c' s s) :
    Calls Try.prog 5 #[.pointer (some ⟨t, 0, none⟩), .pointer (some ⟨b', 0, none⟩), .agg #[.int .i64 1, .int .u64 x, .int .u64 y, .int .u64 z]] w fun e w' => e = .returned (.bool true) ∧ ∃ s2, Bo w' t b g c b' g' c' s2 s2 ∧ Keeps (four b g b' g') w w' := by
  have HP := hid h.lt
  have HB0 : Hid (Bo (w.alloc (.cells #[.int .i64 1, .int .u64 x, .int .u64 y, .int .u64 z] 33)) t b g c b' g' c' s s) := h.new ((Keeps.refl _ w).alloc _)
  have HK0 : Hid (Keeps (four b g b' g') w (w.alloc (.cells #[.int .i64 1, .int .u64 x, .int .u64 y, .int .u64 z] 33))) := (Keeps.refl _ w).alloc _
  clear h
  obtain ⟨⟨e1, s2⟩, eq1⟩ : ∃ r, s.lay x y z = r := ⟨_, rfl⟩
  have HT1 : Hid (∀ X : World, X.heap = (w.alloc (.cells #[.int .i64 1, .int .u64 x, .int .u64 y, .int .u64 z] 33)).heap → X.os = w.os → X.tape = w.tape → X.output = w.output → Calls Try.prog 11 #[.iface 24 (.pointer (some ⟨t, 0, none⟩)), .int .u64 x, .int .u64 y, .int .u64 z] X fun e w' => e = .returned (.int .i64 e1) ∧ (w'.cell? ⟨w.heap.size, 1, none⟩ = some (.int .u64 x) ∧ w'.cell? ⟨w.heap.size, 2, none⟩ = some (.int .u64 y) ∧ w'.cell? ⟨w.heap.size, 3, none⟩ = some (.int .u64 z)) ∧ Hid (Bo w' t b g c b' g' c' s2 s ∧ Keeps (four b g b' g') w w')) := fun X q1 q2 q3 q4 => by
    have kX : Keeps (fun _ => False) (w.alloc (.cells #[.int .i64 1, .int .u64 x, .int .u64 y, .int .u64 z] 33)) X := (Keeps.refl _ _).like q1 q2 q3 q4
    have bX := HB0.out.new kX
    have q := lay_any t b g c s x y z hx hy hz X bX.tw
    rw [eq1] at q
    refine q.mono ?_
    rintro e_ w1 ⟨rfl, h1, k1⟩
    have hb : w1.heap[w.heap.size]? = some _ := box_after ((kX.mono fun _ _ f => f.elim).trans k1) (fun e => by have q := HP.out; rcases e with e | e <;> omega)
    exact ⟨rfl, ⟨cell_of_block hb 1, cell_of_block hb 2, cell_of_block hb 3⟩, hid ⟨bX.own h1 k1, ((HK0.out.trans (kX.mono fun _ _ f => f.elim))).f1 k1⟩⟩
  have HT2 : Hid (∀ X : World, (X.cell? ⟨w.heap.size, 1, none⟩ = some (.int .u64 x) ∧ X.cell? ⟨w.heap.size, 2, none⟩ = some (.int .u64 y) ∧ X.cell? ⟨w.heap.size, 3, none⟩ = some (.int .u64 z)) → Bo X t b g c b' g' c' s2 s ∧ Keeps (four b g b' g') w X → Calls Try.prog 15 #[.pointer (some ⟨b', 0, none⟩), .int .u64 x, .int .u64 y, .int .u64 z] X fun e w' => e = .returned (.int .i64 e1) ∧ (w'.cell? ⟨w.heap.size, 1, none⟩ = some (.int .u64 x) ∧ w'.cell? ⟨w.heap.size, 2, none⟩ = some (.int .u64 y) ∧ w'.cell? ⟨w.heap.size, 3, none⟩ = some (.int .u64 z)) ∧ Hid (Bo w' t b g c b' g' c' s2 s2 ∧ Keeps (four b g b' g') w w')) := fun X hS hB => by
    have q := rlay_any b' g' c' s x y z hx hy hz X hB.1.rw
    rw [eq1] at q
    refine q.mono ?_
    rintro e_ w1 ⟨rfl, h1, k1⟩
    have hb : w1.heap[w.heap.size]? = X.heap[w.heap.size]? := k1.block w.heap.size (World.block_lt_of_cell? _ _ hS.1) (fun e => by have q := HP.out; rcases e with e | e <;> omega)
    exact ⟨rfl, ⟨(World.cell?_of_block hb).trans hS.1, (World.cell?_of_block hb).trans hS.2.1, (World.cell?_of_block hb).trans hS.2.2⟩, hid ⟨hB.1.ref h1 k1, hB.2.f2 k1⟩⟩
  have hS0 : ((w.alloc (.cells #[.int .i64 1, .int .u64 x, .int .u64 y, .int .u64 z] 33)).cell? ⟨w.heap.size, 1, none⟩ = some (.int .u64 x) ∧ (w.alloc (.cells #[.int .i64 1, .int .u64 x, .int .u64 y, .int .u64 z] 33)).cell? ⟨w.heap.size, 2, none⟩ = some (.int .u64 y) ∧ (w.alloc (.cells #[.int .i64 1, .int .u64 x, .int .u64 y, .int .u64 z] 33)).cell? ⟨w.heap.size, 3, none⟩ = some (.int .u64 z)) := ⟨cell_of_block (alloc_block w _) 1, cell_of_block (alloc_block w _) 2, cell_of_block (alloc_block w _) 3⟩
  clear eq1 HB0 HK0
  go_enter Try.func5, Try.ntmps5
  go_wp2_with fail
  go_region_held3 (fun W : World => (W.cell? ⟨w.heap.size, 1, none⟩ = some (.int .u64 x) ∧ W.cell? ⟨w.heap.size, 2, none⟩ = some (.int .u64 y) ∧ W.cell? ⟨w.heap.size, 3, none⟩ = some (.int .u64 z))) (first | assumption | (exact hS0) | go_keep) ((first | (go_at_call 11; refine (HT1.out _ (by exact rfl) (by exact rfl) (by exact rfl) (by exact rfl)).mono ?_; rintro e_ w1 ⟨rfl, hS1, h1⟩) | (go_at_call 10; refine (num_any _ _).mono ?_; rintro e_ w_ ⟨rfl, hw_⟩; subst w_) | (go_at_call 15; refine (HT2.out _ hS1 h1.out).mono ?_; rintro e_ w2 ⟨rfl, hS2, h2⟩)))
  all_goals clear HT1 HT2 h1 hS1 hS0 hS2
  all_goals go_wp2_with fail
  all_goals go_ret
  all_goals exact ⟨by simp, _, h2.out.1, h2.out.2⟩
end Go.Proofs.Ythelfalmjihkdaa
