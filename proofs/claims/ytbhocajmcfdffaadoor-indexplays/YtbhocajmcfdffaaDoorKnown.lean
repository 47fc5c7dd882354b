/-
  The walk of the law's small table 'known': it returns true, and turns nothing that was there. No statement of the seat is proved here.
-/
import Derived.Test.YtbhocajmcfdffaaDoorPutS
namespace Go.Proofs.YtbhocajmcfdffaaDoor
open Go.RowKit

theorem good_new {w : World} {b s e0 : Nat} {bf : Int → Nat} {vf : Int → Value} (h : TabAt S.kinds w b s e0 (List.replicate 8 none) [] bf vf) : S.Good w b s e0 3 (List.replicate 8 none) [] bf vf :=
  ⟨h, Inv.empty (fun k => homeP_lt 3 (by decide) k) (by decide), by simp, by decide, by decide, by simp⟩

def kn1 : List (Option Int) := (List.replicate 8 none).set (slotN (2 ^ 3) (List.replicate 8 none) (homeP 3 0) 0) (some 0)
def kn2 : List (Option Int) := kn1.set (slotN (2 ^ 3) kn1 (homeP 3 5) 5) (some 5)
theorem Tz.pos {w : World} (h : Tz w) : 0 < w.heap.size := World.block_lt_of_cell? _ _ (h 0 (by decide))
theorem kn2_look : (lookN (2 ^ 3) kn2 (homeP 3 0) 0, lookN (2 ^ 3) kn2 (homeP 3 5) 5, lookN (2 ^ 3) kn2 (homeP 3 2) 2, lookN (2 ^ 3) kn2 (homeP 3 8) 8) = (0, 1, 1, 0) := by decide +kernel
theorem kn2_len : kn2.length = 8 := by decide +kernel

theorem keeps_new {S : Nat → Prop} {w w1 w2 : World} (h1 : Keeps (fun _ => False) w w1) (h2 : Keeps S w1 w2) (hS : ∀ k, S k → w.heap.size ≤ k) : Keeps (fun _ => False) w w2 :=
  h1.step h2 (fun i hi hs => by have := hS i hs; omega)

set_option maxRecDepth 100000 in
set_option maxHeartbeats 1000000 in
theorem known_any (w : World) (hw : Tz w) : Calls Tryd.prog 16 #[] w fun e w' => e = .returned (.bool true) ∧ Keeps (fun _ => False) w w' := by
  go_enter Tryd.func16, Tryd.ntmps16
  go_wp2_with fail
  refine (S.new_at (fun _ => .string (ByteArray.mk #[])) w).mono ?_
  rintro e w1 ⟨rfl, t1, k1, z1⟩
  have g1 := good_new t1
  have hw1 := hw.keeps k1 (fun f => f)
  have HZ : Hid (w1.heap.size = w.heap.size + 3) := z1
  clear z1
  go_wp2_with fail
  refine (S.put_out _ _ _ _ _ _ _ _ 0 _ _ g1 hw1 (by simp) (by decide) (by simp)).mono ?_
  rintro e w2 ⟨rfl, g2, k2⟩
  have hp := hw.pos
  have hS2 : ∀ k, Own (w.heap.size + 2) (w.heap.size + 1) w.heap.size [] (fun _ => 0) k → w.heap.size ≤ k := by
    rintro k (rfl | rfl | rfl | ⟨q, hq, rfl⟩)
    · omega
    · omega
    · omega
    · cases hq
  have hw2 := hw1.keeps k2 (fun h => by have := hS2 _ h; omega)
  replace k2 := keeps_new k1 k2 hS2
  have hf : S.Good w2 (w.heap.size + 2) (w.heap.size + 1) w.heap.size 3 kn1 [0] (upd (fun _ => 0) 0 w1.heap.size) (upd (fun _ => .string (ByteArray.mk #[])) 0 (.string (ByteArray.mk #[97]))) := g2
  clear g1 g2 t1 hw1 hS2
  have hle : w.heap.size ≤ w1.heap.size := k1.size
  clear k1
  go_wp2_with fail
  refine (S.put_out _ _ _ _ _ _ _ _ 5 _ _ hf hw2 (by simp) (by decide) (by simp)).mono ?_
  rintro e w3 ⟨rfl, g3, k3⟩
  have hS3 : ∀ k, Own (w.heap.size + 2) (w.heap.size + 1) w.heap.size [0] (upd (fun _ => 0) 0 w1.heap.size) k → w.heap.size ≤ k := by
    rintro k (rfl | rfl | rfl | ⟨q, hq, rfl⟩)
    · omega
    · omega
    · omega
    · simp at hq
      subst hq
      rw [upd_same]
      exact hle
  have hw3 := hw2.keeps k3 (fun h => by have := hS3 _ h; omega)
  have hle2 : w.heap.size ≤ w2.heap.size := k2.size
  replace k3 := keeps_new k2 k3 hS3
  have hf3 : S.Good w3 (w.heap.size + 2) (w.heap.size + 1) w.heap.size 3 kn2 [0, 5] (upd (upd (fun _ => 0) 0 w1.heap.size) 5 w2.heap.size) (upd (upd (fun _ => .string (ByteArray.mk #[])) 0 (.string (ByteArray.mk #[97]))) 5 (.string (ByteArray.mk #[98]))) := g3
  have hv : upd (upd (fun _ => Value.string (ByteArray.mk #[])) 0 (.string (ByteArray.mk #[97]))) 5 (.string (ByteArray.mk #[98])) 0 = .string (ByteArray.mk #[97]) := by rw [upd_other _ _ (by decide), upd_same]
  have hS4 : ∀ k, Own (w.heap.size + 2) (w.heap.size + 1) w.heap.size [0, 5] (upd (upd (fun _ => 0) 0 w1.heap.size) 5 w2.heap.size) k → w.heap.size ≤ k := by
    rintro k (rfl | rfl | rfl | ⟨q, hq, rfl⟩)
    · omega
    · omega
    · omega
    · simp at hq
      rcases hq with rfl | rfl
      · rw [upd_other _ _ (by decide), upd_same]
        exact hle
      · rw [upd_same]
        exact hle2
  generalize upd (upd (fun _ => 0) 0 w1.heap.size) 5 w2.heap.size = bf at *
  generalize upd (upd (fun _ => Value.string (ByteArray.mk #[])) 0 (.string (ByteArray.mk #[97]))) 5 (.string (ByteArray.mk #[98])) = vf at *
  clear hf g3 hw2 hS3 k2
  go_wp2_with fail
  refine (S.put_in _ _ _ _ _ _ _ _ 0 _ _ hf3 hw3 (by simp)).mono ?_
  rintro e w4 ⟨rfl, g4, k4⟩
  rw [hv]
  have hw4 := hw3.keeps k4 (fun h => by have := hS4 _ h; omega)
  replace k4 := keeps_new k3 k4 hS4
  clear hf3 hw3 k3 hv hS4 hle hle2
  have hl := kn2_look
  simp only [Prod.mk.injEq] at hl
  obtain ⟨l0, l5, l2, l8⟩ := hl
  have a0 := S.asked_at _ _ _ _ _ 0 _ g4.seen hw4 g4.inv.free
  have a5 := S.asked_at _ _ _ _ _ 5 _ g4.seen hw4 g4.inv.free
  have a2 := S.asked_at _ _ _ _ _ 2 _ g4.seen hw4 g4.inv.free
  have a8 := S.asked_at _ _ _ _ _ 8 _ g4.seen hw4 g4.inv.free
  rw [l0] at a0
  rw [l5] at a5
  rw [l2] at a2
  rw [l8] at a8
  have hs := S.slots_at _ _ _ _ _ g4.tab.c0
  rw [kn2_len] at hs
  clear g4 l0 l5 l2 l8
  go_wp2_with (go_at_call 40; refine (num_any _ _).mono ?_; rintro e w' ⟨rfl, rfl⟩)
  refine hs.mono ?_
  rintro e w' ⟨rfl, rfl⟩
  go_wp2_with (go_at_call 40; refine (num_any _ _).mono ?_; rintro e w' ⟨rfl, rfl⟩)
  refine a0.mono ?_
  rintro e w' ⟨rfl, rfl⟩
  go_wp2_with (go_at_call 40; refine (num_any _ _).mono ?_; rintro e w' ⟨rfl, rfl⟩)
  refine a5.mono ?_
  rintro e w' ⟨rfl, rfl⟩
  go_wp2_with (go_at_call 40; refine (num_any _ _).mono ?_; rintro e w' ⟨rfl, rfl⟩)
  refine a2.mono ?_
  rintro e w' ⟨rfl, rfl⟩
  go_wp2_with (go_at_call 40; refine (num_any _ _).mono ?_; rintro e w' ⟨rfl, rfl⟩)
  refine a8.mono ?_
  rintro e w' ⟨rfl, rfl⟩
  go_wp2_with fail
  go_ret
  exact ⟨rfl, k4⟩
end Go.Proofs.YtbhocajmcfdffaaDoor
