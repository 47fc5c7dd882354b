
/- The law ListNil, walked (layer 21). No statement of the seat is proved here. -/
import Derived.Test.YtbdekpccddmehaaLrE
namespace Go.Proofs.Ytbdekpccddmehaa
open Go.RowKit

set_option maxRecDepth 100000 in
set_option maxHeartbeats 4000000 in
theorem nil_walk (kind on key r l : Int) (w : World) : Calls Try.prog 6 #[.agg #[.int .i64 kind, .int .i64 on, .int .u64 key], .int .u64 r, .int .u64 l] w fun e w' => e = .returned (.bool true) ∧ Keeps (fun _ => False) w w' := by
  have HB : Hid (∀ X, Keeps (fun _ => False) (w.alloc (.cells #[.int .i64 kind, .int .i64 on, .int .u64 key] 33)) X → X.heap[w.heap.size]? = some (.cells #[.int .i64 kind, .int .i64 on, .int .u64 key] 33 (0, 0)) ∧ Keeps (fun _ => False) w X) := by
    intro X k
    exact ⟨(k.block w.heap.size (by simp) (fun f => f)).trans (alloc_block w _), (keeps_new w _).trans k⟩
  by_cases hk : 1 ≤ kind ∧ kind ≤ 9
  · have hs : erN kind = 1 := if_pos hk
    obtain ⟨hk1, hk9⟩ := hk
    go_enter Try.func6, Try.ntmps6
    go_wp2_with fail
    refine (new_nil r _).mono ?_
    rintro e_ w1 ⟨rfl, k1⟩
    have hb := (HB.out w1 k1).1
    have b0 : w1.cell? ⟨w.heap.size, 0, none⟩ = some (.int .i64 kind) := by rw [cell_of_block hb]; rfl
    have b1 : w1.cell? ⟨w.heap.size, 1, none⟩ = some (.int .i64 on) := by rw [cell_of_block hb]; rfl
    have b2 : w1.cell? ⟨w.heap.size, 2, none⟩ = some (.int .u64 key) := by rw [cell_of_block hb]; rfl
    have KK := hid k1
    clear hb k1
    go_wp2_with fail
    refine (do_nil r l kind on key _).mono ?_
    rintro e_ w2 ⟨rfl, k2⟩
    rw [hs]
    clear b0 b1 b2
    replace KK := hid (KK.out.trans k2)
    clear k2
    have HR : Hid (∀ X, Keeps (fun _ => False) (w2.alloc (.cells #[.int .u64 0, .bool false, .slice none 0 0, .int .i64 1] 38)) X → RpAt X w2.heap.size 0 false (.slice none 0 0) 1) := fun X k => (k.block w2.heap.size (by simp) (fun f => f)).trans (alloc_block w2 _)
    go_wp2_with fail
    refine (drop_nil r l _).mono ?_
    rintro e_ w3 ⟨rfl, k3⟩
    have hr := HR.out w3 k3
    replace KK := hid ((KK.out.alloc _).trans k3)
    have hb := (HB.out w3 KK.out).1
    have b0 : w3.cell? ⟨w.heap.size, 0, none⟩ = some (.int .i64 kind) := by rw [cell_of_block hb]; rfl
    have q0 := hr.c0
    have q1 := hr.c1
    have q2 := hr.c2
    have q3 := hr.c3
    clear hb hr k3 HR
    go_wp2_with fail
    have hl0 : Lies w3 (.slice none 0 0) [] := ⟨none, 0, rfl, fun i hi => absurd hi (by simp)⟩
    refine (same_any 0 1 false (.slice none 0 0) (.slice none 0 0) [] (by simp) w3 hl0 hl0).mono ?_
    rintro e_ w4 ⟨rfl, k4⟩
    replace KK := hid (KK.out.trans k4)
    clear k4 hl0 q0 q1 q2 q3 b0
    go_wp2_with fail
    refine (known_any _).mono ?_
    rintro e_ w5 ⟨rfl, k5⟩
    replace KK := hid (KK.out.trans k5)
    clear k5
    go_wp2_with fail
    go_ret
    exact ⟨rfl, (HB.out _ KK.out).2⟩
  · have hs : erN kind = 0 := if_neg hk
    by_cases hk1 : kind < 1
    · clear hk
      go_enter Try.func6, Try.ntmps6
      go_wp2_with fail
      refine (new_nil r _).mono ?_
      rintro e_ w1 ⟨rfl, k1⟩
      have hb := (HB.out w1 k1).1
      have b0 : w1.cell? ⟨w.heap.size, 0, none⟩ = some (.int .i64 kind) := by rw [cell_of_block hb]; rfl
      have b1 : w1.cell? ⟨w.heap.size, 1, none⟩ = some (.int .i64 on) := by rw [cell_of_block hb]; rfl
      have b2 : w1.cell? ⟨w.heap.size, 2, none⟩ = some (.int .u64 key) := by rw [cell_of_block hb]; rfl
      have KK := hid k1
      clear hb k1
      go_wp2_with fail
      refine (do_nil r l kind on key _).mono ?_
      rintro e_ w2 ⟨rfl, k2⟩
      rw [hs]
      clear b0 b1 b2
      replace KK := hid (KK.out.trans k2)
      clear k2
      have HR : Hid (∀ X, Keeps (fun _ => False) (w2.alloc (.cells #[.int .u64 0, .bool false, .slice none 0 0, .int .i64 0] 38)) X → RpAt X w2.heap.size 0 false (.slice none 0 0) 0) := fun X k => (k.block w2.heap.size (by simp) (fun f => f)).trans (alloc_block w2 _)
      go_wp2_with fail
      refine (drop_nil r l _).mono ?_
      rintro e_ w3 ⟨rfl, k3⟩
      have hr := HR.out w3 k3
      replace KK := hid ((KK.out.alloc _).trans k3)
      have hb := (HB.out w3 KK.out).1
      have b0 : w3.cell? ⟨w.heap.size, 0, none⟩ = some (.int .i64 kind) := by rw [cell_of_block hb]; rfl
      have q0 := hr.c0
      have q1 := hr.c1
      have q2 := hr.c2
      have q3 := hr.c3
      clear hb hr k3 HR
      go_wp2_with fail
      refine (known_any _).mono ?_
      rintro e_ w5 ⟨rfl, k5⟩
      replace KK := hid (KK.out.trans k5)
      clear k5
      go_wp2_with fail
      go_ret
      exact ⟨rfl, (HB.out _ KK.out).2⟩
    · have hk9 : 9 < kind := by omega
      have hk1' : 1 ≤ kind := by omega
      clear hk hk1
      go_enter Try.func6, Try.ntmps6
      go_wp2_with fail
      refine (new_nil r _).mono ?_
      rintro e_ w1 ⟨rfl, k1⟩
      have hb := (HB.out w1 k1).1
      have b0 : w1.cell? ⟨w.heap.size, 0, none⟩ = some (.int .i64 kind) := by rw [cell_of_block hb]; rfl
      have b1 : w1.cell? ⟨w.heap.size, 1, none⟩ = some (.int .i64 on) := by rw [cell_of_block hb]; rfl
      have b2 : w1.cell? ⟨w.heap.size, 2, none⟩ = some (.int .u64 key) := by rw [cell_of_block hb]; rfl
      have KK := hid k1
      clear hb k1
      go_wp2_with fail
      refine (do_nil r l kind on key _).mono ?_
      rintro e_ w2 ⟨rfl, k2⟩
      rw [hs]
      clear b0 b1 b2
      replace KK := hid (KK.out.trans k2)
      clear k2
      have HR : Hid (∀ X, Keeps (fun _ => False) (w2.alloc (.cells #[.int .u64 0, .bool false, .slice none 0 0, .int .i64 0] 38)) X → RpAt X w2.heap.size 0 false (.slice none 0 0) 0) := fun X k => (k.block w2.heap.size (by simp) (fun f => f)).trans (alloc_block w2 _)
      go_wp2_with fail
      refine (drop_nil r l _).mono ?_
      rintro e_ w3 ⟨rfl, k3⟩
      have hr := HR.out w3 k3
      replace KK := hid ((KK.out.alloc _).trans k3)
      have hb := (HB.out w3 KK.out).1
      have b0 : w3.cell? ⟨w.heap.size, 0, none⟩ = some (.int .i64 kind) := by rw [cell_of_block hb]; rfl
      have q0 := hr.c0
      have q1 := hr.c1
      have q2 := hr.c2
      have q3 := hr.c3
      clear hb hr k3 HR
      go_wp2_with fail
      refine (known_any _).mono ?_
      rintro e_ w5 ⟨rfl, k5⟩
      replace KK := hid (KK.out.trans k5)
      clear k5
      go_wp2_with fail
      go_ret
      exact ⟨rfl, (HB.out _ KK.out).2⟩
end Go.Proofs.Ytbdekpccddmehaa
