
/- Walks of the program's clock (package seq): Take, let, Leave, Back, From, New. No statement of the seat is proved here. -/
import Derived.Test.YtlldffbohojppaaSeqB
namespace Go.Proofs.Ytlldffbohojppaa
open Go.RowKit

set_option maxHeartbeats 400000 in
theorem take_at (p b c : Nat) (x st s : Int) (w : World) (h : ClkAt w p b c x st) (hs : 0 ≤ s) (hs1 : s < 18446744073709551616) :
    Calls Try.prog 16 #[.pointer (some ⟨p, 0, none⟩), .int .u64 s] w fun e w' => e = .returned (.tuple #[.bool (turns x s s), .int .i64 0]) ∧ ClkAt w' p b c (if turns x s s then upw s 1 else x) (inc st) ∧ Keeps (own3 p b c) w w' := by
  have c0 := h.cell0
  have ht := fun w' (h : ClkAt w' p b c x st) => turn_at p b c x st s s (upw s 1) w' h hs hs1 (upw_lo _ _) (upw_hi _ _)
  generalize (if turns x s s then upw s 1 else x) = y at ht ⊢
  generalize turns x s s = q at ht ⊢
  unfold upw at ht
  go_enter_defers Try.func16, Try.ntmps16
  go_wp2_with fail
  refine (cmade_at p b _ c0).mono ?_
  rintro e w' ⟨rfl, rfl⟩
  go_wp2_with fail
  refine (ht _ h).mono ?_
  rintro e w1 ⟨rfl, h1, k1⟩
  clear ht
  go_wp2_with fail
  refine leaves_cons (f := 28) (args := #[.pointer (some ⟨p, 0, none⟩)]) (by simp) (by simp [go_sem]) ?_
  refine (count_d p st .returning _ h1.cell1 (h1.frozen 1)).mono ?_
  rintro e u' w'' ⟨rfl, rfl, rfl⟩
  exact ⟨_, results_tmp2 rfl _ _ _, rfl, h1.step _, keeps_step k1 _⟩

set_option maxHeartbeats 400000 in
theorem let_at (p b c : Nat) (x st s v : Int) (w : World) (h : ClkAt w p b c x st) (hs : 0 ≤ s) (hs1 : s < 18446744073709551616) (hv : 0 ≤ v) (hv1 : v < 18446744073709551616) :
    Calls Try.prog 31 #[.pointer (some ⟨p, 0, none⟩), .int .u64 s, .int .u64 v] w fun e w' => e = .returned (.int .i64 (if turns x s (upw s 1) then 0 else 160)) ∧ ClkAt w' p b c (if turns x s (upw s 1) then v else x) (inc st) ∧ Keeps (own3 p b c) w w' := by
  have c0 := h.cell0
  have ht := fun w' (h : ClkAt w' p b c x st) => turn_at p b c x st s (upw s 1) v w' h hs hs1 hv hv1
  generalize (if turns x s (upw s 1) then v else x) = y at ht ⊢
  generalize turns x s (upw s 1) = q at ht ⊢
  unfold upw at ht
  cases q
  · rw [if_neg (by decide)]
    go_enter_defers Try.func31, Try.ntmps31
    go_wp2_with fail
    refine (cmade_at p b _ c0).mono ?_
    rintro e w' ⟨rfl, rfl⟩
    go_wp2_with fail
    refine (ht _ h).mono ?_
    rintro e w1 ⟨rfl, h1, k1⟩
    clear ht
    go_wp2_with fail
    refine leaves_cons (f := 28) (args := #[.pointer (some ⟨p, 0, none⟩)]) (by simp) (by simp [go_sem]) ?_
    refine (count_d p st .returning _ h1.cell1 (h1.frozen 1)).mono ?_
    rintro e u' w'' ⟨rfl, rfl, rfl⟩
    exact ⟨_, results_tmp rfl _ _ _, rfl, h1.step _, keeps_step k1 _⟩
  · rw [if_pos rfl]
    go_enter_defers Try.func31, Try.ntmps31
    go_wp2_with fail
    refine (cmade_at p b _ c0).mono ?_
    rintro e w' ⟨rfl, rfl⟩
    go_wp2_with fail
    refine (ht _ h).mono ?_
    rintro e w1 ⟨rfl, h1, k1⟩
    clear ht
    go_wp2_with fail
    refine leaves_cons (f := 28) (args := #[.pointer (some ⟨p, 0, none⟩)]) (by simp) (by simp [go_sem]) ?_
    refine (count_d p st .returning _ h1.cell1 (h1.frozen 1)).mono ?_
    rintro e u' w'' ⟨rfl, rfl, rfl⟩
    exact ⟨_, results_tmp rfl _ _ _, rfl, h1.step _, keeps_step k1 _⟩

set_option maxHeartbeats 400000 in
theorem leave_at (p b c : Nat) (x st s : Int) (w : World) (h : ClkAt w p b c x st) (hs : 0 ≤ s) (hs1 : s < 18446744073709551616) :
    Calls Try.prog 17 #[.pointer (some ⟨p, 0, none⟩), .int .u64 s] w fun e w' => e = .returned (.int .i64 (if turns x s (upw s 1) then 0 else 160)) ∧ ClkAt w' p b c (if turns x s (upw s 1) then upw s 2 else x) (inc st) ∧ Keeps (own3 p b c) w w' := by
  have ht := fun w' (h : ClkAt w' p b c x st) => let_at p b c x st s (upw s 2) w' h hs hs1 (upw_lo _ _) (upw_hi _ _)
  generalize (if turns x s (upw s 1) then upw s 2 else x) = y at ht ⊢
  generalize (if turns x s (upw s 1) then (0 : Int) else 160) = q at ht ⊢
  unfold upw at ht
  go_enter Try.func17, Try.ntmps17
  go_wp2_with fail
  refine (ht _ h).mono ?_
  rintro e w1 ⟨rfl, h1, k1⟩
  clear ht
  go_wp2_with fail
  go_ret
  exact ⟨rfl, h1, k1⟩

set_option maxHeartbeats 400000 in
theorem back_at (p b c : Nat) (x st s : Int) (w : World) (h : ClkAt w p b c x st) (hs : 0 ≤ s) (hs1 : s < 18446744073709551616) :
    Calls Try.prog 18 #[.pointer (some ⟨p, 0, none⟩), .int .u64 s] w fun e w' => e = .returned (.int .i64 (if turns x s (upw s 1) then 0 else 160)) ∧ ClkAt w' p b c (if turns x s (upw s 1) then s else x) (inc st) ∧ Keeps (own3 p b c) w w' := by
  have ht := fun w' (h : ClkAt w' p b c x st) => let_at p b c x st s s w' h hs hs1 hs hs1
  generalize (if turns x s (upw s 1) then s else x) = y at ht ⊢
  generalize (if turns x s (upw s 1) then (0 : Int) else 160) = q at ht ⊢
  go_enter Try.func18, Try.ntmps18
  go_wp2_with fail
  refine (ht _ h).mono ?_
  rintro e w1 ⟨rfl, h1, k1⟩
  clear ht
  go_wp2_with fail
  go_ret
  exact ⟨rfl, h1, k1⟩

set_option maxHeartbeats 400000 in
theorem from_any (x : Int) (h0 : 0 ≤ x) (h1 : x < 18446744073709551616) (w : World) :
    Calls Try.prog 7 #[.int .u64 x] w fun e w' => ∃ p b c, e = .returned (.pointer (some ⟨p, 0, none⟩)) ∧ ClkAt w' p b c x 0 ∧ Keeps (fun _ => False) w w' ∧ w.heap.size ≤ p ∧ w.heap.size ≤ b ∧ w.heap.size ≤ c := by
  go_enter Try.func7, Try.ntmps7
  go_wp2_with fail
  refine (of_yes _ 1 1 [x] _ rfl (Reads.block (e := 22) (MapKept.heap_alloc w _).1) (by omega) (by omega)).mono ?_
  rintro e w1 ⟨rfl, r1, k1⟩
  have k2 : Keeps (fun _ => False) w w1 := ((Keeps.refl _ w).alloc _).trans k1
  have lb := r1.ltb
  have lc := r1.ltc
  have sz := k2.size
  have e1 : ∀ o, (w.alloc o).heap.size = w.heap.size + 1 := fun o => by simp
  rw [e1] at r1 lb lc
  clear e1
  clear k1
  go_wp2_with fail
  go_ret
  refine ⟨w1.heap.size, _, _, rfl, ⟨?_, ⟨0, r1.alloc _⟩, by omega, by omega, h0, h1⟩, k2.alloc _, by omega, by omega, by omega⟩
  exact (MapKept.heap_alloc w1 _).1

set_option maxHeartbeats 400000 in
theorem new_any (w : World) :
    Calls Try.prog 8 #[] w fun e w' => ∃ p b c, e = .returned (.pointer (some ⟨p, 0, none⟩)) ∧ ClkAt w' p b c 0 0 ∧ Keeps (fun _ => False) w w' ∧ w.heap.size ≤ p ∧ w.heap.size ≤ b ∧ w.heap.size ≤ c := by
  go_enter Try.func8, Try.ntmps8
  go_wp2_with fail
  refine (from_any 0 (by omega) (by omega) _).mono ?_
  rintro e w1 ⟨p, b, c, rfl, h, k⟩
  go_wp2_with fail
  go_ret
  exact ⟨p, b, c, rfl, h, k⟩

end Go.Proofs.Ytlldffbohojppaa
