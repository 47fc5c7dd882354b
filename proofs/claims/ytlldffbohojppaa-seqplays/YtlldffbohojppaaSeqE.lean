
/- The walk of the law's step 'plays' on a clock of the program's and one of the document's. No statement of the seat is proved here. -/
import Derived.Test.YtlldffbohojppaaSeqD
namespace Go.Proofs.Ytlldffbohojppaa
open Go.RowKit

/-- Both clocks, apart from one another. -/
structure Both (w0 w : World) (t : TypeId) (p b c r o : Nat) (blk : Int → Int → Array Value) (x st : Int) : Prop where
  clk : ClkAt w p b c x st
  ref : RefAt w t r o blk x st
  kp : Keeps (fun k => own3 p b c k ∨ k = r) w0 w

def far3 (p b c r : Nat) : Prop := r ≠ p ∧ r ≠ b ∧ r ≠ c

section
variable {w0 w w' : World} {t : TypeId} {p b c r o : Nat} {blk : Int → Int → Array Value} {x st y n : Int}
theorem Both.like (h : Both w0 w t p b c r o blk x st) (l : Like w' w) : Both w0 w' t p b c r o blk x st := ⟨l.clk h.clk, l.ref h.ref, l.keeps h.kp⟩
theorem Both.left (h : Both w0 w t p b c r o blk x st) (f : far3 p b c r) (hc : ClkAt w' p b c y n) (k : Keeps (own3 p b c) w w') : ClkAt w' p b c y n ∧ RefAt w' t r o blk x st ∧ Keeps (fun k => own3 p b c k ∨ k = r) w0 w' :=
  ⟨hc, h.ref.kept k (by unfold own3 far3 at *; omega), h.kp.trans (k.mono (fun _ _ hk => .inl hk))⟩
theorem right_of (f : far3 p b c r) (hc : ClkAt w p b c y n) (hk : Keeps (fun k => own3 p b c k ∨ k = r) w0 w) (hr : RefAt w' t r o blk y n) (k : Keeps (fun k => k = r) w w') : Both w0 w' t p b c r o blk y n :=
  ⟨hc.kept k (by unfold own3 far3 at *; omega), hr, hk.trans (k.mono (fun _ _ hk => .inr hk))⟩
end

/-- What stands when the step has been laid into a new block. -/
theorem laid_step (t : TypeId) (p b c r o : Nat) (blk : Int → Int → Array Value) (x st kd on s : Int) (nr : Bool) (w : World) (h : Both w w t p b c r o blk x st) :
    Both w (w.alloc (.cells #[.int .i64 kd, .int .i64 on, .int .u64 s, .bool nr] 34)) t p b c r o blk x st ∧ (w.alloc (.cells #[.int .i64 kd, .int .i64 on, .int .u64 s, .bool nr] 34)).cell? ⟨w.heap.size, 0, none⟩ = some (.int .i64 kd) ∧ ∀ w2, Keeps (fun k => own3 p b c k ∨ k = r) (w.alloc (.cells #[.int .i64 kd, .int .i64 on, .int .u64 s, .bool nr] 34)) w2 → w2.cell? ⟨w.heap.size, 2, none⟩ = some (.int .u64 s) := by
  have hbx : (w.alloc (.cells #[.int .i64 kd, .int .i64 on, .int .u64 s, .bool nr] 34)).heap[w.heap.size]? = some (.cells #[.int .i64 kd, .int .i64 on, .int .u64 s, .bool nr] 34 (0, 0)) := (MapKept.heap_alloc w _).1
  have hN : ∀ k, (own3 p b c k ∨ k = r) → k < w.heap.size := fun k hk => by
    rcases hk with (rfl | rfl | rfl) | rfl
    · exact h.clk.ltp
    · exact h.clk.ltb
    · exact h.clk.ltc
    · exact h.ref.lt
  refine ⟨⟨h.clk.kept (S := fun _ => False) ((Keeps.refl _ w).alloc _) (fun _ _ f => f), h.ref.kept (S := fun _ => False) ((Keeps.refl _ w).alloc _) (fun f => f), (Keeps.refl _ w).alloc _⟩, cell_of_block hbx 0, fun w2 k2 => ?_⟩
  exact cell_of_block ((k2.block w.heap.size (lt_of_block hbx) (fun hh => by have := hN _ hh; omega)).trans hbx) 2

theorem half_keeps {w w' : World} {p b c r : Nat} (k : Keeps (own3 p b c) w w') : Keeps (fun k => own3 p b c k ∨ k = r) w w' := k.mono (fun _ _ h => .inl h)
theorem ref_keeps {w w' : World} {p b c r : Nat} (k : Keeps (fun k => k = r) w w') : Keeps (fun k => own3 p b c k ∨ k = r) w w' := k.mono (fun _ _ h => .inr h)

set_option maxHeartbeats 1600000 in
theorem plays1 (t : TypeId) (p b c r o : Nat) (blk : Int → Int → Array Value) (x st kd on s : Int) (nr : Bool) (w : World) (h : Both w w t p b c r o blk x st) (f : far3 p b c r) (k1 : (kd == 1) = true) :
    Calls Try.prog 10 #[.pointer (some ⟨p, 0, none⟩), .pointer (some ⟨r, o, none⟩), .agg #[.int .i64 kd, .int .i64 on, .int .u64 s, .bool nr]] w fun e w' => e = .returned (.bool true) ∧ ∃ x' st', Both w w' t p b c r o blk x' st' := by
  obtain ⟨hA, c0, hk2⟩ := laid_step t p b c r o blk x st kd on s nr w h
  have c2 := hk2 _ (Keeps.refl _ _)
  clear h
  go_enter Try.func10, Try.ntmps10
  go_wp2_with fail
  generalize w.alloc (.cells #[.int .i64 kd, .int .i64 on, .int .u64 s, .bool nr] 34) = W at *
  refine (cload_at p b c x st _ hA.clk).mono ?_
  rintro e w1 ⟨rfl, g1, l1⟩
  obtain ⟨a1, a2, a3⟩ := hA.left f g1 l1
  clear hA g1 l1
  go_wp2_with fail
  refine (rload_at t r o blk x st _ a2).mono ?_
  rintro e w2 ⟨rfl, g2, l2⟩
  have hB := right_of f a1 a3 g2 l2
  have q : (x == x) = true := by simp
  clear a1 a2 a3 g2 l2
  go_wp2_with fail
  go_ret
  exact ⟨rfl, _, _, hB⟩

set_option maxHeartbeats 1600000 in
theorem plays2 (t : TypeId) (p b c r o : Nat) (blk : Int → Int → Array Value) (x st kd on s : Int) (nr : Bool) (w : World) (h : Both w w t p b c r o blk x st) (f : far3 p b c r) (hs : 0 ≤ s) (hs1 : s < 18446744073709551616) (k1 : (kd == 1) = false) (k2 : (kd == 2) = true) :
    Calls Try.prog 10 #[.pointer (some ⟨p, 0, none⟩), .pointer (some ⟨r, o, none⟩), .agg #[.int .i64 kd, .int .i64 on, .int .u64 s, .bool nr]] w fun e w' => e = .returned (.bool true) ∧ ∃ x' st', Both w w' t p b c r o blk x' st' := by
  obtain ⟨hA, c0, hk2⟩ := laid_step t p b c r o blk x st kd on s nr w h
  have c2 := hk2 _ (Keeps.refl _ _)
  clear h
  go_enter Try.func10, Try.ntmps10
  go_wp2_with fail
  generalize w.alloc (.cells #[.int .i64 kd, .int .i64 on, .int .u64 s, .bool nr] 34) = W at *
  refine (take_at p b c x st s _ hA.clk hs hs1).mono ?_
  have hrt := fun w2 a2 => rtake_at t r o blk x st s w2 a2 hs
  generalize (if turns x s s then upw s 1 else x) = y at hrt ⊢
  generalize turns x s s = q at hrt ⊢
  rintro e w1 ⟨rfl, g1, l1⟩
  obtain ⟨a1, a2, a3⟩ := hA.left f g1 l1
  have c2' := hk2 _ (half_keeps l1)
  clear hA g1 l1 c2
  go_wp2_with fail
  refine (hrt _ a2).mono ?_
  rintro e w2 ⟨rfl, g2, l2⟩
  have hB := right_of f a1 a3 g2 l2
  have qq : (q == q) = true := by simp
  clear a1 a2 a3 g2 l2 hrt
  go_wp2_with fail
  go_ret
  exact ⟨rfl, _, _, hB⟩

set_option maxHeartbeats 1600000 in
theorem plays3 (t : TypeId) (p b c r o : Nat) (blk : Int → Int → Array Value) (x st kd on s : Int) (nr : Bool) (w : World) (h : Both w w t p b c r o blk x st) (f : far3 p b c r) (hs : 0 ≤ s) (hs1 : s < 18446744073709551616) (k1 : (kd == 1) = false) (k2 : (kd == 2) = false) (k3 : (kd == 3) = true) :
    Calls Try.prog 10 #[.pointer (some ⟨p, 0, none⟩), .pointer (some ⟨r, o, none⟩), .agg #[.int .i64 kd, .int .i64 on, .int .u64 s, .bool nr]] w fun e w' => e = .returned (.bool true) ∧ ∃ x' st', Both w w' t p b c r o blk x' st' := by
  obtain ⟨hA, c0, hk2⟩ := laid_step t p b c r o blk x st kd on s nr w h
  have c2 := hk2 _ (Keeps.refl _ _)
  clear h
  go_enter Try.func10, Try.ntmps10
  go_wp2_with fail
  generalize hW : w.alloc (.cells #[.int .i64 kd, .int .i64 on, .int .u64 s, .bool nr] 34) = W at *
  have HW : Hid (w.alloc (.cells #[.int .i64 kd, .int .i64 on, .int .u64 s, .bool nr] 34) = W) := hW
  clear hW
  have q : ((if turns x s (upw s 1) then (0 : Int) else 160) == (if turns x s (upw s 1) then (0 : Int) else 160)) = true := by simp
  have hc1 : ∀ W0, Like W0 W → Calls Try.prog 17 #[.pointer (some ⟨p, 0, none⟩), .int .u64 s] W0 fun e w1 => e = .returned (.int .i64 (if turns x s (upw s 1) then 0 else 160)) ∧ w1.cell? ⟨w.heap.size, 2, none⟩ = some (.int .u64 s) ∧ Hid (ClkAt w1 p b c (if turns x s (upw s 1) then upw s 2 else x) (inc st) ∧ RefAt w1 t r o blk x st ∧ Keeps (fun k => own3 p b c k ∨ k = r) w w1 ∧ Keeps (fun k => own3 p b c k ∨ k = r) W w1) := fun W0 hl => by
    refine (leave_at p b c x st s W0 (hl.clk hA.clk) hs hs1).mono ?_
    rintro e w1 ⟨he, g1, l1⟩
    obtain ⟨a1, a2, a3⟩ := (hA.like hl).left f g1 l1
    have l2 : Keeps (fun k => own3 p b c k ∨ k = r) W w1 := hl.keeps'.trans (half_keeps l1)
    exact ⟨he, hk2 _ l2, a1, a2, a3, l2⟩
  have hc2 : ∀ w1, ClkAt w1 p b c (if turns x s (upw s 1) then upw s 2 else x) (inc st) ∧ RefAt w1 t r o blk x st ∧ Keeps (fun k => own3 p b c k ∨ k = r) w w1 ∧ Keeps (fun k => own3 p b c k ∨ k = r) W w1 → ∀ W0, Like W0 w1 → Calls Try.prog 26 #[.pointer (some ⟨r, o, none⟩), .int .u64 s] W0 fun e w2 => e = .returned (.int .i64 (if turns x s (upw s 1) then 0 else 160)) ∧ w2.cell? ⟨w.heap.size, 2, none⟩ = some (.int .u64 s) ∧ Hid (∃ x' st', Both w w2 t p b c r o blk x' st') := fun w1 ⟨a1, a2, a3, a4⟩ W0 hl => by
    refine (rleave_at t r o blk x st s W0 (hl.ref a2) hs).mono ?_
    rintro e w2 ⟨he, g2, l2⟩
    exact ⟨he, hk2 _ ((hl.keeps a4).trans (ref_keeps l2)), _, _, right_of f (hl.clk a1) (hl.keeps a3) g2 l2⟩
  generalize (if turns x s (upw s 1) then upw s 2 else x) = y at hc1 hc2
  generalize (if turns x s (upw s 1) then (0 : Int) else 160) = z at hc1 hc2 q
  clear hA hk2
  go_region_held3 (fun W => W.cell? ⟨w.heap.size, 2, none⟩ = some (.int .u64 s)) (first | assumption | (exact c2) | go_keep) (first | (go_at_call 17; refine (hc1 _ (by exact ⟨rfl, rfl, rfl, rfl⟩)).mono ?_; rintro e w4 ⟨rfl, hS, hH⟩) | (go_at_call 26; refine (hc2 _ (by exact hH.out) _ (by exact ⟨rfl, rfl, rfl, rfl⟩)).mono ?_; rintro e w5 ⟨rfl, hS2, hH2⟩))
  go_wp2_with fail
  go_ret
  exact ⟨rfl, hH2.out⟩

set_option maxHeartbeats 1600000 in
theorem plays4 (t : TypeId) (p b c r o : Nat) (blk : Int → Int → Array Value) (x st kd on s : Int) (nr : Bool) (w : World) (h : Both w w t p b c r o blk x st) (f : far3 p b c r) (hs : 0 ≤ s) (hs1 : s < 18446744073709551616) (k1 : (kd == 1) = false) (k2 : (kd == 2) = false) (k3 : (kd == 3) = false) (k4 : (kd == 4) = true) :
    Calls Try.prog 10 #[.pointer (some ⟨p, 0, none⟩), .pointer (some ⟨r, o, none⟩), .agg #[.int .i64 kd, .int .i64 on, .int .u64 s, .bool nr]] w fun e w' => e = .returned (.bool true) ∧ ∃ x' st', Both w w' t p b c r o blk x' st' := by
  obtain ⟨hA, c0, hk2⟩ := laid_step t p b c r o blk x st kd on s nr w h
  have c2 := hk2 _ (Keeps.refl _ _)
  clear h
  go_enter Try.func10, Try.ntmps10
  go_wp2_with fail
  generalize hW : w.alloc (.cells #[.int .i64 kd, .int .i64 on, .int .u64 s, .bool nr] 34) = W at *
  have HW : Hid (w.alloc (.cells #[.int .i64 kd, .int .i64 on, .int .u64 s, .bool nr] 34) = W) := hW
  clear hW
  have q : ((if turns x s (upw s 1) then (0 : Int) else 160) == (if turns x s (upw s 1) then (0 : Int) else 160)) = true := by simp
  have hc1 : ∀ W0, Like W0 W → Calls Try.prog 18 #[.pointer (some ⟨p, 0, none⟩), .int .u64 s] W0 fun e w1 => e = .returned (.int .i64 (if turns x s (upw s 1) then 0 else 160)) ∧ w1.cell? ⟨w.heap.size, 2, none⟩ = some (.int .u64 s) ∧ Hid (ClkAt w1 p b c (if turns x s (upw s 1) then s else x) (inc st) ∧ RefAt w1 t r o blk x st ∧ Keeps (fun k => own3 p b c k ∨ k = r) w w1 ∧ Keeps (fun k => own3 p b c k ∨ k = r) W w1) := fun W0 hl => by
    refine (back_at p b c x st s W0 (hl.clk hA.clk) hs hs1).mono ?_
    rintro e w1 ⟨he, g1, l1⟩
    obtain ⟨a1, a2, a3⟩ := (hA.like hl).left f g1 l1
    have l2 : Keeps (fun k => own3 p b c k ∨ k = r) W w1 := hl.keeps'.trans (half_keeps l1)
    exact ⟨he, hk2 _ l2, a1, a2, a3, l2⟩
  have hc2 : ∀ w1, ClkAt w1 p b c (if turns x s (upw s 1) then s else x) (inc st) ∧ RefAt w1 t r o blk x st ∧ Keeps (fun k => own3 p b c k ∨ k = r) w w1 ∧ Keeps (fun k => own3 p b c k ∨ k = r) W w1 → ∀ W0, Like W0 w1 → Calls Try.prog 27 #[.pointer (some ⟨r, o, none⟩), .int .u64 s] W0 fun e w2 => e = .returned (.int .i64 (if turns x s (upw s 1) then 0 else 160)) ∧ w2.cell? ⟨w.heap.size, 2, none⟩ = some (.int .u64 s) ∧ Hid (∃ x' st', Both w w2 t p b c r o blk x' st') := fun w1 ⟨a1, a2, a3, a4⟩ W0 hl => by
    refine (rback_at t r o blk x st s W0 (hl.ref a2) hs).mono ?_
    rintro e w2 ⟨he, g2, l2⟩
    exact ⟨he, hk2 _ ((hl.keeps a4).trans (ref_keeps l2)), _, _, right_of f (hl.clk a1) (hl.keeps a3) g2 l2⟩
  generalize (if turns x s (upw s 1) then s else x) = y at hc1 hc2
  generalize (if turns x s (upw s 1) then (0 : Int) else 160) = z at hc1 hc2 q
  clear hA hk2
  go_region_held3 (fun W => W.cell? ⟨w.heap.size, 2, none⟩ = some (.int .u64 s)) (first | assumption | (exact c2) | go_keep) (first | (go_at_call 18; refine (hc1 _ (by exact ⟨rfl, rfl, rfl, rfl⟩)).mono ?_; rintro e w4 ⟨rfl, hS, hH⟩) | (go_at_call 27; refine (hc2 _ (by exact hH.out) _ (by exact ⟨rfl, rfl, rfl, rfl⟩)).mono ?_; rintro e w5 ⟨rfl, hS2, hH2⟩))
  go_wp2_with fail
  go_ret
  exact ⟨rfl, hH2.out⟩

set_option maxHeartbeats 1600000 in
theorem plays5 (t : TypeId) (p b c r o : Nat) (blk : Int → Int → Array Value) (x st kd on s : Int) (nr : Bool) (w : World) (h : Both w w t p b c r o blk x st) (k1 : (kd == 1) = false) (k2 : (kd == 2) = false) (k3 : (kd == 3) = false) (k4 : (kd == 4) = false) (k5 : (kd == 5) = true) :
    Calls Try.prog 10 #[.pointer (some ⟨p, 0, none⟩), .pointer (some ⟨r, o, none⟩), .agg #[.int .i64 kd, .int .i64 on, .int .u64 s, .bool nr]] w fun e w' => e = .returned (.bool true) ∧ ∃ x' st', Both w w' t p b c r o blk x' st' := by
  obtain ⟨hA, c0, hk2⟩ := laid_step t p b c r o blk x st kd on s nr w h
  have c2 := hk2 _ (Keeps.refl _ _)
  clear h
  go_enter Try.func10, Try.ntmps10
  go_wp2_with fail
  generalize hW : w.alloc (.cells #[.int .i64 kd, .int .i64 on, .int .u64 s, .bool nr] 34) = W at *
  have HW : Hid (w.alloc (.cells #[.int .i64 kd, .int .i64 on, .int .u64 s, .bool nr] 34) = W) := hW
  clear hW
  have q : (st == st) = true := by simp
  have d1 := hA.ref.cell1
  have hc1 : ∀ W0, Like W0 W → Calls Try.prog 11 #[.pointer (some ⟨p, 0, none⟩)] W0 fun e w1 => e = .returned (.int .i64 st) ∧ w1.cell? ⟨r, o + 1, none⟩ = some (.int .i64 st) ∧ Hid (Like w1 W) := fun W0 hl => by
    refine (steps_at p b c x st W0 (hl.clk hA.clk)).mono ?_
    rintro e w1 ⟨he, rfl⟩
    exact ⟨he, (hl.ref hA.ref).cell1, hl⟩
  clear hk2 c2
  go_region_held3 (fun W => W.cell? ⟨r, o + 1, none⟩ = some (.int .i64 st)) (first | assumption | (exact d1) | go_keep) ((go_at_call 11; refine (hc1 _ (by exact ⟨rfl, rfl, rfl, rfl⟩)).mono ?_; rintro e w4 ⟨rfl, hS, hH⟩))
  go_wp2_with fail
  go_ret
  exact ⟨rfl, _, _, hA.like hH.out⟩

set_option maxHeartbeats 1600000 in
theorem plays6 (t : TypeId) (p b c r o : Nat) (blk : Int → Int → Array Value) (x st kd on s : Int) (nr : Bool) (w : World) (h : Both w w t p b c r o blk x st) (k1 : (kd == 1) = false) (k2 : (kd == 2) = false) (k3 : (kd == 3) = false) (k4 : (kd == 4) = false) (k5 : (kd == 5) = false) :
    Calls Try.prog 10 #[.pointer (some ⟨p, 0, none⟩), .pointer (some ⟨r, o, none⟩), .agg #[.int .i64 kd, .int .i64 on, .int .u64 s, .bool nr]] w fun e w' => e = .returned (.bool true) ∧ ∃ x' st', Both w w' t p b c r o blk x' st' := by
  obtain ⟨hA, c0, _⟩ := laid_step t p b c r o blk x st kd on s nr w h
  clear h
  go_enter Try.func10, Try.ntmps10
  go_wp2_with fail
  go_ret
  exact ⟨rfl, _, _, hA⟩

theorem plays_any (t : TypeId) (p b c r o : Nat) (blk : Int → Int → Array Value) (x st kd on s : Int) (nr : Bool) (w : World) (h : Both w w t p b c r o blk x st) (f : far3 p b c r) (hs : 0 ≤ s) (hs1 : s < 18446744073709551616) :
    Calls Try.prog 10 #[.pointer (some ⟨p, 0, none⟩), .pointer (some ⟨r, o, none⟩), .agg #[.int .i64 kd, .int .i64 on, .int .u64 s, .bool nr]] w fun e w' => e = .returned (.bool true) ∧ ∃ x' st', Both w w' t p b c r o blk x' st' := by
  cases k1 : (kd == 1)
  · cases k2 : (kd == 2)
    · cases k3 : (kd == 3)
      · cases k4 : (kd == 4)
        · cases k5 : (kd == 5)
          · exact plays6 t p b c r o blk x st kd on s nr w h k1 k2 k3 k4 k5
          · exact plays5 t p b c r o blk x st kd on s nr w h k1 k2 k3 k4 k5
        · exact plays4 t p b c r o blk x st kd on s nr w h f hs hs1 k1 k2 k3 k4
      · exact plays3 t p b c r o blk x st kd on s nr w h f hs hs1 k1 k2 k3
    · exact plays2 t p b c r o blk x st kd on s nr w h f hs hs1 k1 k2
  · exact plays1 t p b c r o blk x st kd on s nr w h f k1

end Go.Proofs.Ytlldffbohojppaa
