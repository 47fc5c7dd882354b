/-
  No statement of the seat is proved here. (Several texts in one: KClkA, KClkB, KClkC.)
-/
import Derived.Test.YtmhinalgjfiliaaDoorKRowM
import Derived.Defers
import Derived.Deep.RegionHeld3

/- Walks of the program's clock (package seq): made, Open, Number, Snapshot, count, turn, From, New, Load, Take, Leave, Back, Steps, Copy. No statement of the seat is proved here. -/
namespace Go.Proofs.YtmhinalgjfiliaaDoor.C
open Go.RowKit

/-- A clock in block p, its row in block b, the word in block c: the word, how many steps. -/
structure ClkAt (w : World) (p b c : Nat) (x st : Int) : Prop where
  box : w.heap[p]? = some (.cells #[.pointer (some ⟨b, 0, none⟩), .int .i64 st] 93 (0, 0))
  row : ∃ n, RowAt w 59 34 b c [x] n
  nb : p ≠ b
  nc : p ≠ c
  lo : 0 ≤ x
  hi : x < 18446744073709551616

/-- The blocks of a clock. -/
def own3 (p b c : Nat) : Nat → Prop := fun k => k = p ∨ k = b ∨ k = c

section
variable {w w' : World} {p b c : Nat} {x st : Int}
theorem ClkAt.cell0 (h : ClkAt w p b c x st) : w.cell? ⟨p, 0, none⟩ = some (.pointer (some ⟨b, 0, none⟩)) := by rw [cell_of_block h.box]; rfl
theorem ClkAt.cell1 (h : ClkAt w p b c x st) : w.cell? ⟨p, 1, none⟩ = some (.int .i64 st) := by rw [cell_of_block h.box]; rfl
theorem ClkAt.frozen (h : ClkAt w p b c x st) (i : Nat) : w.frozen? ⟨p, i, none⟩ = false := frozen_of_block h.box i
theorem ClkAt.ltp (h : ClkAt w p b c x st) : p < w.heap.size := lt_of_block h.box
theorem ClkAt.ltb (h : ClkAt w p b c x st) : b < w.heap.size := by obtain ⟨n, r⟩ := h.row; exact r.ltb
theorem ClkAt.ltc (h : ClkAt w p b c x st) : c < w.heap.size := by obtain ⟨n, r⟩ := h.row; exact r.ltc
theorem ClkAt.kept {S : Nat → Prop} (h : ClkAt w p b c x st) (k : Keeps S w w') (hs : ∀ i, own3 p b c i → ¬ S i) : ClkAt w' p b c x st := by
  obtain ⟨n, r⟩ := h.row
  exact ⟨(k.block p h.ltp (hs p (.inl rfl))).trans h.box, ⟨n, r.kept k (hs b (.inr (.inl rfl))) (hs c (.inr (.inr rfl)))⟩, h.nb, h.nc, h.lo, h.hi⟩
theorem ClkAt.step (h : ClkAt w p b c x st) (m : Int) : ClkAt (w.setCell ⟨p, 1, none⟩ (.int .i64 m)) p b c x m := by
  obtain ⟨n, r⟩ := h.row
  refine ⟨block_set h.box 1 _, ⟨n, ⟨(Below.heap_setCell _ _ _ _ (Ne.symm h.nb)).trans r.row, (Below.heap_setCell _ _ _ _ (Ne.symm h.nc)).trans r.words, r.ne, r.pos, r.le⟩⟩, h.nb, h.nc, h.lo, h.hi⟩
end

/-- One more step. -/
def inc (n : Int) : Int := wrap64 (n + 1)
/-- One more word. -/
def upw (n k : Int) : Int := IntKind.u64.wrap (n + k)

theorem upw_val (n k : Int) : upw n k = (n + k) % 18446744073709551616 := by
  unfold upw
  simp [IntKind.wrap, IntKind.signed, IntKind.bits]
theorem upw_lo (n k : Int) : 0 ≤ upw n k := by rw [upw_val]; omega
theorem upw_hi (n k : Int) : upw n k < 18446744073709551616 := by rw [upw_val]; omega

theorem and_one (x : Int) (h0 : 0 ≤ x) (h1 : x < 18446744073709551616) : bits .and .u64 x 1 = x % 2 := by
  show IntKind.u64.wrap ((BitVec.ofInt 64 x &&& BitVec.ofInt 64 1).toNat : Nat) = x % 2
  have key : (BitVec.ofInt 64 x &&& BitVec.ofInt 64 1).toNat = x.toNat % 2 := by
    rw [BitVec.toNat_and, BitVec.toNat_ofInt, BitVec.toNat_ofInt]
    rw [show ((1 : Int) % ((2 ^ 64 : Nat) : Int)).toNat = 1 from by decide +kernel, Nat.and_one_is_mod]
    congr 2
    exact Int.emod_eq_of_lt h0 (by omega)
  rw [key]
  simp [IntKind.wrap, IntKind.signed, IntKind.bits]
  omega

set_option maxHeartbeats 400000 in
theorem open_any (x : Int) (h0 : 0 ≤ x) (h1 : x < 18446744073709551616) (w : World) : Calls Tryd.prog 24 #[.int .u64 x] w fun e w' => e = .returned (.bool (decide (x % 2 = 0))) ∧ w' = w := by
  go_enter Tryd.func24, Tryd.ntmps24
  go_wp2
  go_ret
  refine ⟨?_, rfl⟩
  simp only [and_one x h0 h1]
  by_cases h : x % 2 = 0 <;> simp [h]

set_option maxHeartbeats 400000 in
theorem number_any (x : Int) (w : World) : Calls Tryd.prog 56 #[.int .u64 x] w fun e w' => e = .returned (.int .u64 (x / 2)) ∧ w' = w := by
  go_enter Tryd.func56, Tryd.ntmps56
  go_wp2
  go_ret
  exact ⟨rfl, rfl⟩

set_option maxHeartbeats 400000 in
theorem cmade_nil (w : World) : Calls Tryd.prog 41 #[.pointer none] w fun e w' => e = .returned (.bool false) ∧ w' = w := by
  go_enter Tryd.func41, Tryd.ntmps41
  go_wp2
  go_ret
  exact ⟨rfl, rfl⟩

set_option maxHeartbeats 400000 in
theorem cmade_zero (p : Nat) (w : World) (h0 : w.cell? ⟨p, 0, none⟩ = some (.pointer none)) : Calls Tryd.prog 41 #[.pointer (some ⟨p, 0, none⟩)] w fun e w' => e = .returned (.bool false) ∧ w' = w := by
  go_enter Tryd.func41, Tryd.ntmps41
  go_wp2
  go_ret
  exact ⟨rfl, rfl⟩

set_option maxHeartbeats 400000 in
theorem cmade_at (p b : Nat) (w : World) (h0 : w.cell? ⟨p, 0, none⟩ = some (.pointer (some ⟨b, 0, none⟩))) : Calls Tryd.prog 41 #[.pointer (some ⟨p, 0, none⟩)] w fun e w' => e = .returned (.bool true) ∧ w' = w := by
  go_enter Tryd.func41, Tryd.ntmps41
  go_wp2
  go_ret
  exact ⟨rfl, rfl⟩

theorem count_d (p : Nat) (st : Int) (u : FrameMode) (w : World) (h1 : w.cell? ⟨p, 1, none⟩ = some (.int .i64 st)) (f1 : w.frozen? ⟨p, 1, none⟩ = false) :
    CallsD Tryd.prog 42 #[.pointer (some ⟨p, 0, none⟩)] u w fun e u' w' => u' = u ∧ (e = .returned (.tuple #[]) ∧ w' = w.setCell ⟨p, 1, none⟩ (.int .i64 (inc st))) := by
  unfold inc
  go_enter_d Tryd.func42, Tryd.ntmps42
  go_wp2
  go_end0
  exact ⟨rfl, rfl⟩

end Go.Proofs.YtmhinalgjfiliaaDoor.C


/- Walks of the program's clock (package seq): turn, Load, Take, let, Leave, Back, Steps, Copy, From, New. No statement of the seat is proved here. -/
namespace Go.Proofs.YtmhinalgjfiliaaDoor.C
open Go.RowKit

/-- Is the word the old one, and s open? -/
def turns (x s old : Int) : Bool := decide (s % 2 = 0) && (x == old)

theorem swaps_one (x o : Int) : swaps [x] 0 o = (x == o) := by simp [swaps]
theorem put_one (x v : Int) : putAt [x] 0 v = [v] := by simp [putAt]

set_option maxHeartbeats 400000 in
theorem turn_at (p b c : Nat) (x st s old v : Int) (w : World) (h : ClkAt w p b c x st) (hs : 0 ≤ s) (hs1 : s < 18446744073709551616) (hv : 0 ≤ v) (hv1 : v < 18446744073709551616) :
    Calls Tryd.prog 73 #[.pointer (some ⟨p, 0, none⟩), .int .u64 s, .int .u64 old, .int .u64 v] w fun e w' => e = .returned (.bool (turns x s old)) ∧ ClkAt w' p b c (if turns x s old then v else x) st ∧ Keeps (own3 p b c) w w' := by
  have c0 := h.cell0
  by_cases he : s % 2 = 0
  · have hd : decide (s % 2 = 0) = true := by simp [he]
    obtain ⟨n, r⟩ := h.row
    have ht : turns x s old = (x == old) := by simp [turns, he]
    rw [ht]
    clear ht
    have hrow : ∀ w1 m, RowAt w1 59 34 b c (if (x == old) = true then [v] else [x]) m → RowAt w1 59 34 b c [if (x == old) = true then v else x] m := fun w1 m q => by
      cases hb : (x == old) <;> simpa [hb] using q
    have hy0 : 0 ≤ (if (x == old) = true then v else x) := by
      split
      · exact hv
      · exact h.lo
    have hy1 : (if (x == old) = true then v else x) < 18446744073709551616 := by
      split
      · exact hv1
      · exact h.hi
    generalize (if (x == old) = true then v else x) = y at hrow hy0 hy1 ⊢
    go_enter Tryd.func73, Tryd.ntmps73
    go_wp2_with fail
    refine (open_any s hs hs1 _).mono ?_
    rw [hd]
    rintro e w' ⟨rfl, rfl⟩
    go_wp2_with fail
    refine (swap_at b c _ n 0 old v _ r (by omega)).mono ?_
    rw [swaps_one, put_one]
    rintro e w1 ⟨rfl, r1, k1⟩
    replace r1 := hrow _ _ r1
    clear hrow
    go_wp2_with fail
    go_ret
    exact ⟨rfl, ⟨(k1.block p h.ltp (by have := h.nb; have := h.nc; omega)).trans h.box, ⟨more n, r1⟩, h.nb, h.nc, hy0, hy1⟩, k1.mono (fun k _ hk => .inr hk)⟩
  · have hd : decide (s % 2 = 0) = false := by simp [he]
    have ht : turns x s old = false := by simp [turns, he]
    rw [ht, if_neg (by decide)]
    clear ht
    go_enter Tryd.func73, Tryd.ntmps73
    go_wp2_with fail
    refine (open_any s hs hs1 _).mono ?_
    rw [hd]
    rintro e w' ⟨rfl, rfl⟩
    go_wp2_with fail
    go_ret
    exact ⟨rfl, h, Keeps.refl _ _⟩

theorem keeps_step {w w1 : World} {p b c : Nat} (k : Keeps (own3 p b c) w w1) (v : Value) : Keeps (own3 p b c) w (w1.setCell ⟨p, 1, none⟩ v) := k.setCell (p := ⟨p, 1, none⟩) (.inr (.inl rfl)) v

theorem err_one : errAt 1 0 = 0 := by decide
theorem word_one (x : Int) : wordAt [x] 0 = x := by simp [wordAt]

set_option maxHeartbeats 400000 in
theorem cload_at (p b c : Nat) (x st : Int) (w : World) (h : ClkAt w p b c x st) :
    Calls Tryd.prog 22 #[.pointer (some ⟨p, 0, none⟩)] w fun e w' => e = .returned (.tuple #[.int .u64 x, .int .i64 0]) ∧ ClkAt w' p b c x (inc st) ∧ Keeps (own3 p b c) w w' := by
  have c0 := h.cell0
  obtain ⟨n, r⟩ := h.row
  go_enter_defers Tryd.func22, Tryd.ntmps22
  go_wp2_with fail
  refine (cmade_at p b _ c0).mono ?_
  rintro e w' ⟨rfl, rfl⟩
  go_wp2_with fail
  refine (load_at b c _ n 0 _ r (by omega)).mono ?_
  rw [word_one, show errAt [x].length 0 = 0 from err_one]
  rintro e w1 ⟨rfl, r1, k1⟩
  have h1 : ClkAt w1 p b c x st := ⟨(k1.block p h.ltp (by have := h.nb; have := h.nc; omega)).trans h.box, ⟨_, r1⟩, h.nb, h.nc, h.lo, h.hi⟩
  go_wp2_with fail
  refine leaves_cons (f := 42) (args := #[.pointer (some ⟨p, 0, none⟩)]) (by simp) (by simp [go_sem]) ?_
  refine (count_d p st .returning _ h1.cell1 (h1.frozen 1)).mono ?_
  rintro e u' w'' ⟨rfl, rfl, rfl⟩
  have k : Keeps (own3 p b c) w' w1 := k1.mono (fun k _ hk => .inr hk)
  exact ⟨_, results_tmp2 rfl _ _ _, rfl, h1.step _, keeps_step k _⟩

end Go.Proofs.YtmhinalgjfiliaaDoor.C


/- Walks of the program's clock (package seq): Take, let, Leave, Back, From, New. No statement of the seat is proved here. -/
namespace Go.Proofs.YtmhinalgjfiliaaDoor.C
open Go.RowKit

set_option maxHeartbeats 400000 in
theorem take_at (p b c : Nat) (x st s : Int) (w : World) (h : ClkAt w p b c x st) (hs : 0 ≤ s) (hs1 : s < 18446744073709551616) :
    Calls Tryd.prog 57 #[.pointer (some ⟨p, 0, none⟩), .int .u64 s] w fun e w' => e = .returned (.tuple #[.bool (turns x s s), .int .i64 0]) ∧ ClkAt w' p b c (if turns x s s then upw s 1 else x) (inc st) ∧ Keeps (own3 p b c) w w' := by
  have c0 := h.cell0
  have ht := fun w' (h : ClkAt w' p b c x st) => turn_at p b c x st s s (upw s 1) w' h hs hs1 (upw_lo _ _) (upw_hi _ _)
  generalize (if turns x s s then upw s 1 else x) = y at ht ⊢
  generalize turns x s s = q at ht ⊢
  unfold upw at ht
  go_enter_defers Tryd.func57, Tryd.ntmps57
  go_wp2_with fail
  refine (cmade_at p b _ c0).mono ?_
  rintro e w' ⟨rfl, rfl⟩
  go_wp2_with fail
  refine (ht _ h).mono ?_
  rintro e w1 ⟨rfl, h1, k1⟩
  clear ht
  go_wp2_with fail
  refine leaves_cons (f := 42) (args := #[.pointer (some ⟨p, 0, none⟩)]) (by simp) (by simp [go_sem]) ?_
  refine (count_d p st .returning _ h1.cell1 (h1.frozen 1)).mono ?_
  rintro e u' w'' ⟨rfl, rfl, rfl⟩
  exact ⟨_, results_tmp2 rfl _ _ _, rfl, h1.step _, keeps_step k1 _⟩

set_option maxHeartbeats 400000 in
theorem let_at (p b c : Nat) (x st s v : Int) (w : World) (h : ClkAt w p b c x st) (hs : 0 ≤ s) (hs1 : s < 18446744073709551616) (hv : 0 ≤ v) (hv1 : v < 18446744073709551616) :
    Calls Tryd.prog 86 #[.pointer (some ⟨p, 0, none⟩), .int .u64 s, .int .u64 v] w fun e w' => e = .returned (.int .i64 (if turns x s (upw s 1) then 0 else 160)) ∧ ClkAt w' p b c (if turns x s (upw s 1) then v else x) (inc st) ∧ Keeps (own3 p b c) w w' := by
  have c0 := h.cell0
  have ht := fun w' (h : ClkAt w' p b c x st) => turn_at p b c x st s (upw s 1) v w' h hs hs1 hv hv1
  generalize (if turns x s (upw s 1) then v else x) = y at ht ⊢
  generalize turns x s (upw s 1) = q at ht ⊢
  unfold upw at ht
  cases q
  · rw [if_neg (by decide)]
    go_enter_defers Tryd.func86, Tryd.ntmps86
    go_wp2_with fail
    refine (cmade_at p b _ c0).mono ?_
    rintro e w' ⟨rfl, rfl⟩
    go_wp2_with fail
    refine (ht _ h).mono ?_
    rintro e w1 ⟨rfl, h1, k1⟩
    clear ht
    go_wp2_with fail
    refine leaves_cons (f := 42) (args := #[.pointer (some ⟨p, 0, none⟩)]) (by simp) (by simp [go_sem]) ?_
    refine (count_d p st .returning _ h1.cell1 (h1.frozen 1)).mono ?_
    rintro e u' w'' ⟨rfl, rfl, rfl⟩
    exact ⟨_, results_tmp rfl _ _ _, rfl, h1.step _, keeps_step k1 _⟩
  · rw [if_pos rfl]
    go_enter_defers Tryd.func86, Tryd.ntmps86
    go_wp2_with fail
    refine (cmade_at p b _ c0).mono ?_
    rintro e w' ⟨rfl, rfl⟩
    go_wp2_with fail
    refine (ht _ h).mono ?_
    rintro e w1 ⟨rfl, h1, k1⟩
    clear ht
    go_wp2_with fail
    refine leaves_cons (f := 42) (args := #[.pointer (some ⟨p, 0, none⟩)]) (by simp) (by simp [go_sem]) ?_
    refine (count_d p st .returning _ h1.cell1 (h1.frozen 1)).mono ?_
    rintro e u' w'' ⟨rfl, rfl, rfl⟩
    exact ⟨_, results_tmp rfl _ _ _, rfl, h1.step _, keeps_step k1 _⟩

set_option maxHeartbeats 400000 in
theorem leave_at (p b c : Nat) (x st s : Int) (w : World) (h : ClkAt w p b c x st) (hs : 0 ≤ s) (hs1 : s < 18446744073709551616) :
    Calls Tryd.prog 78 #[.pointer (some ⟨p, 0, none⟩), .int .u64 s] w fun e w' => e = .returned (.int .i64 (if turns x s (upw s 1) then 0 else 160)) ∧ ClkAt w' p b c (if turns x s (upw s 1) then upw s 2 else x) (inc st) ∧ Keeps (own3 p b c) w w' := by
  have ht := fun w' (h : ClkAt w' p b c x st) => let_at p b c x st s (upw s 2) w' h hs hs1 (upw_lo _ _) (upw_hi _ _)
  generalize (if turns x s (upw s 1) then upw s 2 else x) = y at ht ⊢
  generalize (if turns x s (upw s 1) then (0 : Int) else 160) = q at ht ⊢
  unfold upw at ht
  go_enter Tryd.func78, Tryd.ntmps78
  go_wp2_with fail
  refine (ht _ h).mono ?_
  rintro e w1 ⟨rfl, h1, k1⟩
  clear ht
  go_wp2_with fail
  go_ret
  exact ⟨rfl, h1, k1⟩

set_option maxHeartbeats 400000 in
theorem from_any (x : Int) (h0 : 0 ≤ x) (h1 : x < 18446744073709551616) (w : World) :
    Calls Tryd.prog 19 #[.int .u64 x] w fun e w' => ∃ p b c, e = .returned (.pointer (some ⟨p, 0, none⟩)) ∧ ClkAt w' p b c x 0 ∧ Keeps (fun _ => False) w w' ∧ w.heap.size ≤ p ∧ w.heap.size ≤ b ∧ w.heap.size ≤ c := by
  go_enter Tryd.func19, Tryd.ntmps19
  go_wp2_with fail
  refine (of_yes _ 1 1 [x] _ rfl (Reads.block (e := 34) (MapKept.heap_alloc w _).1) (by omega) (by omega)).mono ?_
  rintro e w1 ⟨rfl, r1, k1⟩
  have k2 : Keeps (fun _ => False) w w1 := ((Keeps.refl _ w).alloc _).trans k1
  have lb := r1.ltb
  have lc := r1.ltc
  have sz := k2.size
  have e1 : ∀ o, (w.alloc o).heap.size = w.heap.size + 1 := fun o => by simp
  rw [e1] at r1 lb lc
  clear e1
  clear k1
  go_wp2_with fail
  go_ret
  refine ⟨w1.heap.size, _, _, rfl, ⟨?_, ⟨0, r1.alloc _⟩, by omega, by omega, h0, h1⟩, k2.alloc _, by omega, by omega, by omega⟩
  exact (MapKept.heap_alloc w1 _).1

set_option maxHeartbeats 400000 in
theorem new_any (w : World) :
    Calls Tryd.prog 7 #[] w fun e w' => ∃ p b c, e = .returned (.pointer (some ⟨p, 0, none⟩)) ∧ ClkAt w' p b c 0 0 ∧ Keeps (fun _ => False) w w' ∧ w.heap.size ≤ p ∧ w.heap.size ≤ b ∧ w.heap.size ≤ c := by
  go_enter Tryd.func7, Tryd.ntmps7
  go_wp2_with fail
  refine (from_any 0 (by omega) (by omega) _).mono ?_
  rintro e w1 ⟨p, b, c, rfl, h, k⟩
  go_wp2_with fail
  go_ret
  exact ⟨p, b, c, rfl, h, k⟩

end Go.Proofs.YtmhinalgjfiliaaDoor.C
