
/- Walks of the program's clock (package seq): turn, Load, Take, let, Leave, Back, Steps, Copy, From, New. No statement of the seat is proved here. -/
import Derived.Test.YtlldffbohojppaaSeqA
import Derived.Deep.RegionHeld3
namespace Go.Proofs.Ytlldffbohojppaa
open Go.RowKit

/-- Is the word the old one, and s open? -/
def turns (x s old : Int) : Bool := decide (s % 2 = 0) && (x == old)

theorem swaps_one (x o : Int) : swaps [x] 0 o = (x == o) := by simp [swaps]
theorem put_one (x v : Int) : putAt [x] 0 v = [v] := by simp [putAt]

set_option maxHeartbeats 400000 in
theorem turn_at (p b c : Nat) (x st s old v : Int) (w : World) (h : ClkAt w p b c x st) (hs : 0 ≤ s) (hs1 : s < 18446744073709551616) (hv : 0 ≤ v) (hv1 : v < 18446744073709551616) :
    Calls Try.prog 30 #[.pointer (some ⟨p, 0, none⟩), .int .u64 s, .int .u64 old, .int .u64 v] w fun e w' => e = .returned (.bool (turns x s old)) ∧ ClkAt w' p b c (if turns x s old then v else x) st ∧ Keeps (own3 p b c) w w' := by
  have c0 := h.cell0
  by_cases he : s % 2 = 0
  · have hd : decide (s % 2 = 0) = true := by simp [he]
    obtain ⟨n, r⟩ := h.row
    have ht : turns x s old = (x == old) := by simp [turns, he]
    rw [ht]
    clear ht
    have hrow : ∀ w1 m, RowAt w1 68 22 b c (if (x == old) = true then [v] else [x]) m → RowAt w1 68 22 b c [if (x == old) = true then v else x] m := fun w1 m q => by
      cases hb : (x == old) <;> simpa [hb] using q
    have hy0 : 0 ≤ (if (x == old) = true then v else x) := by
      split
      · exact hv
      · exact h.lo
    have hy1 : (if (x == old) = true then v else x) < 18446744073709551616 := by
      split
      · exact hv1
      · exact h.hi
    generalize (if (x == old) = true then v else x) = y at hrow hy0 hy1 ⊢
    go_enter Try.func30, Try.ntmps30
    go_wp2_with fail
    refine (open_any s hs hs1 _).mono ?_
    rw [hd]
    rintro e w' ⟨rfl, rfl⟩
    go_wp2_with fail
    refine (swap_at b c _ n 0 old v _ r (by omega)).mono ?_
    rw [swaps_one, put_one]
    rintro e w1 ⟨rfl, r1, k1⟩
    replace r1 := hrow _ _ r1
    clear hrow
    go_wp2_with fail
    go_ret
    exact ⟨rfl, ⟨(k1.block p h.ltp (by have := h.nb; have := h.nc; omega)).trans h.box, ⟨more n, r1⟩, h.nb, h.nc, hy0, hy1⟩, k1.mono (fun k _ hk => .inr hk)⟩
  · have hd : decide (s % 2 = 0) = false := by simp [he]
    have ht : turns x s old = false := by simp [turns, he]
    rw [ht, if_neg (by decide)]
    clear ht
    go_enter Try.func30, Try.ntmps30
    go_wp2_with fail
    refine (open_any s hs hs1 _).mono ?_
    rw [hd]
    rintro e w' ⟨rfl, rfl⟩
    go_wp2_with fail
    go_ret
    exact ⟨rfl, h, Keeps.refl _ _⟩

set_option maxHeartbeats 400000 in
theorem steps_at (p b c : Nat) (x st : Int) (w : World) (h : ClkAt w p b c x st) :
    Calls Try.prog 11 #[.pointer (some ⟨p, 0, none⟩)] w fun e w' => e = .returned (.int .i64 st) ∧ w' = w := by
  have c0 := h.cell0
  have c1 := h.cell1
  clear h
  go_enter Try.func11, Try.ntmps11
  go_wp2_with (go_at_call 22; refine (cmade_at p b _ c0).mono ?_; rintro e w' ⟨rfl, rfl⟩)
  go_ret
  exact ⟨rfl, rfl⟩

theorem keeps_step {w w1 : World} {p b c : Nat} (k : Keeps (own3 p b c) w w1) (v : Value) : Keeps (own3 p b c) w (w1.setCell ⟨p, 1, none⟩ v) := k.setCell (p := ⟨p, 1, none⟩) (.inr (.inl rfl)) v

theorem err_one : errAt 1 0 = 0 := by decide
theorem word_one (x : Int) : wordAt [x] 0 = x := by simp [wordAt]

set_option maxHeartbeats 400000 in
theorem cload_at (p b c : Nat) (x st : Int) (w : World) (h : ClkAt w p b c x st) :
    Calls Try.prog 12 #[.pointer (some ⟨p, 0, none⟩)] w fun e w' => e = .returned (.tuple #[.int .u64 x, .int .i64 0]) ∧ ClkAt w' p b c x (inc st) ∧ Keeps (own3 p b c) w w' := by
  have c0 := h.cell0
  obtain ⟨n, r⟩ := h.row
  go_enter_defers Try.func12, Try.ntmps12
  go_wp2_with fail
  refine (cmade_at p b _ c0).mono ?_
  rintro e w' ⟨rfl, rfl⟩
  go_wp2_with fail
  refine (load_at b c _ n 0 _ r (by omega)).mono ?_
  rw [word_one, show errAt [x].length 0 = 0 from err_one]
  rintro e w1 ⟨rfl, r1, k1⟩
  have h1 : ClkAt w1 p b c x st := ⟨(k1.block p h.ltp (by have := h.nb; have := h.nc; omega)).trans h.box, ⟨_, r1⟩, h.nb, h.nc, h.lo, h.hi⟩
  go_wp2_with fail
  refine leaves_cons (f := 28) (args := #[.pointer (some ⟨p, 0, none⟩)]) (by simp) (by simp [go_sem]) ?_
  refine (count_d p st .returning _ h1.cell1 (h1.frozen 1)).mono ?_
  rintro e u' w'' ⟨rfl, rfl, rfl⟩
  have k : Keeps (own3 p b c) w' w1 := k1.mono (fun k _ hk => .inr hk)
  exact ⟨_, results_tmp2 rfl _ _ _, rfl, h1.step _, keeps_step k _⟩

end Go.Proofs.Ytlldffbohojppaa
