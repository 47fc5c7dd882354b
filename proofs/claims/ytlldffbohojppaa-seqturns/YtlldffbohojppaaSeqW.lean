
/- The walks of the laws SeqWords and SeqNil. -/
import Derived.Test.YtlldffbohojppaaSeqN
namespace Go.Proofs.Ytlldffbohojppaa
open Go.RowKit

set_option maxHeartbeats 400000 in
theorem words_law (x : Int) (h0 : 0 ≤ x) (h1 : x < 18446744073709551616) (w : World) : Calls Try.prog 5 #[.int .u64 x] w fun e w' => e = .returned (.bool true) ∧ Keeps (fun _ => False) w w' := by
  have s0 : 0 ≤ 2 * x % 18446744073709551616 := by omega
  have s1 : 2 * x % 18446744073709551616 < 18446744073709551616 := by omega
  have s2 : decide (2 * x % 18446744073709551616 % 2 = 0) = true := by simp
  go_enter Try.func5, Try.ntmps5
  go_wp2_with fail
  refine (open_any x h0 h1 _).mono ?_
  rintro e w' ⟨rfl, rfl⟩
  have t1 : (decide (x % 2 = 0) == (x % 2 == 0)) = true := by by_cases h : x % 2 = 0 <;> simp [h]
  have t2 : (decide (x % 2 = 0) == (x.tmod 2 == 0)) = true := by rw [Int.tmod_eq_emod_of_nonneg h0]; exact t1
  generalize decide (x % 2 = 0) = q at t1 t2 ⊢
  have t3 : (2 * x % 18446744073709551616 == IntKind.u64.wrap (2 * x)) = true := by simp [IntKind.wrap, IntKind.signed, IntKind.bits]
  have so := snap_any x
  have oo := open_any _ s0 s1
  rw [s2] at oo
  clear s0 s1 s2
  generalize 2 * x % 18446744073709551616 = y at t3 so oo
  go_wp2_with fail
  refine (number_any x _).mono ?_
  rintro e w1 ⟨rfl, rfl⟩
  go_wp2_with fail
  refine (so _).mono ?_
  rintro e w2 ⟨rfl, rfl⟩
  go_wp2_with fail
  refine (so _).mono ?_
  rintro e w1 ⟨rfl, rfl⟩
  go_wp2_with fail
  refine (oo _).mono ?_
  rintro e w2 ⟨rfl, rfl⟩
  go_wp2_with fail
  refine (known_any _).mono ?_
  rintro e w3 ⟨rfl, k2⟩
  go_wp2_with fail
  go_ret
  exact ⟨rfl, k2⟩

set_option maxHeartbeats 400000 in
theorem nil_law (x : Int) (w : World) : Calls Try.prog 6 #[.int .u64 x] w fun e w' => e = .returned (.bool true) ∧ Keeps (fun _ => False) w w' := by
  go_enter Try.func6, Try.ntmps6
  go_wp2_with fail
  refine (nothing_any none x _ (.inl rfl)).mono ?_
  rintro e w' ⟨rfl, rfl⟩
  go_wp2_with fail
  refine (nothing_any _ x _ (.inr ⟨_, rfl, ?_⟩)).mono ?_
  · rw [cell_of_block (MapKept.heap_alloc _ _).1]; rfl
  rintro e w1 ⟨rfl, rfl⟩
  go_wp2_with fail
  refine (known_any _).mono ?_
  rintro e w2 ⟨rfl, k2⟩
  go_wp2_with fail
  go_ret
  exact ⟨rfl, ((Keeps.refl _ _).alloc _).trans k2⟩

end Go.Proofs.Ytlldffbohojppaa
