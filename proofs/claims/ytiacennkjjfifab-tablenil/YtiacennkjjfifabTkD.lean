
/- Room's small functions, and what its calls keep to (layer 25). No statement of the seat is proved here. -/
import Derived.Test.YtiacennkjjfifabTkC
namespace Go.Proofs.Ytiacennkjjfifab
open Go.RowKit

set_option maxHeartbeats 400000 in
theorem endOf_any (a : Int) (w : World) : Calls Try.prog 41 #[.int .u64 a] w fun e w' => e = .returned (.int .u64 (endA a)) ∧ w' = w := by
  go_enter Try.func41, Try.ntmps41
  go_wp2
  go_ret
  exact ⟨rfl, rfl⟩
set_option maxHeartbeats 400000 in
theorem headOf_any (a n : Int) (w : World) : Calls Try.prog 30 #[.int .u64 a, .int .u64 n] w fun e w' => e = .returned (.int .u64 (hdA a n)) ∧ w' = w := by
  go_enter Try.func30, Try.ntmps30
  go_wp2
  go_ret
  exact ⟨rfl, rfl⟩
set_option maxHeartbeats 10000000 in
theorem may_yes (t : Nat) (n : Int) (hm : mayN n) (w : World) : Calls Try.prog 29 #[.iface 62 (.pointer (some ⟨t, 0, none⟩)), .int .u64 n] w fun e w' => e = .returned (.int .i64 0) ∧ w' = w := by
  obtain ⟨h1, h2⟩ := hm
  go_enter Try.func29, Try.ntmps29
  go_wp2_with fail
  go_ret
  exact ⟨rfl, rfl⟩
set_option maxHeartbeats 10000000 in
theorem may_no (t : Nat) (n : Int) (hm : ¬ mayN n) (w : World) : Calls Try.prog 29 #[.iface 62 (.pointer (some ⟨t, 0, none⟩)), .int .u64 n] w fun e w' => e = .returned (.int .i64 2) ∧ w' = w := by
  unfold mayN at hm
  by_cases h1 : n < 1
  · clear hm
    go_enter Try.func29, Try.ntmps29
    go_wp2_with fail
    go_ret
    exact ⟨rfl, rfl⟩
  · have h2 : 16 < n := by omega
    have h3 : 1 ≤ n := by omega
    clear hm h1
    go_enter Try.func29, Try.ntmps29
    go_wp2_with fail
    go_ret
    exact ⟨rfl, rfl⟩
theorem meth_get (t : Nat) (w : World) : (method 200 62 (.pointer (some ⟨t, 0, none⟩)) "Get").run Try.prog w = .ok (66, .pointer (some ⟨t, 0, none⟩)) w := by kernel_rfl
theorem meth_put (t : Nat) (w : World) : (method 200 62 (.pointer (some ⟨t, 0, none⟩)) "Put").run Try.prog w = .ok (67, .pointer (some ⟨t, 0, none⟩)) w := by kernel_rfl
theorem nil_get (t : Nat) (w : World) : (nilAhead 200 62 (.pointer (some ⟨t, 0, none⟩)) "Get").run Try.prog w = .ok (some false) w := by kernel_rfl
theorem nil_put (t : Nat) (w : World) : (nilAhead 200 62 (.pointer (some ⟨t, 0, none⟩)) "Put").run Try.prog w = .ok (some false) w := by kernel_rfl
theorem zero_isW : isW 0 := ⟨Int.le_refl _, by simp⟩

theorem free_len (s : Wd) (a : Int) : (s.free a).2.L.length ≤ s.L.length + 2 := by
  unfold Wd.free
  have h1 := get_len s a
  have h2 := get_len (s.get a).2 (endA a)
  split
  · show (s.get a).2.L.length ≤ _; omega
  · split <;> (show ((s.get a).2.get (endA a)).2.L.length ≤ _; omega)
theorem takeN_len (s : Wd) (a n : Int) : (s.takeN a n).2.L.length ≤ s.L.length + 3 := by
  unfold Wd.takeN
  have h1 := free_len s a
  have h2 := put_len (s.free a).2 a (uw ((s.free a).1.1 + n))
  split
  · show (s.free a).2.L.length ≤ _; omega
  · split
    · show (s.free a).2.L.length ≤ _; omega
    · split <;> (show ((s.free a).2.put a (uw ((s.free a).1.1 + n))).2.L.length ≤ _; omega)
theorem takeG_len (s : Wd) (h p : Int) : (s.takeG h p).2.L.length ≤ s.L.length + 2 := by
  unfold Wd.takeG
  have h1 := get_len s p
  have h2 := put_len (s.get p).2 h (s.get p).1.1
  split
  · show (s.get p).2.L.length ≤ _; omega
  · split <;> (show ((s.get p).2.put h (s.get p).1.1).2.L.length ≤ _; omega)
theorem take_len (s : Wd) (a n : Int) : (s.take a n).2.L.length ≤ s.L.length + 4 := by
  unfold Wd.take
  have h1 := get_len s (hdA a n)
  have h2 := takeN_len (s.get (hdA a n)).2 a n
  have h3 := takeG_len (s.get (hdA a n)).2 (hdA a n) (uw ((s.get (hdA a n)).1.1 - 1))
  split
  · show s.L.length ≤ _; omega
  · split
    · show (s.get (hdA a n)).2.L.length ≤ _; omega
    · split <;> omega
theorem give_len (s : Wd) (a p n : Int) : (s.give a p n).2.L.length ≤ s.L.length + 3 := by
  unfold Wd.give
  have h1 := get_len s (hdA a n)
  have h2 := put_len (s.get (hdA a n)).2 p (s.get (hdA a n)).1.1
  have h3 := put_len ((s.get (hdA a n)).2.put p (s.get (hdA a n)).1.1).2 (hdA a n) (uw (p + 1))
  split
  · show s.L.length ≤ _; omega
  · split
    · show (s.get (hdA a n)).2.L.length ≤ _; omega
    · split <;> omega
theorem Rm.of {s s1 : Wd} {j k : Nat} (h : Rm s (k + j)) (hl : s1.L.length ≤ s.L.length + j) : Rm s1 k := by unfold Rm at *; omega
theorem Rm.free {s s1 : Wd} {a : Int} {r : Int × Int × Int} {k : Nat} (h : Rm s (k + 2)) (heq : s.free a = (r, s1)) : Rm s1 k := h.of (by have q := free_len s a; rw [heq] at q; exact q)
theorem Rm.takeN {s s1 : Wd} {a n : Int} {r : Int × Int} {k : Nat} (h : Rm s (k + 3)) (heq : s.takeN a n = (r, s1)) : Rm s1 k := h.of (by have q := takeN_len s a n; rw [heq] at q; exact q)
theorem Rm.takeG {s s1 : Wd} {a n : Int} {r : Int × Int} {k : Nat} (h : Rm s (k + 2)) (heq : s.takeG a n = (r, s1)) : Rm s1 k := h.of (by have q := takeG_len s a n; rw [heq] at q; exact q)
theorem Rm.take {s s1 : Wd} {a n : Int} {r : Int × Int} {k : Nat} (h : Rm s (k + 4)) (heq : s.take a n = (r, s1)) : Rm s1 k := h.of (by have q := take_len s a n; rw [heq] at q; exact q)
theorem Rm.give {s s1 : Wd} {a p n e : Int} {k : Nat} (h : Rm s (k + 3)) (heq : s.give a p n = (e, s1)) : Rm s1 k := h.of (by have q := give_len s a p n; rw [heq] at q; exact q)
/-- What a room's calls keep to. -/
theorem Wd.Ok.free {s : Wd} (h : s.Ok) (a : Int) : (s.free a).2.Ok ∧ isW (s.free a).1.1 := by
  unfold Wd.free
  have h1 := h.get a
  have h2 := h1.1.get (endA a)
  split
  · exact ⟨h1.1, ⟨Int.le_refl _, by simp⟩⟩
  · split
    · exact ⟨h2.1, ⟨Int.le_refl _, by simp⟩⟩
    · exact ⟨h2.1, h1.2.1⟩
theorem Wd.Ok.takeN {s : Wd} (h : s.Ok) (a n : Int) : (s.takeN a n).2.Ok ∧ isW (s.takeN a n).1.1 := by
  unfold Wd.takeN
  have h1 := h.free a
  have h2 := h1.1.put a (uw_isW ((s.free a).1.1 + n))
  split
  · exact ⟨h1.1, ⟨Int.le_refl _, by simp⟩⟩
  · split
    · exact ⟨h1.1, ⟨Int.le_refl _, by simp⟩⟩
    · split
      · exact ⟨h2, ⟨Int.le_refl _, by simp⟩⟩
      · exact ⟨h2, h1.2⟩
theorem Wd.Ok.takeG {s : Wd} (h : s.Ok) (hd : Int) {p : Int} (hp : isW p) : (s.takeG hd p).2.Ok ∧ isW (s.takeG hd p).1.1 := by
  unfold Wd.takeG
  have h1 := h.get p
  have h2 := h1.1.put hd h1.2.1
  split
  · exact ⟨h1.1, ⟨Int.le_refl _, by simp⟩⟩
  · split
    · exact ⟨h2, ⟨Int.le_refl _, by simp⟩⟩
    · exact ⟨h2, hp⟩
theorem Wd.Ok.take {s : Wd} (h : s.Ok) (a n : Int) : (s.take a n).2.Ok ∧ isW (s.take a n).1.1 := by
  unfold Wd.take
  have h1 := h.get (hdA a n)
  split
  · exact ⟨h, ⟨Int.le_refl _, by simp⟩⟩
  · split
    · exact ⟨h1.1, ⟨Int.le_refl _, by simp⟩⟩
    · split
      · exact h1.1.takeN a n
      · exact h1.1.takeG _ (uw_isW _)
theorem Wd.Ok.give {s : Wd} (h : s.Ok) (a : Int) {p : Int} (n : Int) : (s.give a p n).2.Ok := by
  unfold Wd.give
  have h1 := h.get (hdA a n)
  have h2 := h1.1.put p h1.2.1
  have h3 := h2.put (hdA a n) (uw_isW (p + 1))
  split
  · exact h
  · split
    · exact h1.1
    · split
      · exact h2
      · exact h3
end Go.Proofs.Ytiacennkjjfifab
