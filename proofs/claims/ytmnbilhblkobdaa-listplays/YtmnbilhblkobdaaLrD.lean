
/- The example: known (layer 21). No statement of the seat is proved here. -/
import Derived.Test.YtmnbilhblkobdaaLrC
namespace Go.Proofs.Ytmnbilhblkobdaa
open Go.RowKit

def S0 : Wd := ⟨List.replicate 60 0, 0, 0, -1, 0⟩
def S1 : Wd := (S0.lay 0 18 60).2
def S2 : Wd := (S1.new 0).2
def S3 : Wd := (S2.insert 0 18 5).2
def S4 : Wd := (S3.insert 0 18 2).2
def S5 : Wd := (S4.insert 0 18 5).2
def S6 : Wd := (S5.keys 18).2
theorem ex1 : S0.lay 0 18 60 = (0, S1) := by kernel_rfl
theorem ex2 : S1.new 0 = ((18, 0), S2) := by kernel_rfl
theorem ex3 : S2.insert 0 18 5 = ((true, 0), S3) := by kernel_rfl
theorem ex4 : S3.insert 0 18 2 = ((true, 0), S4) := by kernel_rfl
theorem ex5 : S4.insert 0 18 5 = ((false, 0), S5) := by kernel_rfl
theorem ex6 : S5.keys 18 = (([2, 5], 0), S6) := by kernel_rfl
theorem run_made (n : Nat) (hn : n ≤ 35184372088832) (w : World) : (Instr.makeSlice 30 (.int .i64 n) (.int .i64 n)).run Try.prog w =
    .ok (.slice (some ⟨w.heap.size, 0, none⟩) n n) (w.alloc (.cells (madeCells #[.int .u64 0] n) 25)) := by
  obtain ⟨i0, hi, hz0, hz1, hz2⟩ := info_parts info_word
  have h := run_make (P := Try.prog) w 30 25 i0 _ Try.underlying30 hi hz0 .i64 .i64 n n (by omega) (by omega) (by rw [hz2]; omega) (by omega)
  rw [h, hz1, Int.toNat_natCast, Nat.mul_one]
  rfl
theorem lies_made (w : World) (n : Nat) : Lies (w.alloc (.cells (madeCells #[.int .u64 0] n) 25)) (.slice (some ⟨w.heap.size, 0, none⟩) n n) (List.replicate n 0) := by
  refine ⟨_, n, by simp, fun i hi => ⟨w.heap.size, 0, rfl, ?_⟩⟩
  rw [Nat.zero_add, cell_of_block (alloc_block w _)]
  have q := u64s_get (List.replicate n 0) i hi
  rw [← madeCells_u64] at q
  exact q
theorem rep_isW (n : Nat) : ∀ x ∈ List.replicate n (0 : Int), isW x := fun x hx => by rw [List.eq_of_mem_replicate hx]; exact zero_isW
theorem lay_r {b g c : Nat} {s : Wd} {a p q e1 : Int} {s1 : Wd} (heq : Hid (s.lay a p q = (e1, s1))) (ha : isW a) (hp : isW p) (hq : isW q) {w : World} (h : WdAt w b g c s) :
    Calls Try.prog 15 #[.iface 24 (.pointer (some ⟨b, 0, none⟩)), .int .u64 a, .int .u64 p, .int .u64 q] w fun e w' => e = .returned (.int .i64 e1) ∧ WdAt w' b g c s1 ∧ Keeps (two b g) w w' := by
  have q := lay_any b g c s a p q ha hp hq w h
  rw [heq.out] at q
  exact q
theorem lit_isW (n : Nat) (h : n < 18446744073709551616) : isW (n : Int) := ⟨by omega, by omega⟩
theorem ce_no {s : Wd} (h : s.f = -1) : s.c ≠ 0 ∨ s.f < 0 := .inr (by rw [h]; decide)
set_option maxRecDepth 100000 in
set_option maxHeartbeats 4000000 in
theorem known_any (w : World) : Calls Try.prog 6 #[] w fun e w' => e = .returned (.bool true) ∧ Keeps (fun _ => False) w w' := by
  have hmk : ∀ w : World, (Instr.makeSlice 30 (.int .i64 60) (.int .i64 60)).run Try.prog w = .ok (.slice (some ⟨w.heap.size, 0, none⟩) 60 60) (w.alloc (.cells (madeCells #[.int .u64 0] 60) 25)) := run_made 60 (by omega)
  have E1 := hid ex1
  have E2 := hid ex2
  have E3 := hid ex3
  have E4 := hid ex4
  have E5 := hid ex5
  have E6 := hid ex6
  have w0 : isW 0 := zero_isW
  have w18 : isW 18 := lit_isW 18 (by omega)
  have w60 : isW 60 := lit_isW 60 (by omega)
  have w5 : isW 5 := lit_isW 5 (by omega)
  have w2 : isW 2 := lit_isW 2 (by omega)
  go_enter Try.func6, Try.ntmps6
  go_wp2_with fail
  have hl60 : (List.replicate 60 (0 : Int)).length ≤ 1000000 := by rw [List.length_replicate]; omega
  refine (over_any _ _ (rep_isW 60) hl60 _ (lies_made w 60)).mono ?_
  rintro e_ x0 ⟨b, g, c, rfl, h0, k0, lb, lg⟩
  have HH : Hid (Hs x0 b g c x0 S0) := hid (Hs.start h0)
  have HL : Hid (Keeps (fun _ => False) w x0 ∧ w.heap.size ≤ b ∧ w.heap.size ≤ g) := by
    have q : (w.alloc (.cells (madeCells #[.int .u64 0] 60) 25)).heap.size = w.heap.size + 1 := by simp
    rw [q] at lb lg
    exact hid ⟨(keeps_new w _).trans k0, by omega, by omega⟩
  clear h0 k0 lb lg hmk
  go_wp2_with fail
  have hh := HH.out
  refine (lay_r E1 w0 w18 w60 hh.wd).mono ?_
  rintro e_ x1 ⟨rfl, h1, k1⟩
  replace HH := hid (hh.acc k1 h1)
  clear hh h1 k1 E1
  go_wp2_with fail
  have hh := HH.out
  refine (new_r E2 w0 hh.wd).mono ?_
  rintro e_ x2 ⟨rfl, h2, k2⟩
  replace HH := hid (hh.acc k2 h2)
  clear hh h2 k2 E2
  go_wp2_with fail
  have hh := HH.out
  refine (insert_r E3 w0 w18 w5 (ce_no rfl) hh.wd).mono ?_
  rintro e_ x3 ⟨rfl, h3, k3⟩
  replace HH := hid (hh.acc k3 h3)
  clear hh h3 k3 E3
  go_wp2_with fail
  have hh := HH.out
  refine (insert_r E4 w0 w18 w2 (ce_no rfl) hh.wd).mono ?_
  rintro e_ x4 ⟨rfl, h4, k4⟩
  replace HH := hid (hh.acc k4 h4)
  clear hh h4 k4 E4
  go_wp2_with fail
  have hh := HH.out
  refine (insert_r E5 w0 w18 w5 (ce_no rfl) hh.wd).mono ?_
  rintro e_ x5 ⟨rfl, h5, k5⟩
  replace HH := hid (hh.acc k5 h5)
  clear hh h5 k5 E5
  go_wp2_with fail
  have hh := HH.out
  refine (keys_r E6 w18 (ce_no rfl) hh.wd).mono ?_
  rintro e_ x6 ⟨v, rfl, r6, h6, k6⟩
  have HW := hid (And.intro r6.lies (hh.acc k6 h6))
  obtain ⟨av, cv, rfl⟩ := r6.form
  clear hh h6 k6 r6 E6 HH
  go_wp2_with fail
  have hla : Lies (x6.alloc (.cells #[.int .u64 2, .int .u64 5] 25)) (.slice av 2 cv) [2, 5] := HW.out.1.keeps (keeps_new _ _) (fun _ _ _ _ f => f)
  have hlb : Lies (x6.alloc (.cells #[.int .u64 2, .int .u64 5] 25)) (.slice (some ⟨x6.heap.size, 0, none⟩) 2 2) [2, 5] := ⟨_, 2, rfl, fun i hi => ⟨x6.heap.size, 0, rfl, by
    rw [Nat.zero_add, cell_of_block (alloc_block x6 _)]
    have : i = 0 ∨ i = 1 := by simp at hi; omega
    rcases this with rfl | rfl <;> rfl⟩⟩
  refine (words_same _ _ [2, 5] (by simp) _ hla hlb).mono ?_
  rintro e_ x7 ⟨rfl, m, hw⟩
  have HK : Hid (Keeps (fun _ => False) w x7) := by
    have q := HW.out.2.k
    have h1 := HL.out
    have kn : Keeps (fun _ => False) x6 x7 := by rw [hw]; exact (keeps_new x6 _).drewN m
    exact hid ((h1.1.step q (fun i hi e => by rcases e with e | e <;> omega)).trans kn)
  clear hw hla hlb HW HL
  go_wp2_with fail
  go_ret
  exact ⟨rfl, HK.out⟩
end Go.Proofs.Ytmnbilhblkobdaa
