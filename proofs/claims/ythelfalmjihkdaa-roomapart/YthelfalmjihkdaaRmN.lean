
/- The statement's example: works (layer 20). No statement of the seat is proved here. -/
import Derived.Test.YthelfalmjihkdaaRmM
namespace Go.Proofs.Ythelfalmjihkdaa
open Go.RowKit

theorem lay_r {t b g c : Nat} {s : Wd} {a p q e1 : Int} {s1 : Wd} (heq : Hid (s.lay a p q = (e1, s1))) (ha : isW a) (hp : isW p) (hq : isW q) {w : World} (h : Tw w t b g c s) :
    Calls Try.prog 11 #[.iface 24 (.pointer (some ⟨t, 0, none⟩)), .int .u64 a, .int .u64 p, .int .u64 q] w fun e w' => e = .returned (.int .i64 e1) ∧ Tw w' t b g c s1 ∧ Keeps (two b g) w w' := by
  have q := lay_any t b g c s a p q ha hp hq w h
  rw [heq.out] at q
  exact q

theorem given_r {t b g c : Nat} {s : Wd} {a n e1 : Int} {L : List Int} {s1 : Wd} (heq : Hid (s.given a n = ((L, e1), s1))) {w : World} (h : Tw w t b g c s) :
    Calls Try.prog 19 #[.iface 24 (.pointer (some ⟨t, 0, none⟩)), .int .u64 a, .int .u64 n] w fun e w' => ∃ v, e = .returned (.tuple #[v, .int .i64 e1]) ∧ Wr w' w.heap.size v L ∧ Tw w' t b g c s1 ∧ Keeps (two b g) w w' := by
  have q := given_any t b g c s a n w h
  rw [heq.out] at q
  exact q
theorem lit_isW (n : Nat) (h : n < 18446744073709551616) : isW (n : Int) := ⟨by omega, by omega⟩
set_option maxRecDepth 100000 in
set_option maxHeartbeats 4000000 in
theorem works_any (w : World) : Calls Try.prog 8 #[] w fun e w' => e = .returned (.bool true) ∧ Keeps (fun _ => False) w w' := by
  have E1 := hid ex1
  have E2 := hid ex2
  have E3 := hid ex3
  have E4 := hid ex4
  have E5 := hid ex5
  have E6 := hid ex6
  have E7 := hid ex7
  have E8 := hid ex8
  have w0 : isW 0 := lit_isW 0 (by omega)
  have w20 : isW 20 := lit_isW 20 (by omega)
  have w24 : isW 24 := lit_isW 24 (by omega)
  have w30 : isW 30 := lit_isW 30 (by omega)
  go_enter Try.func8, Try.ntmps8
  go_wp2_with fail
  refine (over_any 100 (by omega) w).mono ?_
  rintro e_ x0 ⟨t, b, g, c, rfl, h0, k0, lt, lb, lg⟩
  have HL : Hid (w.heap.size ≤ b ∧ w.heap.size ≤ g) := ⟨lb, lg⟩
  have HH : Hid (Tw x0 t b g c S0) := h0
  have kk : Hid (Keeps (two b g) w x0) := k0.mono fun _ _ f => f.elim
  clear h0 k0 lt lb lg
  go_wp2_with fail
  have hh := HH.out
  refine (lay_r E1 w0 w20 w30 hh).mono ?_
  rintro e_ x1 ⟨rfl, h1, k1⟩
  replace HH := hid h1
  replace kk := hid (kk.out.trans k1)
  clear hh h1 k1 E1
  go_wp2_with fail
  have hh := HH.out
  refine (take_r E2 w0 hh).mono ?_
  rintro e_ x2 ⟨rfl, h2, k2⟩
  replace HH := hid h2
  replace kk := hid (kk.out.trans k2)
  clear hh h2 k2 E2
  go_wp2_with fail
  have hh := HH.out
  refine (take_r E3 w0 hh).mono ?_
  rintro e_ x3 ⟨rfl, h3, k3⟩
  replace HH := hid h3
  replace kk := hid (kk.out.trans k3)
  clear hh h3 k3 E3
  go_wp2_with fail
  have hh := HH.out
  refine (take_r E4 w0 hh).mono ?_
  rintro e_ x4 ⟨rfl, h4, k4⟩
  replace HH := hid h4
  replace kk := hid (kk.out.trans k4)
  clear hh h4 k4 E4
  go_wp2_with fail
  have hh := HH.out
  refine (left_r E5 w0 hh).mono ?_
  rintro e_ x5 ⟨rfl, h5, k5⟩
  replace HH := hid h5
  replace kk := hid (kk.out.trans k5)
  clear hh h5 k5 E5
  go_wp2_with fail
  have hh := HH.out
  refine (give_r E6 w20 hh).mono ?_
  rintro e_ x6 ⟨rfl, h6, k6⟩
  replace HH := hid h6
  replace kk := hid (kk.out.trans k6)
  clear hh h6 k6 E6
  go_wp2_with fail
  have hh := HH.out
  refine (give_r E7 w24 hh).mono ?_
  rintro e_ x7 ⟨rfl, h7, k7⟩
  replace HH := hid h7
  replace kk := hid (kk.out.trans k7)
  clear hh h7 k7 E7
  go_wp2_with fail
  have hh := HH.out
  refine (given_r E8 hh).mono ?_
  rintro e_ x8 ⟨v, rfl, r8, h8, k8⟩
  replace kk := hid (kk.out.trans k8)
  have HW : Hid (Calls Try.prog 6 #[v, .slice (some ⟨x8.heap.size, 0, none⟩) 2 2] (x8.alloc (.cells #[.int .u64 24, .int .u64 20] 31)) fun e w' => e = .returned (.bool true) ∧ ∃ m, w' = (x8.alloc (.cells #[.int .u64 24, .int .u64 20] 31)).drewN m) := words_same v _ [24, 20] (by simp) _ (r8.lies.keeps ((Keeps.refl (fun _ => False) _).alloc _) (fun _ _ _ _ f => f)) ⟨_, 2, rfl, fun i hi => ⟨x8.heap.size, 0, rfl, by
    rw [Nat.zero_add]
    have hi' : i < 2 := hi
    have hc := cell_of_block (alloc_block x8 (.cells #[.int .u64 24, .int .u64 20] 31)) i
    rw [hc]
    match i, hi' with
    | 0, _ => rfl
    | 1, _ => rfl⟩⟩
  obtain ⟨av, cv, rfl⟩ := r8.form
  have kf : Hid (Keeps (fun _ => False) w x8) := kk.out.mono (fun q hq e => by have p := HL.out; rcases e with rfl | rfl <;> omega)
  clear hh h8 k8 r8 E8 HH kk HL
  go_wp2_with (first | (go_at_call 6; refine HW.out.mono ?_; rintro e_ w3 ⟨rfl, m3, hw3⟩; subst hw3) | (go_at_call 10; refine (num_any _ _).mono ?_; rintro e_ w_ ⟨rfl, hw_⟩; subst w_))
  go_ret
  exact ⟨rfl, (kf.out.alloc _).drewN _⟩
end Go.Proofs.Ythelfalmjihkdaa
