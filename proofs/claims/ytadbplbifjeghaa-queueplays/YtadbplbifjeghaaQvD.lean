
/- The statement's example: works (layer 23). No statement of the seat is proved here. -/
import Derived.Test.YtadbplbifjeghaaQvM
import Derived.Test.YtadbplbifjeghaaQuV
import Derived.Test.YtadbplbifjeghaaQuX
import Derived.Test.YtadbplbifjeghaaQuY
namespace Go.Proofs.Ytadbplbifjeghaa
open Go.RowKit

set_option maxHeartbeats 400000 in
/-- Two slices that read as the same words. -/
theorem words_same (va vb : Value) (l : List Int) (hl : l.length ≤ 17592186044416) (w : World) (ha : Lies w va l) (hb : Lies w vb l) :
    Calls Try.prog 9 #[va, vb] w fun e w' => e = .returned (.bool true) ∧ ∃ m, w' = w.drewN m := by
  obtain ⟨aa, ca, rfl, ha⟩ := ha
  obtain ⟨ab, cb, rfl, hb⟩ := hb
  have HA := hid ha
  have HB := hid hb
  clear ha hb
  go_enter Try.func9, Try.ntmps9
  go_wp2_with fail
  go_loopw [5] (fun i wr => ∃ k : Nat, k ≤ l.length ∧ i = .int .i64 k ∧ ∃ m, wr = w.drewN m) (fun i _ => l.length - (intOf i).toNat)
  case atStart => exact ⟨0, by omega, rfl, 0, rfl⟩
  case round =>
    obtain ⟨k, hk, rfl, mm, rfl⟩ := hrel
    by_cases hlt : k < l.length
    · obtain ⟨g, off, rfl, d1⟩ := HA.out k hlt
      obtain ⟨g', off', rfl, d2⟩ := HB.out k hlt
      clear HA HB
      go_wp2_with fail
      go_quiet (fail)
      go_wp2_with fail
      go_roundw
      case rel => exact ⟨k + 1, by omega, by go_num, _, rfl⟩
      case measure => simp [intOf]; omega
    · obtain rfl : k = l.length := by omega
      clear HA HB
      go_wp2_with fail
      go_ret
      exact ⟨rfl, _, rfl⟩

def Z0 : Wd := laidW 60
def Z1 : Wd := (Wd.qnew 0 Z0).2
def Z2 : Wd := (Wd.qput 0 18 5 Z1).2
def Z3 : Wd := (Wd.qput 0 18 6 Z2).2
def Z4 : Wd := (Wd.qtake 0 18 Z3).2
def Z5 : Wd := (Wd.qput 0 18 7 Z4).2
def Z6 : Wd := (Wd.qwords 18 Z5).2
def Z7 : Wd := (Wd.qlen 18 Z6).2
theorem ex1 : Wd.qnew 0 Z0 = ((18, 0), Z1) := by kernel_rfl
theorem ex2 : Wd.qput 0 18 5 Z1 = (((), 0), Z2) := by kernel_rfl
theorem ex3 : Wd.qput 0 18 6 Z2 = (((), 0), Z3) := by kernel_rfl
theorem ex4 : Wd.qtake 0 18 Z3 = (((5, true), 0), Z4) := by kernel_rfl
theorem ex5 : Wd.qput 0 18 7 Z4 = (((), 0), Z5) := by kernel_rfl
theorem ex6 : Wd.qwords 18 Z5 = (([6, 7], 0), Z6) := by kernel_rfl
theorem ex7 : Wd.qlen 18 Z6 = ((2, 0), Z7) := by kernel_rfl
set_option maxRecDepth 100000 in
set_option maxHeartbeats 4000000 in
theorem works_any (w : World) : Calls Try.prog 13 #[] w fun e w' => e = .returned (.bool true) ∧ Keeps (fun _ => False) w w' := by
  have E1 := hid ex1
  have E2 := hid ex2
  have E3 := hid ex3
  have E4 := hid ex4
  have E5 := hid ex5
  have E6 := hid ex6
  have E7 := hid ex7
  have w0 : isW 0 := lit_isW 0 (by omega)
  have w5 : isW 5 := lit_isW 5 (by omega)
  have w6 : isW 6 := lit_isW 6 (by omega)
  have w7 : isW 7 := lit_isW 7 (by omega)
  have w18 : isW 18 := lit_isW 18 (by omega)
  go_enter Try.func13, Try.ntmps13
  go_wp2_with fail
  refine (laid_any 60 (by omega) w).mono ?_
  rintro e_ x0 ⟨b, g, c, rfl, h0, k0, lb, lg⟩
  have HL : Hid (w.heap.size ≤ b ∧ w.heap.size ≤ g) := ⟨lb, lg⟩
  have HH : Hid (Tw (x0.alloc (.cells #[.pointer (some ⟨b, 0, none⟩)] 28)) x0.heap.size b g c Z0) := hid (tw_made rfl h0)
  have kk : Hid (Keeps (two b g) w (x0.alloc (.cells #[.pointer (some ⟨b, 0, none⟩)] 28))) := hid ((k0.mono fun _ _ f => f.elim).alloc _)
  clear h0 k0 lb lg
  go_wp2_with fail
  have hh := HH.out
  refine (qnew_r E1 w0 hh).mono ?_
  rintro e_ x1 ⟨rfl, h, k⟩
  replace HH := hid h
  replace kk := hid (kk.out.trans k)
  clear hh h k E1
  go_wp2_with fail
  have hh := HH.out
  refine (qpush_r E2 w0 w18 w5 hh).mono ?_
  rintro e_ x2 ⟨rfl, h, k⟩
  replace HH := hid h
  replace kk := hid (kk.out.trans k)
  clear hh h k E2
  go_wp2_with fail
  have hh := HH.out
  refine (qpush_r E3 w0 w18 w6 hh).mono ?_
  rintro e_ x3 ⟨rfl, h, k⟩
  replace HH := hid h
  replace kk := hid (kk.out.trans k)
  clear hh h k E3
  go_wp2_with fail
  have hh := HH.out
  refine (qtake_r E4 w0 w18 hh).mono ?_
  rintro e_ x4 ⟨rfl, h, k⟩
  replace HH := hid h
  replace kk := hid (kk.out.trans k)
  clear hh h k E4
  go_wp2_with fail
  have hh := HH.out
  refine (qpush_r E5 w0 w18 w7 hh).mono ?_
  rintro e_ x5 ⟨rfl, h, k⟩
  replace HH := hid h
  replace kk := hid (kk.out.trans k)
  clear hh h k E5
  have k6sz : Hid (b < x5.heap.size ∧ g < x5.heap.size) := hid HH.out.ltt.2
  go_wp2_with fail
  have hh := HH.out
  refine (qwords_r E6 w18 hh).mono ?_
  rintro e_ x6 ⟨v, rfl, r6, h, k⟩
  replace HH := hid h
  replace kk := hid (kk.out.trans k)
  have HR := hid r6
  obtain ⟨av, cv, rfl⟩ := r6.form
  clear hh h k E6 r6
  go_wp2_with fail
  have hh := HH.out
  refine (qlen_r E7  hh).mono ?_
  rintro e_ x7 ⟨rfl, h, k⟩
  replace HH := hid h
  replace kk := hid (kk.out.trans k)
  have hr7 : Wr x7 x5.heap.size (.slice av 2 cv) [6, 7] := HR.out.keeps k (fun q e => by have p := hh.ltt; have p6 := k6sz.out; rcases e with e | e <;> omega)
  clear hh h k E7
  have HW : Hid (Calls Try.prog 9 #[.slice av 2 cv, .slice (some ⟨x7.heap.size, 0, none⟩) 2 2] (x7.alloc (.cells #[.int .u64 6, .int .u64 7] 33)) fun e w' => e = .returned (.bool true) ∧ ∃ m, w' = (x7.alloc (.cells #[.int .u64 6, .int .u64 7] 33)).drewN m) := words_same _ _ [6, 7] (by simp) _ (hr7.lies.keeps ((Keeps.refl (fun _ => False) _).alloc _) (fun _ _ _ _ f => f)) ⟨_, 2, rfl, fun i hi => ⟨x7.heap.size, 0, rfl, by
    rw [Nat.zero_add]
    have hi' : i < 2 := hi
    have hc := cell_of_block (alloc_block x7 (.cells #[.int .u64 6, .int .u64 7] 33)) i
    rw [hc]
    match i, hi' with
    | 0, _ => rfl
    | 1, _ => rfl⟩⟩
  have kf : Hid (Keeps (fun _ => False) w x7) := hid (kk.out.mono (fun q hq e => by have p := HL.out; rcases e with rfl | rfl <;> omega))
  clear hr7 HR HH kk HL k6sz
  go_wp2_with (first | (go_at_call 9; refine HW.out.mono ?_; rintro e_ w3 ⟨rfl, m3, hw3⟩; subst hw3) | (go_at_call 16; refine (num_any _ _).mono ?_; rintro e_ w_ ⟨rfl, hw_⟩; subst w_))
  go_ret
  exact ⟨rfl, (kf.out.alloc _).drewN _⟩
end Go.Proofs.Ytadbplbifjeghaa
