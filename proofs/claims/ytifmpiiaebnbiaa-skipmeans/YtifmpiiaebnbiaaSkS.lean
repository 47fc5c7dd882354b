
/- The example: known (layer 22). No statement of the seat is proved here. -/
import Derived.Test.YtifmpiiaebnbiaaSkR
import Derived.Test.YtifmpiiaebnbiaaSkO
import Derived.Test.YtifmpiiaebnbiaaSkF
namespace Go.Proofs.Ytifmpiiaebnbiaa
open Go.RowKit

set_option maxHeartbeats 400000 in
/-- Two slices that read as the same words. -/
theorem words_same (va vb : Value) (l : List Int) (hl : l.length ≤ 17592186044416) (w : World) (ha : Lies w va l) (hb : Lies w vb l) :
    Calls Try.prog 16 #[va, vb] w fun e w' => e = .returned (.bool true) ∧ ∃ m, w' = w.drewN m := by
  obtain ⟨aa, ca, rfl, ha⟩ := ha
  obtain ⟨ab, cb, rfl, hb⟩ := hb
  have HA := hid ha
  have HB := hid hb
  clear ha hb
  go_enter Try.func16, Try.ntmps16
  go_wp2_with fail
  go_loopw [5] (fun i wr => ∃ k : Nat, k ≤ l.length ∧ i = .int .i64 k ∧ ∃ m, wr = w.drewN m) (fun i _ => l.length - (intOf i).toNat)
  case atStart => exact ⟨0, by omega, rfl, 0, rfl⟩
  case round =>
    obtain ⟨k, hk, rfl, mm, rfl⟩ := hrel
    by_cases hlt : k < l.length
    · obtain ⟨g, off, rfl, d1⟩ := HA.out k hlt
      obtain ⟨g', off', rfl, d2⟩ := HB.out k hlt
      clear HA HB
      go_wp2_with fail
      go_quiet (fail)
      go_wp2_with fail
      go_roundw
      case rel => exact ⟨k + 1, by omega, by go_num, _, rfl⟩
      case measure => simp [intOf]; omega
    · obtain rfl : k = l.length := by omega
      clear HA HB
      go_wp2_with fail
      go_ret
      exact ⟨rfl, _, rfl⟩
set_option maxHeartbeats 400000 in
theorem num_any (n : Int) (w : World) : Calls Try.prog 8 #[.int .i64 n] w fun e w' => e = .returned (.int .i64 n) ∧ w' = w := by
  go_enter Try.func8, Try.ntmps8
  go_wp2
  go_ret
  exact ⟨rfl, rfl⟩
def K0 : Wd := ⟨List.replicate 100 0, [], 0, 0⟩
def K1 : Wd := (K0.lay 0 40 100).2
def K2 : Wd := (K1.slay 20).2
def K3 : Wd := (K2.ins 0 20 7 1).2
def K4 : Wd := (K3.ins 0 20 3 2).2
def K5 : Wd := (K4.ins 0 20 7 5).2
def K6 : Wd := (K5.keys 20).2
theorem ex1 : K0.lay 0 40 100 = (0, K1) := by kernel_rfl
theorem ex2 : K1.slay 20 = (0, K2) := by kernel_rfl
theorem ex3 : K2.ins 0 20 7 1 = ((true, 0), K3) := by kernel_rfl
theorem ex4 : K3.ins 0 20 3 2 = ((true, 0), K4) := by kernel_rfl
theorem ex5 : K4.ins 0 20 7 5 = ((false, 0), K5) := by kernel_rfl
theorem ex6 : K5.keys 20 = (([3, 7], 0), K6) := by kernel_rfl
theorem ex7 : K6.W.length = 100 := by kernel_rfl
theorem ex8 : oat K6.W 20 = 44 ∧ oat K6.W 21 = 44 ∧ oat K6.W 43 = 3 ∧ oat K6.W 44 = 2 ∧ oat K6.W 45 = 41 ∧ oat K6.W 46 = 0 := ⟨by kernel_rfl, by kernel_rfl, by kernel_rfl, by kernel_rfl, by kernel_rfl, by kernel_rfl⟩
theorem rmK0 : Rm K0 18 := of_decide_eq_true (p := K0.L.length + 18 ≤ 1000000) (by kernel_rfl)
theorem rmK1 : Rm K1 8 := of_decide_eq_true (p := K1.L.length + 8 ≤ 1000000) (by kernel_rfl)
theorem rmK2 : Rm K2 131200 := of_decide_eq_true (p := K2.L.length + 131200 ≤ 1000000) (by kernel_rfl)
theorem rmK3 : Rm K3 131200 := of_decide_eq_true (p := K3.L.length + 131200 ≤ 1000000) (by kernel_rfl)
theorem rmK4 : Rm K4 131200 := of_decide_eq_true (p := K4.L.length + 131200 ≤ 1000000) (by kernel_rfl)
theorem rmK5 : Rm K5 131100 := of_decide_eq_true (p := K5.L.length + 131100 ≤ 1000000) (by kernel_rfl)
theorem run_made (n : Nat) (hn : n ≤ 35184372088832) (w : World) : (Instr.makeSlice 24 (.int .i64 n) (.int .i64 n)).run Try.prog w =
    .ok (.slice (some ⟨w.heap.size, 0, none⟩) n n) (w.alloc (.cells (madeCells #[.int .u64 0] n) 32)) := by
  obtain ⟨i0, hi, hz0, hz1, hz2⟩ := info_parts info_word
  have h := run_make (P := Try.prog) w 24 32 i0 _ Try.underlying24 hi hz0 .i64 .i64 n n (by omega) (by omega) (by rw [hz2]; omega) (by omega)
  rw [h, hz1, Int.toNat_natCast, Nat.mul_one]
  rfl
theorem rep_isW (n : Nat) : ∀ x ∈ List.replicate n (0 : Int), isW x := fun x hx => by rw [List.eq_of_mem_replicate hx]; exact zero_isW
theorem lit_isW (n : Nat) (h : n < 18446744073709551616) : isW (n : Int) := ⟨by omega, by omega⟩
/-- A tx of words of nought, nothing told yet. -/
theorem wd_made (T : TypeId) (w : World) (n : Nat) (hn : 0 < n) (hm : n ≤ 17592186044416) (gd er : Int) : WdAt T ((w.alloc (.cells (madeCells #[.int .u64 0] n) 32)).alloc (.cells #[.slice (some ⟨w.heap.size, 0, none⟩) n n, .slice none 0 0, .int .i64 gd, .int .i64 er] T (0, 0))) (w.heap.size + 1) w.heap.size n ⟨List.replicate n 0, [], gd, er⟩ := by
  have e1 : (w.alloc (.cells (madeCells #[.int .u64 0] n) 32)).heap.size = w.heap.size + 1 := by simp
  have b1 := alloc_block (w.alloc (.cells (madeCells #[.int .u64 0] n) 32)) (.cells #[.slice (some ⟨w.heap.size, 0, none⟩) n n, .slice none 0 0, .int .i64 gd, .int .i64 er] T (0, 0))
  rw [e1] at b1
  refine ⟨⟨.slice none 0 0, ?_, ⟨rfl, .inl ⟨rfl, rfl⟩⟩, fun k hk => by simp [Value.ownBlock] at hk⟩, .inr ⟨by omega, madeCells #[.int .u64 0] n, ?_, fun i hi => ?_⟩, by simp, rep_isW n, by simpa using hm⟩
  · rw [b1]
    simp only [List.length_replicate]
    rw [adr_pos (by omega)]
  · exact ((keeps_new _ _).block _ (by simp) (fun f => f)).trans (alloc_block w _)
  · have hi' : i < n := by simpa using hi
    have q := u64s_get (List.replicate n 0) i (by simpa using hi')
    rw [← madeCells_u64] at q
    exact q
theorem keys_r {b g c : Nat} {s : Wd} {at_ e1 : Int} {L : List Int} {s1 : Wd} (heq : Hid (s.keys at_ = ((L, e1), s1))) (hat : isW at_) (rms : Rm s 131100) {w : World} (h : WdAt 27 w b g c s) :
    Calls Try.prog 14 #[.iface 23 (.pointer (some ⟨b, 0, none⟩)), .int .u64 at_] w fun e w' => ∃ v, e = .returned (.tuple #[v, .int .i64 e1]) ∧ Wr w' w.heap.size v L ∧ (∀ k, v.ownBlock = some k → ¬ own w' b g k) ∧ Hs 27 w b g c w' s1 := by
  have q := keys_any b g c s at_ hat rms w h
  rw [heq.out] at q
  exact q
theorem lies_new (w : World) (l : List Int) : Lies (w.alloc (.cells (u64s l) 32)) (.slice (some ⟨w.heap.size, 0, none⟩) l.length l.length) l := by
  refine ⟨_, l.length, rfl, fun i hi => ⟨w.heap.size, 0, rfl, ?_⟩⟩
  rw [Nat.zero_add, cell_of_block (alloc_block w _), u64s_get l i hi]
  rfl
theorem Hs.kept {T : TypeId} {w0 w X : World} {b g c : Nat} {s : Wd} (k0 : Keeps (fun _ => False) w0 w) (h : Hs T w b g c X s) (hn : ∀ i, own w b g i → w0.heap.size ≤ i) : Keeps (fun _ => False) w0 X :=
  k0.step h.k.k (fun i hi e => by
    rcases e with e | e
    · have := hn i e; omega
    · exact e.elim)
set_option maxRecDepth 100000 in
set_option maxHeartbeats 4000000 in
theorem known_any (w : World) : Calls Try.prog 7 #[] w fun e w' => e = .returned (.bool true) ∧ Keeps (fun _ => False) w w' := by
  have hmk : ∀ w : World, (Instr.makeSlice 24 (.int .i64 100) (.int .i64 100)).run Try.prog w = .ok (.slice (some ⟨w.heap.size, 0, none⟩) 100 100) (w.alloc (.cells (madeCells #[.int .u64 0] 100) 32)) := run_made 100 (by omega)
  have HWD : Hid (Hs 27 ((w.alloc (.cells (madeCells #[.int .u64 0] 100) 32)).alloc (.cells #[.slice (some ⟨w.heap.size, 0, none⟩) 100 100, .slice none 0 0, .int .i64 0, .int .i64 0] 27 (0, 0))) (w.heap.size + 1) w.heap.size 100 ((w.alloc (.cells (madeCells #[.int .u64 0] 100) 32)).alloc (.cells #[.slice (some ⟨w.heap.size, 0, none⟩) 100 100, .slice none 0 0, .int .i64 0, .int .i64 0] 27 (0, 0))) K0) := hid (Hs.start (wd_made _ w 100 (by omega) (by omega) 0 0))
  have HK0 : Hid (Keeps (fun _ => False) w ((w.alloc (.cells (madeCells #[.int .u64 0] 100) 32)).alloc (.cells #[.slice (some ⟨w.heap.size, 0, none⟩) 100 100, .slice none 0 0, .int .i64 0, .int .i64 0] 27 (0, 0)))) := hid ((keeps_new w _).alloc _)
  have HOW : Hid (∀ i, own ((w.alloc (.cells (madeCells #[.int .u64 0] 100) 32)).alloc (.cells #[.slice (some ⟨w.heap.size, 0, none⟩) 100 100, .slice none 0 0, .int .i64 0, .int .i64 0] 27 (0, 0))) (w.heap.size + 1) w.heap.size i → w.heap.size ≤ i) := by
    refine hid fun i hi => ?_
    rcases hi with e | e | ⟨x, v, y, z, t, fr, e1, e2⟩
    · omega
    · omega
    · have b1 := alloc_block (w.alloc (.cells (madeCells #[.int .u64 0] 100) 32)) (.cells #[.slice (some ⟨w.heap.size, 0, none⟩) 100 100, .slice none 0 0, .int .i64 0, .int .i64 0] 27 (0, 0))
      rw [show (w.alloc (.cells (madeCells #[.int .u64 0] 100) 32)).heap.size = w.heap.size + 1 by simp] at b1
      rw [b1] at e1
      simp at e1
      obtain ⟨⟨_, rfl, _⟩, _⟩ := e1
      simp [Value.ownBlock] at e2
  have E1 := hid ex1
  have E2 := hid ex2
  have E3 := hid ex3
  have E4 := hid ex4
  have E5 := hid ex5
  have E6 := hid ex6
  have w0 : isW 0 := zero_isW
  have w20 : isW 20 := lit_isW 20 (by omega)
  have w40 : isW 40 := lit_isW 40 (by omega)
  have w100 : isW 100 := lit_isW 100 (by omega)
  have w7 : isW 7 := lit_isW 7 (by omega)
  have w3 : isW 3 := lit_isW 3 (by omega)
  go_enter Try.func7, Try.ntmps7
  go_wp2_with fail
  generalize ((w.alloc (.cells (madeCells #[.int .u64 0] 100) 32)).alloc (.cells #[.slice (some ⟨w.heap.size, 0, none⟩) 100 100, .slice none 0 0, .int .i64 0, .int .i64 0] 27 (0, 0))) = X0 at HWD HK0 HOW ⊢
  clear hmk
  have hh := HWD.out
  refine (lay_r E1 w0 w40 w100 rmK0 hh.wd).mono ?_
  rintro e_ x1 ⟨rfl, h1⟩
  have HH := hid (hh.trans h1)
  clear hh h1 E1 HWD
  go_wp2_with fail
  refine (num_any _ _).mono ?_
  rintro e_ w_ ⟨rfl, hw_⟩
  subst w_
  go_wp2_with fail
  have hh := HH.out
  refine (slay_r E2 rmK1 hh.wd).mono ?_
  rintro e_ x2 ⟨rfl, h2⟩
  replace HH := hid (hh.trans h2)
  clear hh h2
  go_wp2_with fail
  refine (num_any _ _).mono ?_
  rintro e_ w_ ⟨rfl, hw_⟩
  subst w_
  go_wp2_with fail
  have hh := HH.out
  refine (ins_r E3 w0 w20 w7 rmK2 hh.wd).mono ?_
  rintro e_ x3 ⟨rfl, h3⟩
  replace HH := hid (hh.trans h3)
  clear hh h3
  go_wp2_with fail
  have hh := HH.out
  refine (ins_r E4 w0 w20 w3 rmK3 hh.wd).mono ?_
  rintro e_ x4 ⟨rfl, h4⟩
  replace HH := hid (hh.trans h4)
  clear hh h4
  go_wp2_with fail
  have hh := HH.out
  refine (ins_r E5 w0 w20 w7 rmK4 hh.wd).mono ?_
  rintro e_ x5 ⟨rfl, h5⟩
  replace HH := hid (hh.trans h5)
  clear hh h5
  go_wp2_with fail
  have hh := HH.out
  refine (keys_r E6 w20 rmK5 hh.wd).mono ?_
  rintro e_ x6 ⟨v, rfl, r6, n6, h6⟩
  have HW : Hid (Lies x6 v [3, 7] ∧ Hs 27 X0 (w.heap.size + 1) w.heap.size 100 x6 K6) := hid ⟨r6.lies, hh.trans h6⟩
  obtain ⟨av, cv, rfl⟩ := r6.form
  clear hh h6 n6 r6 E6 HH
  go_wp2_with fail
  refine (num_any _ _).mono ?_
  rintro e_ w_ ⟨rfl, hw_⟩
  subst w_
  go_wp2_with fail
  refine (num_any _ _).mono ?_
  rintro e_ w_ ⟨rfl, hw_⟩
  subst w_
  go_wp2_with fail
  refine (num_any _ _).mono ?_
  rintro e_ w_ ⟨rfl, hw_⟩
  subst w_
  go_wp2_with fail
  refine (num_any _ _).mono ?_
  rintro e_ w_ ⟨rfl, hw_⟩
  subst w_
  go_wp2_with fail
  have hla : Lies (x6.alloc (.cells (u64s [3, 7]) 32)) (.slice av 2 cv) [3, 7] := HW.out.1.keeps (keeps_new _ _) (fun _ _ _ _ f => f)
  refine (words_same _ _ [3, 7] (by simp) _ hla (lies_new x6 [3, 7])).mono ?_
  rintro e_ x7 ⟨rfl, m, hw⟩
  have HX : Hid (Hs 27 X0 (w.heap.size + 1) w.heap.size 100 x7 K6) := by
    have kn : Keeps (fun _ => False) x6 x7 := by rw [hw]; exact (keeps_new x6 _).drewN m
    exact hid (HW.out.2.new kn)
  clear hw hla HW
  have c0 := HX.out.wd.cell0
  rw [ex7, adr_pos (by omega)] at c0
  have hc := fun i (hi : i < 100) => HX.out.wd.wcell i (by rw [ex7]; exact hi)
  have c20 := hc 20 (by omega)
  have c21 := hc 21 (by omega)
  rw [ex8.1] at c20
  rw [ex8.2.1] at c21
  clear hc
  go_wp2_with fail
  have HY : Hid (Hs 27 X0 (w.heap.size + 1) w.heap.size 100 (x7.alloc (.cells (u64s [3, 2, 41, 0]) 32)) K6) := hid (HX.out.new (keeps_new x7 _))
  have hlb : Lies (x7.alloc (.cells (u64s [3, 2, 41, 0]) 32)) (.slice (some ⟨w.heap.size, 43, none⟩) 4 57) [3, 2, 41, 0] := by
    refine ⟨_, 57, rfl, fun i hi => ⟨w.heap.size, 43, rfl, ?_⟩⟩
    have hi' : i < 4 := hi
    rw [HY.out.wd.wcell (43 + i) (by rw [ex7]; omega)]
    match i, hi' with
    | 0, _ => rw [ex8.2.2.1]; rfl
    | 1, _ => rw [ex8.2.2.2.1]; rfl
    | 2, _ => rw [ex8.2.2.2.2.1]; rfl
    | 3, _ => rw [ex8.2.2.2.2.2]; rfl
  refine (words_same _ _ [3, 2, 41, 0] (by simp) _ hlb (lies_new x7 [3, 2, 41, 0])).mono ?_
  rintro e_ x8 ⟨rfl, m2, hw2⟩
  have HZ : Hid (Keeps (fun _ => False) w x8) := by
    have kn : Keeps (fun _ => False) (x7.alloc (.cells (u64s [3, 2, 41, 0]) 32)) x8 := by rw [hw2]; exact (Keeps.refl _ _).drewN m2
    exact hid (Hs.kept HK0.out (HY.out.new kn) HOW.out)
  clear hw2 hlb HY HX c0 c20 c21
  go_wp2_with fail
  go_ret
  exact ⟨rfl, HZ.out⟩
end Go.Proofs.Ytifmpiiaebnbiaa
