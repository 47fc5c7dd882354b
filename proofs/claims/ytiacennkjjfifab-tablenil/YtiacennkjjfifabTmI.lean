
/- The example: known (layer 25). No statement of the seat is proved here. -/
import Derived.Test.YtiacennkjjfifabTmH
import Derived.Test.YtiacennkjjfifabTkF
namespace Go.Proofs.Ytiacennkjjfifab
open Go.RowKit

theorem run_made (n : Nat) (hn : n ≤ 35184372088832) (w : World) : (Instr.makeSlice 34 (.int .i64 n) (.int .i64 n)).run Try.prog w =
    .ok (.slice (some ⟨w.heap.size, 0, none⟩) n n) (w.alloc (.cells (madeCells #[.int .u64 0] n) 22)) := by
  obtain ⟨i0, hi, hz0, hz1, hz2⟩ := info_parts info_word
  have h := run_make (P := Try.prog) w 34 22 i0 _ Try.underlying34 hi hz0 .i64 .i64 n n (by omega) (by omega) (by rw [hz2]; omega) (by omega)
  rw [h, hz1, Int.toNat_natCast, Nat.mul_one]
  rfl
theorem rep_isW (n : Nat) : ∀ x ∈ List.replicate n (0 : Int), isW x := fun x hx => by rw [List.eq_of_mem_replicate hx]; exact zero_isW
theorem lit_isW (n : Nat) (h : n < 18446744073709551616) : isW (n : Int) := ⟨by omega, by omega⟩
/-- A tx of words of nought, nothing told yet. -/
theorem wd_made (T : TypeId) (w : World) (n : Nat) (hn : 0 < n) (hm : n ≤ 17592186044416) (gd er : Int) : WdAt T ((w.alloc (.cells (madeCells #[.int .u64 0] n) 22)).alloc (.cells #[.slice (some ⟨w.heap.size, 0, none⟩) n n, .slice none 0 0, .int .i64 gd, .int .i64 er] T (0, 0))) (w.heap.size + 1) w.heap.size n ⟨List.replicate n 0, [], gd, er⟩ := by
  have e1 : (w.alloc (.cells (madeCells #[.int .u64 0] n) 22)).heap.size = w.heap.size + 1 := by simp
  have b1 := alloc_block (w.alloc (.cells (madeCells #[.int .u64 0] n) 22)) (.cells #[.slice (some ⟨w.heap.size, 0, none⟩) n n, .slice none 0 0, .int .i64 gd, .int .i64 er] T (0, 0))
  rw [e1] at b1
  refine ⟨⟨.slice none 0 0, ?_, ⟨rfl, .inl ⟨rfl, rfl⟩⟩, fun k hk => by simp [Value.ownBlock] at hk⟩, .inr ⟨by omega, madeCells #[.int .u64 0] n, ?_, fun i hi => ?_⟩, by simp, rep_isW n, by simpa using hm⟩
  · rw [b1]
    simp only [List.length_replicate]
    rw [adr_pos (by omega)]
  · exact ((keeps_new _ _).block _ (by simp) (fun f => f)).trans (alloc_block w _)
  · have hi' : i < n := by simpa using hi
    have q := u64s_get (List.replicate n 0) i (by simpa using hi')
    rw [← madeCells_u64] at q
    exact q
theorem Hs.kept {T : TypeId} {w0 w X : World} {b g c : Nat} {s : Wd} (k0 : Keeps (fun _ => False) w0 w) (h : Hs T w b g c X s) (hn : ∀ i, own w b g i → w0.heap.size ≤ i) : Keeps (fun _ => False) w0 X :=
  k0.step h.k.k (fun i hi e => by
    rcases e with e | e
    · have := hn i e; omega
    · exact e.elim)

def K0 : Wd := ⟨List.replicate 200 0, [], 0, 0⟩
def K1 : Wd := (K0.lay 0 40 200).2
def K2 : Wd := (K1.slay 20).2
def K3 : Wd := (tputF 0 20 1 5 K2).2
def K4 : Wd := (tputF 0 20 3 6 K3).2
def K5 : Wd := (tputF 0 20 1 7 K4).2
def K6 : Wd := (tgetF 20 1 K5).2
theorem ex1 : K0.lay 0 40 200 = (0, K1) := by kernel_rfl
theorem ex2 : K1.slay 20 = (0, K2) := by kernel_rfl
theorem ex3 : tputF 0 20 1 5 K2 = (((0, false), 0), K3) := by kernel_rfl
theorem ex4 : tputF 0 20 3 6 K3 = (((0, false), 0), K4) := by kernel_rfl
theorem ex5 : tputF 0 20 1 7 K4 = (((5, true), 0), K5) := by kernel_rfl
theorem ex6 : tgetF 20 1 K5 = (((7, true), 0), K6) := by kernel_rfl
theorem ex7 : K6.W.length = 200 := by kernel_rfl
theorem ex8 : oat K6.W 29 = 81 ∧ oat K6.W 33 = 85 := ⟨by kernel_rfl, by kernel_rfl⟩
theorem rmK0 : Rm K0 18 := of_decide_eq_true (p := K0.L.length + 18 ≤ 10000000) (by kernel_rfl)
theorem rmK1 : Rm K1 16 := of_decide_eq_true (p := K1.L.length + 16 ≤ 10000000) (by kernel_rfl)
theorem rmK2 : Rm K2 350 := of_decide_eq_true (p := K2.L.length + 350 ≤ 10000000) (by kernel_rfl)
theorem rmK3 : Rm K3 350 := of_decide_eq_true (p := K3.L.length + 350 ≤ 10000000) (by kernel_rfl)
theorem rmK4 : Rm K4 350 := of_decide_eq_true (p := K4.L.length + 350 ≤ 10000000) (by kernel_rfl)
theorem rmK5 : Rm K5 18 := of_decide_eq_true (p := K5.L.length + 18 ≤ 10000000) (by kernel_rfl)
theorem num_any (n : Int) (w : World) : Calls Try.prog 13 #[.int .i64 n] w fun e w' => e = .returned (.int .i64 n) ∧ w' = w := by
  go_enter Try.func13, Try.ntmps13
  go_wp2_with fail
  go_ret
  exact ⟨rfl, rfl⟩
set_option maxRecDepth 100000 in
set_option maxHeartbeats 4000000 in
theorem known_any (w : World) : Calls Try.prog 15 #[] w fun e w' => e = .returned (.bool true) ∧ Keeps (fun _ => False) w w' := by
  have hmk : ∀ w : World, (Instr.makeSlice 34 (.int .i64 200) (.int .i64 200)).run Try.prog w = .ok (.slice (some ⟨w.heap.size, 0, none⟩) 200 200) (w.alloc (.cells (madeCells #[.int .u64 0] 200) 22)) := run_made 200 (by omega)
  have HWD : Hid (Hs 65 ((w.alloc (.cells (madeCells #[.int .u64 0] 200) 22)).alloc (.cells #[.slice (some ⟨w.heap.size, 0, none⟩) 200 200, .slice none 0 0, .int .i64 0, .int .i64 0] 65 (0, 0))) (w.heap.size + 1) w.heap.size 200 ((w.alloc (.cells (madeCells #[.int .u64 0] 200) 22)).alloc (.cells #[.slice (some ⟨w.heap.size, 0, none⟩) 200 200, .slice none 0 0, .int .i64 0, .int .i64 0] 65 (0, 0))) K0) := hid (Hs.start (wd_made 65 w 200 (by omega) (by omega) 0 0))
  have HK0 : Hid (Keeps (fun _ => False) w ((w.alloc (.cells (madeCells #[.int .u64 0] 200) 22)).alloc (.cells #[.slice (some ⟨w.heap.size, 0, none⟩) 200 200, .slice none 0 0, .int .i64 0, .int .i64 0] 65 (0, 0)))) := hid ((keeps_new w _).alloc _)
  have HOW : Hid (∀ i, own ((w.alloc (.cells (madeCells #[.int .u64 0] 200) 22)).alloc (.cells #[.slice (some ⟨w.heap.size, 0, none⟩) 200 200, .slice none 0 0, .int .i64 0, .int .i64 0] 65 (0, 0))) (w.heap.size + 1) w.heap.size i → w.heap.size ≤ i) := by
    refine hid fun i hi => ?_
    rcases hi with e | e | ⟨x, v, y, z, t, fr, e1, e2⟩
    · omega
    · omega
    · have b1 := alloc_block (w.alloc (.cells (madeCells #[.int .u64 0] 200) 22)) (.cells #[.slice (some ⟨w.heap.size, 0, none⟩) 200 200, .slice none 0 0, .int .i64 0, .int .i64 0] 65 (0, 0))
      rw [show (w.alloc (.cells (madeCells #[.int .u64 0] 200) 22)).heap.size = w.heap.size + 1 by simp] at b1
      rw [b1] at e1
      simp at e1
      obtain ⟨⟨_, rfl, _⟩, _⟩ := e1
      simp [Value.ownBlock] at e2
  have E1 := hid ex1
  have E2 := hid ex2
  have E3 := hid ex3
  have E4 := hid ex4
  have E5 := hid ex5
  have E6 := hid ex6
  have w0 : isW 0 := zero_isW
  have w20 : isW 20 := lit_isW 20 (by omega)
  have w40 : isW 40 := lit_isW 40 (by omega)
  have w200 : isW 200 := lit_isW 200 (by omega)
  have w1 : isW 1 := lit_isW 1 (by omega)
  have w3 : isW 3 := lit_isW 3 (by omega)
  have w5 : isW 5 := lit_isW 5 (by omega)
  have w6 : isW 6 := lit_isW 6 (by omega)
  have w7 : isW 7 := lit_isW 7 (by omega)
  go_enter Try.func15, Try.ntmps15
  go_wp2_with fail
  generalize ((w.alloc (.cells (madeCells #[.int .u64 0] 200) 22)).alloc (.cells #[.slice (some ⟨w.heap.size, 0, none⟩) 200 200, .slice none 0 0, .int .i64 0, .int .i64 0] 65 (0, 0))) = W0 at *
  clear hmk
  have hh := HWD.out
  refine (lay_r E1 w0 w40 w200 rmK0 hh.wd).mono ?_
  rintro e_ x1 ⟨rfl, h1⟩
  replace HWD := hid (hh.trans h1)
  clear hh h1
  go_wp2_with fail
  refine (num_any _ _).mono ?_
  rintro e_ w_ ⟨rfl, hw_⟩
  subst w_
  go_wp2_with fail
  refine (slay_r E2 rmK1 HWD.out.wd).mono ?_
  rintro e_ x2 ⟨rfl, h1⟩
  replace HWD := hid (HWD.out.trans h1)
  clear h1
  go_wp2_with fail
  refine (num_any _ _).mono ?_
  rintro e_ w_ ⟨rfl, hw_⟩
  subst w_
  go_wp2_with fail
  refine (put_any E3 w0 w1 w5 rmK2 HWD.out.wd).mono ?_
  rintro e_ x3 ⟨rfl, h1⟩
  replace HWD := hid (HWD.out.trans h1)
  clear h1
  go_wp2_with fail
  refine (put_any E4 w0 w3 w6 rmK3 HWD.out.wd).mono ?_
  rintro e_ x4 ⟨rfl, h1⟩
  replace HWD := hid (HWD.out.trans h1)
  clear h1
  go_wp2_with fail
  refine (put_any E5 w0 w1 w7 rmK4 HWD.out.wd).mono ?_
  rintro e_ x5 ⟨rfl, h1⟩
  replace HWD := hid (HWD.out.trans h1)
  clear h1
  go_wp2_with fail
  refine (get_any E6 rmK5 HWD.out.wd).mono ?_
  rintro e_ x6 ⟨rfl, h1⟩
  replace HWD := hid (HWD.out.trans h1)
  clear h1 E1 E2 E3 E4 E5 E6
  have c0 := HWD.out.wd.cell0
  have c29 := HWD.out.wd.wcell 29 (by rw [ex7]; omega)
  have c33 := HWD.out.wd.wcell 33 (by rw [ex7]; omega)
  rw [ex8.1] at c29
  rw [ex8.2] at c33
  rw [ex7, adr_pos (by omega)] at c0
  clear w0 w1 w3 w5 w6 w7 w20 w40 w200
  have HKK := hid (Hs.kept HK0.out HWD.out HOW.out)
  go_wp2_with (refine (num_any _ _).mono ?_; rintro e_ w_ ⟨rfl, hw_⟩; subst w_)
  go_ret
  exact ⟨rfl, HKK.out⟩
end Go.Proofs.Ytiacennkjjfifab
