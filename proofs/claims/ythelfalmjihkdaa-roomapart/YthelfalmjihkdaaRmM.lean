
/- The statement's example of its own (layer 20): works. No statement of the seat is proved here. -/
import Derived.Test.YthelfalmjihkdaaRmJ
namespace Go.Proofs.Ythelfalmjihkdaa
open Go.RowKit

def S0 : Wd := ⟨List.replicate 100 0, -1, 0, 0⟩
def S1 : Wd := (S0.lay 0 20 30).2
def S2 : Wd := (S1.take 0 4).2
def S3 : Wd := (S2.take 0 4).2
def S4 : Wd := (S3.take 0 4).2
def S5 : Wd := (S4.lft 0).2
def S6 : Wd := (S5.give 0 20 4).2
def S7 : Wd := (S6.give 0 24 4).2
def S8 : Wd := (S7.given 0 4).2
theorem ex1 : S0.lay 0 20 30 = (0, S1) := by kernel_rfl
theorem ex2 : S1.take 0 4 = ((20, 0), S2) := by kernel_rfl
theorem ex3 : S2.take 0 4 = ((24, 0), S3) := by kernel_rfl
theorem ex4 : S3.take 0 4 = ((0, 9), S4) := by kernel_rfl
theorem ex5 : S4.lft 0 = ((2, 0), S5) := by kernel_rfl
theorem ex6 : S5.give 0 20 4 = (0, S6) := by kernel_rfl
theorem ex7 : S6.give 0 24 4 = (0, S7) := by kernel_rfl
theorem ex8 : S7.given 0 4 = (([24, 20], 0), S8) := by kernel_rfl

theorem wd_made {w : World} {b g c : Nat} {s : Wd} (hb : b = w.heap.size) (hr : ∃ cur, w.heap[g]? = some (.cells cur 31 (0, 0)) ∧ ∀ i, i < s.W.length → cur[i]? = some (.int .u64 (oat s.W i))) (ok : s.Ok) : WdAt (w.alloc (.cells #[.slice (some ⟨g, 0, none⟩) s.W.length c, .int .i64 s.l, .int .i64 s.c, .int .i64 s.n] 27)) b g c s := by
  subst hb
  obtain ⟨cur, h1, h2⟩ := hr
  have hg := lt_of_block h1
  exact ⟨alloc_block w _, ⟨cur, (Below.heap_alloc _ _ _ hg).trans h1, h2⟩, by omega, ok⟩
theorem tw_made {w : World} {t b g c : Nat} {s : Wd} (ht : t = w.heap.size) (h : WdAt w b g c s) : Tw (w.alloc (.cells #[.pointer (some ⟨b, 0, none⟩)] 29)) t b g c s := by
  subst ht
  have hb := h.ltb
  have hg := h.ltg
  exact ⟨⟨alloc_block w _, by omega⟩, h.kept (S := fun _ => False) ((Keeps.refl _ w).alloc _) (fun f => f) (fun f => f), by omega⟩
theorem run_made (n : Nat) (hn : n ≤ 35184372088832) (w : World) : (Instr.makeSlice 22 (.int .i64 n) (.int .i64 n)).run Try.prog w =
    .ok (.slice (some ⟨w.heap.size, 0, none⟩) n n) (w.alloc (.cells (madeCells #[.int .u64 0] n) 31)) := by
  obtain ⟨i0, hi, hz0, hz1, hz2⟩ := info_parts info_word
  have h := run_make (P := Try.prog) w 22 31 i0 _ Try.underlying22 hi hz0 .i64 .i64 n n (by omega) (by omega) (by rw [hz2]; omega) (by omega)
  rw [h, hz1, Int.toNat_natCast, Nat.mul_one]
  rfl
set_option maxRecDepth 100000 in
set_option maxHeartbeats 1000000 in
theorem over_any (n : Nat) (hn : n ≤ 1000) (w : World) : Calls Try.prog 9 #[.int .i64 n] w fun e w' => ∃ t b g c, e = .returned (.pointer (some ⟨t, 0, none⟩)) ∧ Tw w' t b g c ⟨List.replicate n 0, -1, 0, 0⟩ ∧ Keeps (fun _ => False) w w' ∧ w.heap.size ≤ t ∧ w.heap.size ≤ b ∧ w.heap.size ≤ g := by
  have hmk := run_made n (by omega)
  go_enter Try.func9, Try.ntmps9
  go_wp2_with fail
  go_ret
  have e1 : ∀ (x : World) (o : Obj), (x.alloc o).heap.size = x.heap.size + 1 := fun x o => by simp
  have hrow : ∃ cur, (w.alloc (.cells (madeCells #[.int .u64 0] n) 31)).heap[w.heap.size]? = some (.cells cur 31 (0, 0)) ∧ ∀ i, i < (List.replicate n (0 : Int)).length → cur[i]? = some (.int .u64 (oat (List.replicate n 0) i)) := ⟨_, alloc_block w _, fun i hi => by
    have q := u64s_get (List.replicate n 0) i hi
    rw [← madeCells_u64] at q
    exact q⟩
  have hok : Wd.Ok ⟨List.replicate n 0, -1, 0, 0⟩ := ⟨fun x hx => by rw [List.eq_of_mem_replicate hx]; exact ⟨Int.le_refl _, by simp⟩, by simp; omega⟩
  have h1 := wd_made (w := w.alloc (.cells (madeCells #[.int .u64 0] n) 31)) (b := w.heap.size + 1) (g := w.heap.size) (c := n) (s := ⟨List.replicate n 0, -1, 0, 0⟩) (e1 _ _).symm hrow hok
  have h2 := tw_made (t := w.heap.size + 1 + 1) (by rw [e1, e1]) h1
  simp only [List.length_replicate] at h2
  exact ⟨_, _, _, _, rfl, h2, (((Keeps.refl _ w).alloc _).alloc _).alloc _, by omega, by omega, by omega⟩
end Go.Proofs.Ythelfalmjihkdaa
