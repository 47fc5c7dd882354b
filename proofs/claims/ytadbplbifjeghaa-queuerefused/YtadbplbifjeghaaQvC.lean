
/- A world that is laid (layer 23), and the statement's example: works. No statement of the seat is proved here. -/
import Derived.Test.YtadbplbifjeghaaQvB
import Derived.Test.YtadbplbifjeghaaQuG
namespace Go.Proofs.Ytadbplbifjeghaa
open Go.RowKit

theorem wd_made {w : World} {b g c : Nat} {s : Wd} (hb : b = w.heap.size) (hr : ∃ cur, w.heap[g]? = some (.cells cur 33 (0, 0)) ∧ ∀ i, i < s.W.length → cur[i]? = some (.int .u64 (oat s.W i))) (ok : s.Ok) : WdAt (w.alloc (.cells #[.slice (some ⟨g, 0, none⟩) s.W.length c, .int .i64 s.l, .int .i64 s.c, .int .i64 s.n] 40)) b g c s := by
  subst hb
  obtain ⟨cur, h1, h2⟩ := hr
  have hg := lt_of_block h1
  exact ⟨alloc_block w _, ⟨cur, (Below.heap_alloc _ _ _ hg).trans h1, h2⟩, by omega, ok⟩
theorem tw_made {w : World} {t b g c : Nat} {s : Wd} (ht : t = w.heap.size) (h : WdAt w b g c s) : Tw (w.alloc (.cells #[.pointer (some ⟨b, 0, none⟩)] 28)) t b g c s := by
  subst ht
  have hb := h.ltb
  have hg := h.ltg
  exact ⟨⟨alloc_block w _, by omega⟩, h.kept (S := fun _ => False) ((Keeps.refl _ w).alloc _) (fun f => f) (fun f => f), by omega⟩
theorem run_made (n : Nat) (hn : n ≤ 35184372088832) (w : World) : (Instr.makeSlice 36 (.int .i64 n) (.int .i64 n)).run Try.prog w =
    .ok (.slice (some ⟨w.heap.size, 0, none⟩) n n) (w.alloc (.cells (madeCells #[.int .u64 0] n) 33)) := by
  obtain ⟨i0, hi, hz0, hz1, hz2⟩ := info_parts info_word
  have h := run_make (P := Try.prog) w 36 33 i0 _ Try.underlying36 hi hz0 .i64 .i64 n n (by omega) (by omega) (by rw [hz2]; omega) (by omega)
  rw [h, hz1, Int.toNat_natCast, Nat.mul_one]
  rfl
/-- A world that is laid. -/
def lay0 (n : Nat) : Wd := (⟨List.replicate n 0, -1, 0, 0⟩ : Wd)
def laidW (n : Nat) : Wd := { ((lay0 n).lay 0 18 n).2 with n := 0 }
theorem rlay_r {b g c : Nat} {s : Wd} {a p q e1 : Int} {s1 : Wd} (heq : Hid (s.lay a p q = (e1, s1))) (ha : isW a) (hp : isW p) (hq : isW q) {w : World} (h : WdAt w b g c s) :
    Calls Try.prog 18 #[.pointer (some ⟨b, 0, none⟩), .int .u64 a, .int .u64 p, .int .u64 q] w fun e w' => e = .returned (.int .i64 e1) ∧ WdAt w' b g c s1 ∧ Keeps (two b g) w w' := by
  have q := rlay_any b g c s a p q ha hp hq w h
  rw [heq.out] at q
  exact q
theorem lit_isW (n : Nat) (h : n < 18446744073709551616) : isW (n : Int) := ⟨by omega, by omega⟩
set_option maxRecDepth 100000 in
set_option maxHeartbeats 1000000 in
theorem laid_any (n : Nat) (hn : n ≤ 1000) (w : World) : Calls Try.prog 6 #[.int .i64 n] w fun e w' => ∃ b g c, e = .returned (.pointer (some ⟨b, 0, none⟩)) ∧ WdAt w' b g c (laidW n) ∧ Keeps (fun _ => False) w w' ∧ w.heap.size ≤ b ∧ w.heap.size ≤ g := by
  have hmk := run_made n (by omega)
  have hwn : IntKind.u64.wrap (n : Int) = n := by rw [IntKind.wrap_u64]; omega
  have e1 : ∀ (x : World) (o : Obj), (x.alloc o).heap.size = x.heap.size + 1 := fun x o => by simp
  have hrow : ∃ cur, (w.alloc (.cells (madeCells #[.int .u64 0] n) 33)).heap[w.heap.size]? = some (.cells cur 33 (0, 0)) ∧ ∀ i, i < (List.replicate n (0 : Int)).length → cur[i]? = some (.int .u64 (oat (List.replicate n 0) i)) := ⟨_, alloc_block w _, fun i hi => by
    have q := u64s_get (List.replicate n 0) i hi
    rw [← madeCells_u64] at q
    exact q⟩
  have hok : Wd.Ok ⟨List.replicate n 0, -1, 0, 0⟩ := ⟨fun x hx => by rw [List.eq_of_mem_replicate hx]; exact ⟨Int.le_refl _, by simp⟩, by simp; omega⟩
  have h1 := wd_made (w := w.alloc (.cells (madeCells #[.int .u64 0] n) 33)) (b := w.heap.size + 1) (g := w.heap.size) (c := n) (s := ⟨List.replicate n 0, -1, 0, 0⟩) (e1 _ _).symm hrow hok
  simp only [List.length_replicate] at h1
  obtain ⟨⟨e, s1⟩, eq1⟩ : ∃ rr, (lay0 n).lay 0 18 n = rr := ⟨_, rfl⟩
  have HS : Hid (laidW n = { s1 with n := 0 }) := hid (by unfold laidW; rw [eq1])
  have HE : Hid (_ = _) := eq1
  have H1 := hid h1
  clear h1 hrow hok eq1
  go_enter Try.func6, Try.ntmps6
  go_wp2_with fail
  have hh := H1.out
  refine (rlay_r HE (lit_isW 0 (by omega)) (lit_isW 18 (by omega)) (lit_isW n (by omega)) hh).mono ?_
  rintro e_ w2 ⟨rfl, h2, k2⟩
  have HF := hid (And.intro h2 k2)
  have c3 := h2.cell3
  have f3 := h2.frozen 3
  clear hh h2 k2 H1 HE
  go_wp2_with fail
  go_ret
  have h3 := HF.out.1.calls 0
  rw [HS.out]
  have kk : Keeps (fun _ => False) w w2 := (((Keeps.refl (fun _ => False) w).alloc _).alloc _).step HF.out.2 (fun i hi e => by rcases e with e | e <;> omega)
  exact ⟨_, _, _, rfl, h3, kk.step ((Keeps.refl (fun i => i = w.heap.size + 1) w2).setCell (p := ⟨w.heap.size + 1, 3, none⟩) (.inr rfl) _) (fun i hi e => by omega), by omega, by omega⟩
end Go.Proofs.Ytadbplbifjeghaa
