/-
  No statement of the seat is proved here. (Several texts in one: RoD, RoF.)
-/
import Derived.Test.YtalopkllldnipaaRnD
import Derived.Test.YtalopkllldnipaaRoC

/- do with a tx, over any step (layer 24). No statement of the seat is proved here. -/
namespace Go.Proofs.Ytalopkllldnipaa
open Go.RowKit

def nO : Option (Int × Int) → Nat
  | none => 0
  | some p => reB p.1
def xO : Option (Int × Int) → Int
  | none => 0
  | some p => p.2
theorem rkV_eq (o : Option (Int × Int)) : rkV o = .agg #[.float .f64 (nO o), .int .u64 (xO o)] := by cases o <;> rfl
/-- A reply. -/
def rpR (R : Rt) (v : Value) (e : Int) : Value := .agg (rpA (nO R.1) (xO R.1) R.1.isSome R.2.1 v e)
theorem doX_wd {w : World} {b g c : Nat} {s : Wd} (kd on bits wd : Int) (h : WdAt w b g c s) : WdAt (doX w kd on bits wd) b g c s := h.kept (doX_at w kd on bits wd).2 (fun f => f) (fun f => f)
theorem doS_wd {w w1 w' : World} {b g c : Nat} {s s1 : Wd} (h0 : WdAt w b g c s) (h : WdAt w1 b g c s1) (k0 : Keeps (two b g) w w1) (k : Keeps (doS w) w1 w') : WdAt w' b g c s1 ∧ Keeps (two b g) w w' := by
  have l1 := h0.ltb
  have l2 := h0.ltg
  exact ⟨h.kept k (fun f => by unfold doS at f; omega) (fun f => by unfold doS at f; omega), k0.step k (fun i hi f => by unfold doS at f; omega)⟩
theorem do_at {w w1 : World} {b g c : Nat} {s : Wd} {kd on bits wd : Int} (h : WdAt w b g c s) (k : Keeps (two b g) (doX w kd on bits wd) w1) : DoAt w w1 kd on bits wd ∧ Keeps (two b g) w w1 := by
  have l1 := h.ltb
  have l2 := h.ltg
  refine ⟨(doX_at w kd on bits wd).1.kept k (fun i e => by rcases e with e | e <;> omega), ((doX_at w kd on bits wd).2.mono (fun _ _ f => f.elim)).trans k⟩
/-- What a call answers, and leaves. -/
def DoP (w : World) (b g c : Nat) (R : Rt) (e : Int) (s1 : Wd) (r : Ending) (w' : World) : Prop :=
  ∃ a n m, r = .returned (rpR R (.slice a n m) e) ∧ Er w' w.heap.size (.slice a n m) R.2.2 ∧ n = R.2.2.length ∧ WdAt w' b g c s1 ∧ Keeps (two b g) w w'
theorem mapR_eq {α β : Type} {g : α → β} {F : Wd → (α × Int) × Wd} {s s1 : Wd} {y : β} {e : Int} (h : mapR g F s = ((y, e), s1)) : ∃ x, F s = ((x, e), s1) ∧ g x = y := by
  unfold mapR at h
  simp only [Prod.mk.injEq] at h
  exact ⟨(F s).1.1, Prod.ext (Prod.ext rfl h.1.2) h.2, h.1.1⟩
set_option maxHeartbeats 1000000 in
theorem do_any {b g c : Nat} {s s1 : Wd} {r h o kd on bits wd e : Int} {R : Rt} (heq : Hid (callF r h o kd bits wd s = ((R, e), s1))) (hr : isW r) (hh : isW h) (ho : isW o) (hb : isW bits) (hw : isW wd) {w : World} (hd : WdAt w b g c s) :
    Calls Try.prog 11 #[.iface 24 (.pointer (some ⟨b, 0, none⟩)), .int .u64 r, .int .u64 h, .int .u64 o, stV kd on bits wd] w (DoP w b g c R e s1) := by
  replace heq := heq.out
  unfold callF at heq
  split at heq
  · rename_i hk
    subst hk
    obtain ⟨⟨⟩, h1, rfl⟩ := mapR_eq heq
    have hn : bits.toNat < 18446744073709551616 := by have := hb.2; omega
    refine (do_kind1 (fun e' w1 => e' = e ∧ WdAt w1 b g c s1 ∧ Keeps (two b g) w w1) (fun X hX => ?_)).mono ?_
    · have hdX : WdAt X b g c s := (doX_wd 1 on bits wd hd).kept ((Keeps.refl (fun _ => False) _).like hX.1 hX.2.1 hX.2.2.1 hX.2.2.2) (fun f => f) (fun f => f)
      refine (push_any (hid h1) hr hh hw hn hdX).mono ?_
      rintro r w1 ⟨rfl, h2, k2⟩
      have kx : Keeps (two b g) (doX w 1 on bits wd) w1 := ((Keeps.refl _ _).like hX.1 hX.2.1 hX.2.2.1 hX.2.2.2).trans k2
      exact ⟨e, rfl, ⟨rfl, h2, (do_at hd kx).2⟩, (do_at hd kx).1⟩
    · rintro r w' ⟨e', w1, rfl, ⟨rfl, h2, k2⟩, k3⟩
      exact ⟨none, 0, 0, rfl, Er.nil _ _, rfl, doS_wd hd h2 k2 k3⟩
  split at heq
  · rename_i hk
    subst hk
    obtain ⟨q, h1, rfl⟩ := mapR_eq heq
    refine (do_kind2 (fun n x hb e' w1 => (n = nO q ∧ x = xO q ∧ hb = q.isSome ∧ e' = e) ∧ WdAt w1 b g c s1 ∧ Keeps (two b g) w w1) ((pop_any (hid h1) hh (doX_wd 2 on bits wd hd)).mono ?_)).mono ?_
    · rintro r w1 ⟨rfl, h2, k2⟩
      exact ⟨nO q, xO q, q.isSome, e, by rw [rkV_eq], ⟨⟨rfl, rfl, rfl, rfl⟩, h2, (do_at hd k2).2⟩, (do_at hd k2).1⟩
    · rintro r w' ⟨n, x, hb, e', w1, rfl, ⟨⟨rfl, rfl, rfl, rfl⟩, h2, k2⟩, k3⟩
      exact ⟨none, 0, 0, rfl, Er.nil _ _, rfl, doS_wd hd h2 k2 k3⟩
  split at heq
  · rename_i hk
    subst hk
    obtain ⟨q, h1, rfl⟩ := mapR_eq heq
    refine (do_kind3 (fun n x hb e' w1 => (n = nO q ∧ x = xO q ∧ hb = q.isSome ∧ e' = e) ∧ WdAt w1 b g c s1 ∧ Keeps (two b g) w w1) ((first_any (hid h1) (doX_wd 3 on bits wd hd)).mono ?_)).mono ?_
    · rintro r w1 ⟨rfl, h2, k2⟩
      exact ⟨nO q, xO q, q.isSome, e, by rw [rkV_eq], ⟨⟨rfl, rfl, rfl, rfl⟩, h2, (do_at hd k2).2⟩, (do_at hd k2).1⟩
    · rintro r w' ⟨n, x, hb, e', w1, rfl, ⟨⟨rfl, rfl, rfl, rfl⟩, h2, k2⟩, k3⟩
      exact ⟨none, 0, 0, rfl, Er.nil _ _, rfl, doS_wd hd h2 k2 k3⟩
  split at heq
  · rename_i hk
    subst hk
    obtain ⟨q, h1, rfl⟩ := mapR_eq heq
    refine (do_kind4 (fun x e' w1 => (x = q ∧ e' = e) ∧ WdAt w1 b g c s1 ∧ Keeps (two b g) w w1) ((len_any (hid h1) (doX_wd 4 on bits wd hd)).mono ?_)).mono ?_
    · rintro r w1 ⟨rfl, h2, k2⟩
      exact ⟨q, e, rfl, ⟨⟨rfl, rfl⟩, h2, (do_at hd k2).2⟩, (do_at hd k2).1⟩
    · rintro r w' ⟨x, e', w1, rfl, ⟨⟨rfl, rfl⟩, h2, k2⟩, k3⟩
      exact ⟨none, 0, 0, rfl, Er.nil _ _, rfl, doS_wd hd h2 k2 k3⟩
  split at heq
  · rename_i hk
    subst hk
    obtain ⟨q, h1, rfl⟩ := mapR_eq heq
    have kX := (doX_at w 5 on bits wd).2
    have sX : (doX w 5 on bits wd).heap.size = w.heap.size + 3 := by unfold doX; simp
    refine (do_kind5 (fun la ln lc e' w1 => e' = e ∧ ln = q.length ∧ Er w1 (w.heap.size + 3) (.slice la ln lc) q ∧ WdAt w1 b g c s1 ∧ Keeps (two b g) w w1) ((all_any (hid h1) hh (doX_wd 5 on bits wd hd)).mono ?_)).mono ?_
    · rintro r w1 ⟨v, rfl, r2, h2, k2⟩
      obtain ⟨a, m, rfl⟩ := r2.form
      rw [sX] at r2
      exact ⟨a, q.length, m, e, rfl, ⟨rfl, rfl, r2, h2, (do_at hd k2).2⟩, (do_at hd k2).1⟩
    · rintro r w' ⟨la, ln, lc, e', w1, rfl, ⟨rfl, rfl, r2, h2, k2⟩, k3⟩
      refine ⟨la, _, lc, rfl, ?_, rfl, doS_wd hd h2 k2 k3⟩
      have r3 := r2.keeps k3 (fun i hi f => by have := (r2.block hi).1; unfold doS at f; omega)
      rcases id r3.2 with z | ⟨g', cap, cur, hv, z1, z2⟩
      · exact ⟨r3.1, .inl z⟩
      · exact ⟨r3.1, .inr ⟨g', cap, cur, hv, by omega, z2⟩⟩
  split at heq
  · rename_i hk
    subst hk
    obtain ⟨q, h1, rfl⟩ := mapR_eq heq
    refine (do_kind6 (fun x e' w1 => (x = q ∧ e' = e) ∧ WdAt w1 b g c s1 ∧ Keeps (two b g) w w1) ((clear_any (hid h1) hh (doX_wd 6 on bits wd hd)).mono ?_)).mono ?_
    · rintro r w1 ⟨rfl, h2, k2⟩
      exact ⟨q, e, rfl, ⟨⟨rfl, rfl⟩, h2, (do_at hd k2).2⟩, (do_at hd k2).1⟩
    · rintro r w' ⟨x, e', w1, rfl, ⟨⟨rfl, rfl⟩, h2, k2⟩, k3⟩
      exact ⟨none, 0, 0, rfl, Er.nil _ _, rfl, doS_wd hd h2 k2 k3⟩
  split at heq
  · rename_i hk
    subst hk
    obtain ⟨⟨⟩, h1, rfl⟩ := mapR_eq heq
    refine (do_kind7 (fun e' w1 => e' = e ∧ WdAt w1 b g c s1 ∧ Keeps (two b g) w w1) ((joinh_any (hid h1) hh ho (doX_wd 7 on bits wd hd)).mono ?_)).mono ?_
    · rintro r w1 ⟨rfl, h2, k2⟩
      exact ⟨e, rfl, ⟨rfl, h2, (do_at hd k2).2⟩, (do_at hd k2).1⟩
    · rintro r w' ⟨e', w1, rfl, ⟨rfl, h2, k2⟩, k3⟩
      exact ⟨none, 0, 0, rfl, Er.nil _ _, rfl, doS_wd hd h2 k2 k3⟩
  split at heq
  · rename_i hk
    subst hk
    obtain ⟨⟨⟩, h1, rfl⟩ := mapR_eq heq
    refine (do_kind8 (fun e' w1 => e' = e ∧ WdAt w1 b g c s1 ∧ Keeps (two b g) w w1) ((joinh_any (hid h1) hh hh (doX_wd 8 on bits wd hd)).mono ?_)).mono ?_
    · rintro r w1 ⟨rfl, h2, k2⟩
      exact ⟨e, rfl, ⟨rfl, h2, (do_at hd k2).2⟩, (do_at hd k2).1⟩
    · rintro r w' ⟨e', w1, rfl, ⟨rfl, h2, k2⟩, k3⟩
      exact ⟨none, 0, 0, rfl, Er.nil _ _, rfl, doS_wd hd h2 k2 k3⟩
  · have hk : kd < 1 ∨ 8 < kd := by omega
    unfold rtn at heq
    simp only [Prod.mk.injEq] at heq
    obtain ⟨⟨rfl, rfl⟩, rfl⟩ := heq
    refine (do_other hk).mono ?_
    rintro r w' ⟨rfl, k2⟩
    exact ⟨none, 0, 0, rfl, Er.nil _ _, rfl, hd.kept k2 (fun f => f) (fun f => f), k2.mono (fun _ _ f => f.elim)⟩
end Go.Proofs.Ytalopkllldnipaa


/- How many cells, and a room with two lists: cells, begin (layer 24). No statement of the seat is proved here. -/
namespace Go.Proofs.Ytalopkllldnipaa
open Go.RowKit

set_option maxHeartbeats 400000 in
theorem cells_any (n : Int) (w : World) : Calls Try.prog 8 #[.int .i64 n] w fun e w' => ∃ m : Nat, 40 ≤ m ∧ m ≤ 400 ∧ e = .returned (.int .i64 m) ∧ w' = w := by
  have hr := Int.tmod_lt_of_pos n (show (0 : Int) < 361 by decide)
  have hr2 : -361 < n.tmod 361 := Int.lt_tmod_of_pos n (by decide)
  have h3 : IntKind.i64.wrap (n.tmod 361 + 361) = n.tmod 361 + 361 := by rw [IntKind.wrap_i64]; omega
  have h4 := Int.tmod_lt_of_pos (n.tmod 361 + 361) (show (0 : Int) < 361 by decide)
  have h5 : 0 ≤ (n.tmod 361 + 361).tmod 361 := Int.tmod_nonneg _ (by omega)
  have h6 : IntKind.i64.wrap (40 + (n.tmod 361 + 361).tmod 361) = 40 + (n.tmod 361 + 361).tmod 361 := by rw [IntKind.wrap_i64]; omega
  go_enter Try.func8, Try.ntmps8
  go_wp2_with fail
  go_ret
  exact ⟨(40 + n.tmod 361 % 361).toNat, by omega, by omega, by rw [Int.toNat_of_nonneg (by omega)]; rfl, rfl⟩
/-- A room of so many cells with two lists. -/
def B0 (m : Nat) : Wd := ⟨List.replicate m 0, 0, 0, -1, 0⟩
def B1 (m : Nat) : Wd := ((B0 m).lay 0 18 m).2
def B2 (m : Nat) : Wd := ((B1 m).rnew 0).2
def B3 (m : Nat) : Wd := ((B2 m).rnew 0).2
def begC (m : Nat) : Bool := decide (((B0 m).lay 0 18 m).1 = 0) && decide (((B1 m).rnew 0).1 = (18, 0)) && decide (((B2 m).rnew 0).1 = (20, 0)) && decide (0 ≤ (B3 m).g) && decide (0 ≤ (B3 m).p) && decide ((B3 m).g + (B3 m).p ≤ 100) && decide ((B3 m).f = -1)
theorem beg_all : (List.range 361).all (fun j => begC (40 + j)) = true := by kernel_rfl
theorem beg_of {m : Nat} (h1 : 40 ≤ m) (h2 : m ≤ 400) : (B0 m).lay 0 18 m = (0, B1 m) ∧ (B1 m).rnew 0 = ((18, 0), B2 m) ∧ (B2 m).rnew 0 = ((20, 0), B3 m) ∧ (∃ k, k ≤ 100 ∧ Cn (B3 m) k) ∧ (B3 m).f = -1 := by
  have q := List.all_eq_true.1 beg_all (m - 40) (List.mem_range.2 (by omega))
  rw [show 40 + (m - 40) = m by omega] at q
  unfold begC at q
  simp only [Bool.and_eq_true, decide_eq_true_eq] at q
  obtain ⟨⟨⟨⟨⟨⟨a, b⟩, c⟩, d⟩, e⟩, f⟩, g⟩ := q
  exact ⟨Prod.ext a rfl, Prod.ext b rfl, Prod.ext c rfl, ⟨((B3 m).g + (B3 m).p).toNat, by omega, d, e, by omega⟩, g⟩
/-- Two words as they lie. -/
def ArAt (w : World) (q : Nat) (a b : Int) : Prop := w.heap[q]? = some (.cells #[.int .u64 a, .int .u64 b] 26 (0, 0))
theorem ArAt.c0 {w : World} {q : Nat} {a b : Int} (h : ArAt w q a b) : w.cell? ⟨q, 0, none⟩ = some (.int .u64 a) := by rw [cell_of_block h]; rfl
theorem ArAt.c1 {w : World} {q : Nat} {a b : Int} (h : ArAt w q a b) : w.cell? ⟨q, 1, none⟩ = some (.int .u64 b) := by rw [cell_of_block h]; rfl
theorem ArAt.fr {w : World} {q : Nat} {a b : Int} (h : ArAt w q a b) (i : Nat) : w.frozen? ⟨q, i, none⟩ = false := frozen_of_block h i
theorem ArAt.keeps {S : Nat → Prop} {w w' : World} {q : Nat} {a b : Int} (h : ArAt w q a b) (k : Keeps S w w') (hq : ¬ S q) : ArAt w' q a b := (k.block q (lt_of_block h) hq).trans h
theorem ArAt.set0 {w : World} {q : Nat} {a b : Int} (h : ArAt w q a b) (x : Int) : ArAt (w.setCell ⟨q, 0, none⟩ (.int .u64 x)) q x b := by unfold ArAt at *; rw [block_set h]; rfl
theorem ArAt.set1 {w : World} {q : Nat} {a b : Int} (h : ArAt w q a b) (x : Int) : ArAt (w.setCell ⟨q, 1, none⟩ (.int .u64 x)) q a x := by unfold ArAt at *; rw [block_set h]; rfl
theorem size_ar : (Try.prog.info? 26).map (·.size) = some 2 := by kernel_rfl
theorem results_tct {fn : Func} {t p u : Tmp} {ty : TypeId} (h : fn.results = #[.tmp t, .cell p ty, .tmp u]) (tmps : Array Value) (P : Program) (w : World) :
    (results fn tmps).run P w = ((asAddr (tmps.getD p undef)).run P w).andThen fun a w₁ => ((loadVar ty a).run P w₁).andThen fun x w₂ => .ok (.tuple #[tmps.getD t undef, x, tmps.getD u undef]) w₂ := by
  simp only [results, h]
  simp [Sem.run_bind, Result.andThen]
theorem ar_ret {fn : Func} {t p u : Tmp} (h : fn.results = #[.tmp t, .cell p 26, .tmp u]) (tmps : Array Value) (w : World) (q : Nat) (a b : Int) (hb : ArAt w q a b)
    (hp : tmps.getD p undef = .pointer (some ⟨q, 0, none⟩)) : (results fn tmps).run Try.prog w = .ok (.tuple #[tmps.getD t undef, .agg #[.int .u64 a, .int .u64 b], tmps.getD u undef]) w := by
  rw [results_tct h, hp]
  simp [asAddr, run_loadVar_row w q 26 26 _ (0, 0) _ hb Try.underlying26 rfl (by rw [size_ar]; rfl), Result.andThen]
set_option maxRecDepth 100000 in
set_option maxHeartbeats 2000000 in
theorem begin_any (m : Nat) (h1 : 40 ≤ m) (h2 : m ≤ 400) (w : World) : Calls Try.prog 9 #[.int .i64 m] w fun e w' => ∃ b g c, e = .returned (.tuple #[.pointer (some ⟨b, 0, none⟩), .agg #[.int .u64 18, .int .u64 20], .bool true]) ∧ WdAt w' b g c (B3 m) ∧ Keeps (fun _ => False) w w' ∧ w.heap.size ≤ b ∧ w.heap.size ≤ g := by
  obtain ⟨e1, e2, e3, _, _⟩ := beg_of h1 h2
  have E1 := hid e1
  have E2 := hid e2
  have E3 := hid e3
  clear e1 e2 e3
  have hmk := run_made m (by omega)
  have hwm : isW (m : Int) := lit_isW m (by omega)
  have w18 : isW 18 := lit_isW 18 (by omega)
  have hcv : IntKind.u64.wrap (m : Int) = (m : Int) := by rw [IntKind.wrap_u64]; omega
  have HL : Hid (Lies ((w.alloc (.cells #[.int .u64 0, .int .u64 0] 26)).alloc (.cells (madeCells #[.int .u64 0] m) 25)) (.slice (some ⟨w.heap.size + 1, 0, none⟩) m m) (List.replicate m 0)) := by
    have q := lies_made (w.alloc (.cells #[.int .u64 0, .int .u64 0] 26)) m
    rw [show (w.alloc (.cells #[.int .u64 0, .int .u64 0] 26)).heap.size = w.heap.size + 1 by simp] at q
    exact hid q
  go_enter Try.func9, Try.ntmps9
  go_wp2_with fail
  refine (over_any _ _ (rep_isW m) (by rw [List.length_replicate]; omega) _ HL.out).mono ?_
  rintro e_ x0 ⟨b, g, c, rfl, h0, k0, lb, lg⟩
  have hsz0 : ((w.alloc (.cells #[.int .u64 0, .int .u64 0] 26)).alloc (.cells (madeCells #[.int .u64 0] m) 25)).heap.size = w.heap.size + 2 := by simp
  rw [hsz0] at lb lg
  have HP : Hid (Keeps (fun _ => False) w x0 ∧ ArAt x0 w.heap.size 0 0 ∧ w.heap.size + 2 ≤ b ∧ w.heap.size + 2 ≤ g) := by
    refine hid ⟨((keeps_new w _).alloc _).trans k0, ?_, lb, lg⟩
    exact ArAt.keeps (ArAt.keeps (b := 0) (alloc_block w _) (keeps_new _ _) (fun f => f)) k0 (fun f => f)
  have HS : Hid (∀ X s', Keeps (two b g) (x0.alloc (.cells #[.int .u64 0, .int .u64 0] 26)) X → WdAt X b g c s' → ArAt X x0.heap.size 0 0 ∧ ArAt X w.heap.size 0 0 ∧ Keeps (fun _ => False) w X) := by
    intro X s' k hw
    have hb := h0.ltb
    have hg := h0.ltg
    have hp := HP.out
    have hw0 := lt_of_block hp.2.1
    refine ⟨ArAt.keeps (b := 0) (alloc_block x0 _) k (by rintro (e | e) <;> omega), (hp.2.1.keeps (keeps_new x0 _) (fun f => f)).keeps k (by rintro (e | e) <;> omega), (hp.1.alloc _).step k (fun i hi e => by rcases e with e | e <;> omega)⟩
  have HH : Hid (Hs (x0.alloc (.cells #[.int .u64 0, .int .u64 0] 26)) b g c (x0.alloc (.cells #[.int .u64 0, .int .u64 0] 26)) (B0 m)) := hid (Hs.start (h0.kept (keeps_new x0 _) (fun f => f) (fun f => f)))
  have HB : Hid (b < x0.heap.size ∧ g < x0.heap.size) := hid ⟨h0.ltb, h0.ltg⟩
  clear h0 k0 lb lg hsz0 hmk HL
  go_wp2_with fail
  have hh := HH.out
  refine (lay_r E1 zero_isW w18 hwm hh.wd).mono ?_
  rintro e_ x1 ⟨rfl, h1, k1⟩
  replace HH := hid (hh.acc k1 h1)
  clear hh h1 k1 E1
  go_wp2_with fail
  have hh := HH.out
  refine (new_any E2 zero_isW hh.wd).mono ?_
  rintro e_ x2 ⟨rfl, h2, k2⟩
  replace HH := hid (hh.acc k2 h2)
  clear hh h2 k2 E2
  go_wp2_with fail
  have hh := HH.out
  refine (new_any E3 zero_isW hh.wd).mono ?_
  rintro e_ x3 ⟨rfl, h3, k3⟩
  replace HH := hid (hh.acc k3 h3)
  clear hh h3 k3 E3
  have hst := HS.out x3 _ HH.out.k HH.out.wd
  have q60 := hst.1.c0
  have q61 := hst.1.c1
  have q6f0 := hst.1.fr 0
  have q6f1 := hst.1.fr 1
  clear hst
  go_wp2_with fail
  obtain ⟨Y, hY⟩ : ∃ Y, Y = ((x3.setCell ⟨x0.heap.size, 0, none⟩ (.int .u64 18)).setCell ⟨x0.heap.size, 1, none⟩ (.int .u64 20)) := ⟨_, rfl⟩
  rw [← hY]
  have HY : Hid (ArAt Y x0.heap.size 18 20 ∧ ArAt Y w.heap.size 0 0 ∧ Keeps (fun _ => False) w Y ∧ WdAt Y b g c (B3 m)) := by
    have hst := HS.out x3 _ HH.out.k HH.out.wd
    have ks : Keeps (fun i => i = x0.heap.size) x3 Y := by rw [hY]; exact (keeps_set x3 _ 0 _).trans (keeps_set _ _ 1 _)
    have hw0 := lt_of_block HP.out.2.1
    have hb := HB.out
    refine hid ⟨by rw [hY]; exact (hst.1.set0 18).set1 20, hst.2.1.keeps ks (by omega), hst.2.2.step ks (fun i hi e => by omega), HH.out.wd.kept ks (by omega) (by omega)⟩
  clear q60 q61 q6f0 q6f1 hY HH HS
  have hSa : Y.drew.cell? ⟨x0.heap.size, 0, none⟩ = some (.int .u64 18) ∧ Y.drew.cell? ⟨x0.heap.size, 1, none⟩ = some (.int .u64 20) := ⟨HY.out.1.c0, HY.out.1.c1⟩
  have p0 : Y.cell? ⟨w.heap.size, 0, none⟩ = some (.int .u64 0) := HY.out.2.1.c0
  have p1 : Y.cell? ⟨w.heap.size, 1, none⟩ = some (.int .u64 0) := HY.out.2.1.c1
  have pf0 : Y.frozen? ⟨w.heap.size, 0, none⟩ = false := HY.out.2.1.fr 0
  have pf1 : Y.frozen? ⟨w.heap.size, 1, none⟩ = false := HY.out.2.1.fr 1
  have HZ : Hid (ArAt ((Y.drew.setCell ⟨w.heap.size, 0, none⟩ (.int .u64 18)).setCell ⟨w.heap.size, 1, none⟩ (.int .u64 20)) x0.heap.size 18 20 ∧ ArAt ((Y.drew.setCell ⟨w.heap.size, 0, none⟩ (.int .u64 18)).setCell ⟨w.heap.size, 1, none⟩ (.int .u64 20)) w.heap.size 18 20 ∧ Keeps (fun _ => False) w ((Y.drew.setCell ⟨w.heap.size, 0, none⟩ (.int .u64 18)).setCell ⟨w.heap.size, 1, none⟩ (.int .u64 20)) ∧ WdAt ((Y.drew.setCell ⟨w.heap.size, 0, none⟩ (.int .u64 18)).setCell ⟨w.heap.size, 1, none⟩ (.int .u64 20)) b g c (B3 m)) := by
    have hy := HY.out
    have hp := HP.out
    have hw0 := lt_of_block hp.2.1
    have ks : Keeps (fun i => i = w.heap.size) Y ((Y.drew.setCell ⟨w.heap.size, 0, none⟩ (.int .u64 18)).setCell ⟨w.heap.size, 1, none⟩ (.int .u64 20)) := (((Keeps.refl (fun i => i = w.heap.size) Y).drew).trans (keeps_set Y.drew _ 0 _)).trans (keeps_set _ _ 1 _)
    have hd : ArAt Y.drew w.heap.size 0 0 := hy.2.1
    exact hid ⟨hy.1.keeps ks (by omega), (hd.set0 18).set1 20, hy.2.2.1.step ks (fun i hi e => by omega), hy.2.2.2.kept ks (by omega) (by omega)⟩
  have hSb := And.intro HZ.out.1.c0 HZ.out.1.c1
  refine wp_held_end (S := fun W : World => W.cell? ⟨x0.heap.size, 0, none⟩ = some (.int .u64 18) ∧ W.cell? ⟨x0.heap.size, 1, none⟩ = some (.int .u64 20)) 15 rfl hmxp ?_
  simp only [Array.replicate_succ, Array.replicate_zero, List.push_toArray, List.nil_append, List.cons_append]
  refine held_take (i := 0) (v := (.pointer (some ⟨b, 0, none⟩))) 36 rfl rfl (by kernel_rfl) (by kernel_rfl) (by kernel_rfl) rfl (fun w' hw' => by obtain ⟨q0, q1⟩ := hw'; go_simp) hSa ?_
  simp only [Act.put, List.setIfInBounds_toArray, List.set_cons_zero, List.set_cons_succ]
  refine held_take (i := 1) (v := (.agg #[.int .u64 18, .int .u64 20])) 37 rfl rfl (by kernel_rfl) (by kernel_rfl) (by kernel_rfl) rfl (fun w' hw' => by obtain ⟨q0, q1⟩ := hw'; go_simp) hSa ?_
  simp only [Act.put, List.setIfInBounds_toArray, List.set_cons_zero, List.set_cons_succ]
  refine held_take (i := 2) (v := (.int .i64 0)) 38 rfl rfl (by kernel_rfl) (by kernel_rfl) (by kernel_rfl) rfl (fun w' hw' => by obtain ⟨q0, q1⟩ := hw'; go_simp) hSa ?_
  simp only [Act.put, List.setIfInBounds_toArray, List.set_cons_zero, List.set_cons_succ]
  refine held_take (i := 3) (v := (.bool true)) 39 rfl rfl (by kernel_rfl) (by kernel_rfl) (by kernel_rfl) rfl (fun w' hw' => by obtain ⟨q0, q1⟩ := hw'; go_simp) hSa ?_
  simp only [Act.put, List.setIfInBounds_toArray, List.set_cons_zero, List.set_cons_succ]
  refine held_take (i := 4) (v := (.bool true)) 40 rfl rfl (by kernel_rfl) (by kernel_rfl) (by kernel_rfl) rfl (fun w' hw' => by obtain ⟨q0, q1⟩ := hw'; go_simp) hSa ?_
  simp only [Act.put, List.setIfInBounds_toArray, List.set_cons_zero, List.set_cons_succ]
  refine held_take (i := 5) (v := (.int .i64 0)) 41 rfl rfl (by kernel_rfl) (by kernel_rfl) (by kernel_rfl) rfl (fun w' hw' => by obtain ⟨q0, q1⟩ := hw'; go_simp) hSa ?_
  simp only [Act.put, List.setIfInBounds_toArray, List.set_cons_zero, List.set_cons_succ]
  refine held_take (i := 6) (v := (.bool true)) 42 rfl rfl (by kernel_rfl) (by kernel_rfl) (by kernel_rfl) rfl (fun w' hw' => by obtain ⟨q0, q1⟩ := hw'; go_simp) hSa ?_
  simp only [Act.put, List.setIfInBounds_toArray, List.set_cons_zero, List.set_cons_succ]
  refine held_take (i := 7) (v := (.bool true)) 43 rfl rfl (by kernel_rfl) (by kernel_rfl) (by kernel_rfl) rfl (fun w' hw' => by obtain ⟨q0, q1⟩ := hw'; go_simp) hSa ?_
  simp only [Act.put, List.setIfInBounds_toArray, List.set_cons_zero, List.set_cons_succ]
  refine held_take (i := 8) (v := (.bool true)) 44 rfl rfl (by kernel_rfl) (by kernel_rfl) (by kernel_rfl) rfl (fun w' hw' => by obtain ⟨q0, q1⟩ := hw'; go_simp) hSa ?_
  simp only [Act.put, List.setIfInBounds_toArray, List.set_cons_zero, List.set_cons_succ]
  refine held_take (i := 9) (v := (.int .i64 0)) 45 rfl rfl (by kernel_rfl) (by kernel_rfl) (by kernel_rfl) rfl (fun w' hw' => by obtain ⟨q0, q1⟩ := hw'; go_simp) hSa ?_
  simp only [Act.put, List.setIfInBounds_toArray, List.set_cons_zero, List.set_cons_succ]
  refine held_take (i := 10) (v := (.bool true)) 46 rfl rfl (by kernel_rfl) (by kernel_rfl) (by kernel_rfl) rfl (fun w' hw' => by obtain ⟨q0, q1⟩ := hw'; go_simp) hSa ?_
  simp only [Act.put, List.setIfInBounds_toArray, List.set_cons_zero, List.set_cons_succ]
  refine held_take (i := 11) (v := (.bool true)) 47 rfl rfl (by kernel_rfl) (by kernel_rfl) (by kernel_rfl) rfl (fun w' hw' => by obtain ⟨q0, q1⟩ := hw'; go_simp) hSa ?_
  simp only [Act.put, List.setIfInBounds_toArray, List.set_cons_zero, List.set_cons_succ]
  refine held_take (i := 12) (v := (.pointer (some ⟨b, 0, none⟩))) 2 rfl rfl (by kernel_rfl) (by kernel_rfl) (by kernel_rfl) rfl (fun w' hw' => by obtain ⟨q0, q1⟩ := hw'; go_simp) hSa ?_
  simp only [Act.put, List.setIfInBounds_toArray, List.set_cons_zero, List.set_cons_succ]
  refine held_none (i := 13) (w' := ((Y.drew.setCell ⟨w.heap.size, 0, none⟩ (.int .u64 18)).setCell ⟨w.heap.size, 1, none⟩ (.int .u64 20))) (by kernel_rfl) rfl rfl rfl (by go_simp) hSb ?_
  simp only [List.setIfInBounds_toArray, List.set_cons_zero, List.set_cons_succ]
  refine held_take (i := 14) (v := (.bool true)) 4 rfl rfl (by kernel_rfl) (by kernel_rfl) (by kernel_rfl) rfl (fun w' hw' => by obtain ⟨q0, q1⟩ := hw'; go_simp) hSb ?_
  simp only [Act.put, List.setIfInBounds_toArray, List.set_cons_zero, List.set_cons_succ]
  refine held_end (by kernel_rfl) ?_ _
  go_wp2_with fail
  refine bodyPost_ret (ar_ret rfl _ _ w.heap.size 18 20 HZ.out.2.1 rfl) rfl ?_
  have hp := HP.out
  exact ⟨b, g, c, rfl, HZ.out.2.2.2, HZ.out.2.2.1, by omega, by omega⟩
end Go.Proofs.Ytalopkllldnipaa
