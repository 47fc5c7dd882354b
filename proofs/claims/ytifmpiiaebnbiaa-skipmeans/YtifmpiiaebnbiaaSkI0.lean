
/- The last links of all levels as they lie; a scope with jumps back; what stands in a search (layer 22). No statement of the seat is proved here. -/
import Derived.Test.YtifmpiiaebnbiaaSkH
import Derived.Laws.Tables
import Derived.Laws.Rows
namespace Go.Proofs.Ytifmpiiaebnbiaa
open Go.RowKit

theorem wp_scope_jumps2 {P : Program} {a : Act} {w : World} {Q : Exit → Act → World → Prop} {c R : Code} (l : Nat) (J : Act → World → Prop) (μ : Act → World → Nat) (hf : findLabel c l = some (Code.skip.seq R))
    (pass : ∀ a w, J a w → R.wp P (Exit.jump l (fun a' w' => J a' w' ∧ μ a' w' < μ a w) Q) a w)
    (first : (∀ a w, J a w → R.wp P (Exit.jump l J Q) a w) → c.wp P (Exit.jump l J Q) a w) : (Code.scope c).wp P Q a w :=
  wp_scope_jumps l J μ hf (first fun a w h => Code.wp_mono (fun e a' w' q => by
    cases e <;> first | exact q | exact ⟨q.1, q.2.1⟩) (pass a w h)) (fun a w h => wp_seq (wp_skip (pass a w h)))
/-- Links as cells. -/
def lcs (la : List Lk) : Array Value := (la.flatMap fun l => [Value.int .u64 l.c, .int .u64 l.t, .int .u64 l.k]).toArray
def lasO (la : List Lk) : Obj := .cells (lcs la) 90 (0, 0)
def lasV (la : List Lk) : Value := .agg (lcs la)
theorem eight {la : List Lk} (h : la.length = 8) : ∃ l0 l1 l2 l3 l4 l5 l6 l7, la = [l0, l1, l2, l3, l4, l5, l6, l7] := by
  match la, h with
  | [l0, l1, l2, l3, l4, l5, l6, l7], _ => exact ⟨l0, l1, l2, l3, l4, l5, l6, l7, rfl⟩
theorem lcs_size (la : List Lk) : (lcs la).size = la.length * 3 := by
  unfold lcs
  induction la with
  | nil => rfl
  | cons l la ih => simp at ih ⊢; omega
theorem lcs_get {la : List Lk} (h : la.length = 8) {i : Nat} (hi : i < 8) : (lcs la)[i * 3]? = some (.int .u64 (lk la i).c) ∧ (lcs la)[i * 3 + 1]? = some (.int .u64 (lk la i).t) ∧ (lcs la)[i * 3 + 2]? = some (.int .u64 (lk la i).k) := by
  obtain ⟨l0, l1, l2, l3, l4, l5, l6, l7, rfl⟩ := eight h
  match i, hi with
  | 0, _ => exact ⟨rfl, rfl, rfl⟩
  | 1, _ => exact ⟨rfl, rfl, rfl⟩
  | 2, _ => exact ⟨rfl, rfl, rfl⟩
  | 3, _ => exact ⟨rfl, rfl, rfl⟩
  | 4, _ => exact ⟨rfl, rfl, rfl⟩
  | 5, _ => exact ⟨rfl, rfl, rfl⟩
  | 6, _ => exact ⟨rfl, rfl, rfl⟩
  | 7, _ => exact ⟨rfl, rfl, rfl⟩
theorem lcs_set {la : List Lk} (h : la.length = 8) {i : Nat} (hi : i < 8) (l : Lk) : (((lcs la).setIfInBounds (i * 3) (.int .u64 l.c)).setIfInBounds (i * 3 + 1) (.int .u64 l.t)).setIfInBounds (i * 3 + 2) (.int .u64 l.k) = lcs (la.set i l) := by
  obtain ⟨l0, l1, l2, l3, l4, l5, l6, l7, rfl⟩ := eight h
  match i, hi with
  | 0, _ => rfl
  | 1, _ => rfl
  | 2, _ => rfl
  | 3, _ => rfl
  | 4, _ => rfl
  | 5, _ => rfl
  | 6, _ => rfl
  | 7, _ => rfl
theorem lcs_one (la : List Lk) : (lcs la).all (·.oneCell') = true := by
  refine Array.all_eq_true_iff_forall_mem.2 fun v hv => ?_
  unfold lcs at hv
  simp at hv
  obtain ⟨l, _, rfl | rfl | rfl⟩ := hv <;> rfl
theorem lk_set_same {la : List Lk} (h : la.length = 8) {i : Nat} (hi : i < 8) (l : Lk) : lk (la.set i l) i = l := by
  unfold lk
  simp [h, hi]
theorem size_las : (Try.prog.info? 90).map (·.size) = some 24 := by kernel_rfl
section
variable {w X X' : World} {b g c q pw n : Nat} {s s' : Wd} {la : List Lk}
theorem las_c0 (h : w.heap[q]? = some (lasO la)) (h8 : la.length = 8) {i : Nat} (hi : i < 8) : w.cell? ⟨q, i * 3, none⟩ = some (.int .u64 (lk la i).c) := by rw [cell_of_block h]; exact (lcs_get h8 hi).1
theorem las_c1 (h : w.heap[q]? = some (lasO la)) (h8 : la.length = 8) {i : Nat} (hi : i < 8) : w.cell? ⟨q, i * 3 + 1, none⟩ = some (.int .u64 (lk la i).t) := by rw [cell_of_block h]; exact (lcs_get h8 hi).2.1
theorem las_c2 (h : w.heap[q]? = some (lasO la)) (h8 : la.length = 8) {i : Nat} (hi : i < 8) : w.cell? ⟨q, i * 3 + 2, none⟩ = some (.int .u64 (lk la i).k) := by rw [cell_of_block h]; exact (lcs_get h8 hi).2.2
theorem las_fr (h : w.heap[q]? = some (lasO la)) (i : Nat) : w.frozen? ⟨q, i, none⟩ = false := frozen_of_block h i
theorem Lo.las (h : Lo w b g q (lasO la)) (h8 : la.length = 8) {i : Nat} (hi : i < 8) (l : Lk) : Lo (((w.setCell ⟨q, i * 3, none⟩ (.int .u64 l.c)).setCell ⟨q, i * 3 + 1, none⟩ (.int .u64 l.t)).setCell ⟨q, i * 3 + 2, none⟩ (.int .u64 l.k)) b g q (lasO (la.set i l)) := by
  have q1 := ((h.set (i * 3) (.int .u64 l.c)).set (i * 3 + 1) (.int .u64 l.t)).set (i * 3 + 2) (.int .u64 l.k)
  rw [lcs_set h8 hi l] at q1
  exact q1
theorem setRow_keeps (w : World) (a : Nat) (cs : Array Value) : Keeps (fun q => q = a) w (w.setRow a cs) :=
  ⟨rfl, rfl, rfl, by simp [World.setRow], fun k _ hk => by simp [World.setRow, Array.getElem?_modify, show ¬ a = k from fun e => hk e.symm]⟩
theorem setRow_at {cs0 : Array Value} {t : TypeId} {fr : Nat × Nat} (h : w.heap[q]? = some (.cells cs0 t fr)) (cs : Array Value) : (w.setRow q cs).heap[q]? = some (.cells cs t fr) := by
  simp [World.setRow, Array.getElem?_modify, h]
theorem las_ret {fn : Func} {p u : Tmp} (h : fn.results = #[.cell p 90, .tmp u]) (tmps : Array Value) (w : World) (q : Nat) (la : List Lk) (h8 : la.length = 8) (hb : w.heap[q]? = some (lasO la))
    (hp : tmps.getD p undef = .pointer (some ⟨q, 0, none⟩)) : (results fn tmps).run Try.prog w = .ok (.tuple #[lasV la, tmps.getD u undef]) w := by
  rw [results_ct h, hp]
  simp [asAddr, run_loadVar_row w q 90 90 _ (0, 0) _ hb Try.underlying90 rfl (by rw [size_las, lcs_size, h8]), Result.andThen]
  rfl
/-- What stands in a search that began in the world w: the tx, its three blocks (what it answers, the last links, the walk), the word that is searched for. -/
structure Sx (w : World) (b g c kq : Nat) (key : Int) (X : World) (s : Wd) (la : List Lk) (n : Nat) : Prop where
  hs : Hs 27 w b g c X s
  l6 : Lo X b g w.heap.size (lasO zeros)
  l8 : Lo X b g (w.heap.size + 1) (lasO la)
  lw : Lo X b g (w.heap.size + 2) (wkO b n)
  lk : Lo X b g kq (.cells #[.int .u64 key] 32 (0, 0))
  kl : kq < w.heap.size
  n8 : la.length = 8
variable {kq : Nat} {key : Int}
theorem Sx.fol (h : Sx w b g c kq key X s la n) {n' : Nat} (k : Fw X b g c (w.heap.size + 2) X' s' n') : Sx w b g c kq key X' s' la n' := by
  have hkl := h.kl
  exact ⟨h.hs.acc k.k k.wd (fun i e => by omega), h.l6.kq k.k (by omega), h.l8.kq k.k (by omega), k.pw, h.lk.kq k.k (by omega), h.kl, h.n8⟩
theorem Sx.new (h : Sx w b g c kq key X s la n) (k : Keeps (fun _ => False) X X') : Sx w b g c kq key X' s la n := by
  have hb := h.hs.wd.ltb
  exact ⟨h.hs.new k, h.l6.after hb k, h.l8.after hb k, h.lw.after hb k, h.lk.after hb k, h.kl, h.n8⟩
theorem Sx.last (h : Sx w b g c kq key X s la n) {i : Nat} (hi : i < 8) (l : Lk) : Sx w b g c kq key (((X.setCell ⟨w.heap.size + 1, i * 3, none⟩ (.int .u64 l.c)).setCell ⟨w.heap.size + 1, i * 3 + 1, none⟩ (.int .u64 l.t)).setCell ⟨w.heap.size + 1, i * 3 + 2, none⟩ (.int .u64 l.k)) s (la.set i l) n := by
  have hkl := h.kl
  have l1 := h.l8.set (i * 3) (.int .u64 l.c)
  have l2 := l1.set (i * 3 + 1) (.int .u64 l.t)
  have oth : ∀ {q : Nat} {o : Obj}, Lo X b g q o → q ≠ w.heap.size + 1 → Lo (((X.setCell ⟨w.heap.size + 1, i * 3, none⟩ (.int .u64 l.c)).setCell ⟨w.heap.size + 1, i * 3 + 1, none⟩ (.int .u64 l.t)).setCell ⟨w.heap.size + 1, i * 3 + 2, none⟩ (.int .u64 l.k)) b g q o := fun hq hne => ((hq.setOther _ h.l8 hne).setOther _ l1 hne).setOther _ l2 hne
  exact ⟨((h.hs.set h.l8 (by omega) _ _).set l1 (by omega) _ _).set l2 (by omega) _ _, oth h.l6 (by omega), h.l8.las h.n8 hi l, oth h.lw (by omega), oth h.lk (by omega), h.kl, by simpa using h.n8⟩
/-- The answer is laid: into the first block. -/
theorem Sx.out (h : Sx w b g c kq key X s la n) (cs : Array Value) : Hs 27 w b g c (X.setRow w.heap.size cs) s :=
  h.hs.step (setRow_keeps X w.heap.size cs) (fun i e => by subst e; exact ⟨Nat.le_refl _, h.l6.no⟩)
end
/-- How many words may still be got. -/
def measN (w : World) (q : Nat) : Nat := match w.heap[q]? with
  | some (.cells cs _ _) => (match cs[1]? with
    | some (Value.int _ n) => (65536 - n).toNat
    | _ => 0)
  | _ => 0
theorem measN_of {w : World} {q b n : Nat} (h : w.heap[q]? = some (wkO b n)) : measN w q = (65536 - (n : Int)).toNat := by
  unfold measN
  rw [h]
  rfl
/-- A function that has a body is entered. -/
noncomputable def entB (f : Nat) : Bool := match Try.prog.funcs[f]? with
  | some fn => !(fn.name == "runtime.NumGoroutine") && fn.body.isSome
  | none => false
theorem enters {f : Nat} (h : entB f = true) (args : Array Value) (w : World) : (callFunc f args).run Try.prog w = .ok (.enter f args) w := by
  unfold entB at h
  cases hf : Try.prog.funcs[f]? with
  | none => rw [hf] at h; simp at h
  | some fn =>
    rw [hf] at h
    simp only [Bool.and_eq_true, Bool.not_eq_true'] at h
    obtain ⟨h1, h2⟩ := h
    have h3 : ¬ fn.body = none := fun e => by rw [e] at h2; simp at h2
    have h4 : ¬ fn.name = "runtime.NumGoroutine" := by simpa using h1
    simp [callFunc, hf, h4, h3]
/-- A closure that tells whether a word is passed over. -/
structure Pas (fn kq : Nat) (key : Int) (p : Int → Bool) : Prop where
  ent : ∀ (args : Array Value) (X : World), (callFunc fn args).run Try.prog X = .ok (.enter fn args) X
  call : ∀ (k : Int) (X : World), KeyAt X kq key → Calls Try.prog fn #[.int .u64 k, .pointer (some ⟨kq, 0, none⟩)] X fun e w' => e = .returned (.bool (p k)) ∧ w' = X
theorem pas_lt (kq : Nat) (key : Int) : Pas 65 kq key (pLt key) := ⟨enters (by kernel_rfl), fun k X h => below1_any k kq key X h⟩
theorem pas_le (kq : Nat) (key : Int) : Pas 66 kq key (pLe key) := ⟨enters (by kernel_rfl), fun k X h => upTo1_any k kq key X h⟩
theorem sr_err {p : Int → Bool} {f : Nat} {la : List Lk} {base : Int} {lv n n' : Nat} {s s' : Wd} {l : Lk} {e : Int} (h : s.fol n (uw (base + lv)) = ((l, e), n', s')) (he : e ≠ 0) : sr p (f + 1) la base lv n s = ((zeros, e), s') := by
  unfold sr; rw [h]; dsimp only; rw [if_pos he]
theorem sr_pass {p : Int → Bool} {f : Nat} {la : List Lk} {base : Int} {lv n n' : Nat} {s s' : Wd} {l : Lk} (h : s.fol n (uw (base + lv)) = ((l, 0), n', s')) (hp : l.t ≠ 0 ∧ p l.k = true) : sr p (f + 1) la base lv n s = sr p f (la.set lv l) (uw (l.nd + 2)) lv n' s' := by
  conv => lhs; unfold sr
  rw [h]; dsimp only; rw [if_neg (by simp), if_pos hp]
theorem sr_down {p : Int → Bool} {f : Nat} {la : List Lk} {base : Int} {lv n n' : Nat} {s s' : Wd} {l : Lk} (h : s.fol n (uw (base + ((lv + 1 : Nat) : Int))) = ((l, 0), n', s')) (hp : ¬ (l.t ≠ 0 ∧ p l.k = true)) : sr p (f + 1) la base (lv + 1) n s = sr p f (la.set (lv + 1) l) base lv n' s' := by
  conv => lhs; unfold sr
  rw [h]; dsimp only; rw [if_neg (by simp), if_neg hp]
theorem sr_end {p : Int → Bool} {f : Nat} {la : List Lk} {base : Int} {n n' : Nat} {s s' : Wd} {l : Lk} (h : s.fol n (uw (base + ((0 : Nat) : Int))) = ((l, 0), n', s')) (hp : ¬ (l.t ≠ 0 ∧ p l.k = true)) : sr p (f + 1) la base 0 n s = ((la.set 0 l, 0), s') := by
  conv => lhs; unfold sr
  rw [h]; dsimp only; rw [if_neg (by simp), if_neg hp]
end Go.Proofs.Ytifmpiiaebnbiaa
