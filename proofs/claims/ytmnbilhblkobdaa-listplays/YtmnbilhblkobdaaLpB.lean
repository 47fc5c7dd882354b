
/- The walks of list's small functions and of follow (layer 21). No statement of the seat is proved here. -/
import Derived.Test.YtmnbilhblkobdaaLpA
import Derived.Test.YtmnbilhblkobdaaLiC
import Derived.Test.YtmnbilhblkobdaaLiW
import Derived.Test.YtmnbilhblkobdaaArM
namespace Go.Proofs.Ytmnbilhblkobdaa
open Go.RowKit

theorem keeps_new (w : World) (o : Obj) : Keeps (fun _ => False) w (w.alloc o) := (Keeps.refl _ w).alloc o
set_option maxHeartbeats 400000 in
theorem leads_any (a : Int) (w : World) : Calls Try.prog 55 #[.int .u64 a] w fun e w' => e = .returned (.int .u64 (ld a)) ∧ w' = w := by
  go_enter Try.func55, Try.ntmps55
  go_wp2
  go_ret
  exact ⟨rfl, rfl⟩
set_option maxHeartbeats 400000 in
theorem node_any (t : Sp) (w : World) : Calls Try.prog 45 #[t.v] w fun e w' => e = .returned (.int .u64 t.nd) ∧ ∃ o, w' = w.alloc o := by
  obtain ⟨l, n, k⟩ := t
  unfold Sp.v
  go_enter Try.func45, Try.ntmps45
  go_wp2
  go_ret
  exact ⟨rfl, _, rfl⟩
set_option maxHeartbeats 400000 in
theorem there_any (t : Sp) (w : World) : Calls Try.prog 48 #[t.v] w fun e w' => e = .returned (.bool t.there) ∧ ∃ o, w' = w.alloc o := by
  obtain ⟨l, n, k⟩ := t
  unfold Sp.v Sp.there
  go_enter Try.func48, Try.ntmps48
  go_wp2
  go_ret
  exact ⟨rfl, _, rfl⟩
set_option maxHeartbeats 400000 in
theorem has_any (t : Sp) (key : Int) (w : World) : Calls Try.prog 38 #[t.v, .int .u64 key] w fun e w' => e = .returned (.bool (t.has key)) ∧ Keeps (fun _ => False) w w' := by
  have HT := fun X => hid (there_any t X)
  obtain ⟨l, n, k⟩ := t
  unfold Sp.v Sp.has at *
  unfold Sp.there at HT
  by_cases hn : n = 0
  · subst hn
    go_enter Try.func38, Try.ntmps38
    go_wp2_with fail
    refine (HT _).out.mono ?_
    rintro e_ w_ ⟨rfl, o, rfl⟩
    go_wp2_with fail
    go_ret
    exact ⟨by simp, ((Keeps.refl _ w).alloc _).alloc _⟩
  · have hn' : (n != 0) = true := by simpa using hn
    rw [hn'] at HT
    go_enter Try.func38, Try.ntmps38
    go_wp2_with fail
    refine (HT _).out.mono ?_
    rintro e_ w_ ⟨rfl, o, rfl⟩
    go_wp2_with fail
    go_ret
    exact ⟨by simp [hn'], ((Keeps.refl _ w).alloc _).alloc _⟩
/-- A spot as it lies. -/
def SpAt (w : World) (q : Nat) (t : Sp) : Prop := w.heap[q]? = some (.cells #[.int .u64 t.l, .int .u64 t.n, .int .u64 t.k] 75 (0, 0))
theorem SpAt.keeps {S : Nat → Prop} {w w' : World} {q : Nat} {t : Sp} (h : SpAt w q t) (k : Keeps S w w') (hq : ¬ S q) : SpAt w' q t := (k.block q (lt_of_block h) hq).trans h
theorem SpAt.lt {w : World} {q : Nat} {t : Sp} (h : SpAt w q t) : q < w.heap.size := lt_of_block h
theorem SpAt.c0 {w : World} {q : Nat} {t : Sp} (h : SpAt w q t) : w.cell? ⟨q, 0, none⟩ = some (.int .u64 t.l) := by rw [cell_of_block h]; rfl
theorem SpAt.c1 {w : World} {q : Nat} {t : Sp} (h : SpAt w q t) : w.cell? ⟨q, 1, none⟩ = some (.int .u64 t.n) := by rw [cell_of_block h]; rfl
theorem SpAt.c2 {w : World} {q : Nat} {t : Sp} (h : SpAt w q t) : w.cell? ⟨q, 2, none⟩ = some (.int .u64 t.k) := by rw [cell_of_block h]; rfl
theorem SpAt.fr {w : World} {q : Nat} {t : Sp} (h : SpAt w q t) (i : Nat) : w.frozen? ⟨q, i, none⟩ = false := frozen_of_block h i
theorem SpAt.set3 {w : World} {q : Nat} {t : Sp} (h : SpAt w q t) (a b c : Int) : SpAt (((w.setCell ⟨q, 0, none⟩ (.int .u64 a)).setCell ⟨q, 1, none⟩ (.int .u64 b)).setCell ⟨q, 2, none⟩ (.int .u64 c)) q ⟨a, b, c⟩ := by
  unfold SpAt at *
  rw [block_set (block_set (block_set h _ _) _ _) _ _]
  rfl
theorem SpAt.setK {w : World} {q : Nat} {t : Sp} (h : SpAt w q t) (c : Int) : SpAt (w.setCell ⟨q, 2, none⟩ (.int .u64 c)) q ⟨t.l, t.n, c⟩ := by
  unfold SpAt at *
  rw [block_set h _ _]
  rfl
theorem spAt_new (w : World) (t : Sp) : SpAt (w.alloc (.cells #[.int .u64 t.l, .int .u64 t.n, .int .u64 t.k] 75)) w.heap.size t := alloc_block w _
theorem wp_held_end {P : Program} {ops : Array Oper} {Q : Exit → Act → World → Prop} {id : Nat} {a : Act} {w : World} {S : World → Prop} (N : Nat) (hN : ops.size = N) (hm : P.follows .mixedOrders = true)
    (h : wpAnyH P .any ops (atEnd (Q .normal)) S N (Array.replicate N false) a w.drew) : (Code.region id ops true).wp P Q a w := by
  subst hN
  exact Code.wp_mono (fun e a w h => by cases e <;> first | exact h | exact h.elim) (wp_region_held hm h)
theorem hmxp : Try.prog.follows .mixedOrders = true := by kernel_rfl
theorem size_sp : (Try.prog.info? 75).map (·.size) = some 3 := by kernel_rfl
theorem results_ct {fn : Func} {p u : Tmp} {ty : TypeId} (h : fn.results = #[.cell p ty, .tmp u]) (tmps : Array Value) (P : Program) (w : World) :
    (results fn tmps).run P w = ((asAddr (tmps.getD p undef)).run P w).andThen fun a w₁ => ((loadVar ty a).run P w₁).andThen fun x w₂ => .ok (.tuple #[x, tmps.getD u undef]) w₂ := by
  simp only [results, h]
  simp [Sem.run_bind, Result.andThen]
theorem sp_ret {fn : Func} {p u : Tmp} (h : fn.results = #[.cell p 75, .tmp u]) (tmps : Array Value) (w : World) (q : Nat) (t : Sp) (hb : SpAt w q t)
    (hp : tmps.getD p undef = .pointer (some ⟨q, 0, none⟩)) : (results fn tmps).run Try.prog w = .ok (.tuple #[t.v, tmps.getD u undef]) w := by
  rw [results_ct h, hp]
  simp [asAddr, run_loadVar_row w q 75 75 _ (0, 0) _ hb Try.underlying75 rfl (by rw [size_sp]; rfl), Result.andThen]
  rfl
theorem Keeps.up {a b c : World} {S T : Nat → Prop} (h : Keeps S a b) (k : Keeps T b c) (hst : ∀ i, i < a.heap.size → T i → S i) : Keeps S a c := h.step k hst
theorem keeps_set3 (w : World) (q : Nat) (a b c : Int) : Keeps (fun k => k = q) w (((w.setCell ⟨q, 0, none⟩ (.int .u64 a)).setCell ⟨q, 1, none⟩ (.int .u64 b)).setCell ⟨q, 2, none⟩ (.int .u64 c)) :=
  (((Keeps.refl (fun k => k = q) w).setCell (p := ⟨q, 0, none⟩) (.inr rfl) _).setCell (p := ⟨q, 1, none⟩) (.inr rfl) _).setCell (p := ⟨q, 2, none⟩) (.inr rfl) _
theorem keeps_setK (w : World) (q i : Nat) (c : Int) : Keeps (fun k => k = q) w (w.setCell ⟨q, i, none⟩ (.int .u64 c)) := (Keeps.refl (fun k => k = q) w).setCell (p := ⟨q, i, none⟩) (.inr rfl) _
end Go.Proofs.Ytmnbilhblkobdaa
