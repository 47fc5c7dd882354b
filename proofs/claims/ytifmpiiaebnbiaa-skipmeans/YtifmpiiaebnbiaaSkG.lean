
/- The walks of skip's small functions; links and walks as they lie (layer 22). No statement of the seat is proved here. -/
import Derived.Test.YtifmpiiaebnbiaaSkP
import Derived.Test.YtifmpiiaebnbiaaSkD
namespace Go.Proofs.Ytifmpiiaebnbiaa
open Go.RowKit

set_option maxHeartbeats 400000 in
theorem leads_any (l : Lk) (w : World) : Calls Try.prog 59 #[l.v] w fun e w' => e = .returned (.bool l.leads) ∧ Keeps (fun _ => False) w w' := by
  obtain ⟨c, t, k⟩ := l
  unfold Lk.v Lk.leads
  go_enter Try.func59, Try.ntmps59
  go_wp2
  go_ret
  exact ⟨rfl, keeps_new w _⟩
set_option maxHeartbeats 400000 in
theorem node_any (l : Lk) (w : World) : Calls Try.prog 52 #[l.v] w fun e w' => e = .returned (.int .u64 l.nd) ∧ Keeps (fun _ => False) w w' := by
  obtain ⟨c, t, k⟩ := l
  unfold Lk.v Lk.nd
  go_enter Try.func52, Try.ntmps52
  go_wp2
  go_ret
  exact ⟨rfl, keeps_new w _⟩
set_option maxHeartbeats 400000 in
theorem cellsOf_any (n : Int) (w : World) : Calls Try.prog 47 #[.int .u64 n] w fun e w' => e = .returned (.int .u64 (uw (2 + n))) ∧ w' = w := by
  go_enter Try.func47, Try.ntmps47
  go_wp2
  go_ret
  exact ⟨rfl, rfl⟩
/-- A word's cell. -/
def KeyAt (w : World) (q : Nat) (key : Int) : Prop := w.heap[q]? = some (.cells #[.int .u64 key] 32 (0, 0))
theorem KeyAt.cell {w : World} {q : Nat} {key : Int} (h : KeyAt w q key) : w.cell? ⟨q, 0, none⟩ = some (.int .u64 key) := by rw [cell_of_block h]; rfl
set_option maxHeartbeats 400000 in
theorem below_any (x : Int) (w : World) : Calls Try.prog 45 #[.int .u64 x] w fun e w' => e = .returned (.func (.func 65) #[] #[.pointer (some ⟨w.heap.size, 0, none⟩)]) ∧ w' = w.alloc (.cells #[.int .u64 x] 32) := by
  go_enter Try.func45, Try.ntmps45
  go_wp2
  go_ret
  exact ⟨rfl, rfl⟩
set_option maxHeartbeats 400000 in
theorem upTo_any (x : Int) (w : World) : Calls Try.prog 60 #[.int .u64 x] w fun e w' => e = .returned (.func (.func 66) #[] #[.pointer (some ⟨w.heap.size, 0, none⟩)]) ∧ w' = w.alloc (.cells #[.int .u64 x] 32) := by
  go_enter Try.func60, Try.ntmps60
  go_wp2
  go_ret
  exact ⟨rfl, rfl⟩
set_option maxHeartbeats 400000 in
theorem below1_any (k : Int) (q : Nat) (x : Int) (w : World) (h : KeyAt w q x) : Calls Try.prog 65 #[.int .u64 k, .pointer (some ⟨q, 0, none⟩)] w fun e w' => e = .returned (.bool (pLt x k)) ∧ w' = w := by
  have hc := h.cell
  unfold pLt
  go_enter Try.func65, Try.ntmps65
  go_wp2
  go_ret
  exact ⟨rfl, rfl⟩
set_option maxHeartbeats 400000 in
theorem upTo1_any (k : Int) (q : Nat) (x : Int) (w : World) (h : KeyAt w q x) : Calls Try.prog 66 #[.int .u64 k, .pointer (some ⟨q, 0, none⟩)] w fun e w' => e = .returned (.bool (pLe x k)) ∧ w' = w := by
  have hc := h.cell
  unfold pLe
  go_enter Try.func66, Try.ntmps66
  go_wp2
  go_ret
  exact ⟨rfl, rfl⟩
/-- A link as it lies, a walk. -/
def lkO (t : Lk) : Obj := .cells #[.int .u64 t.c, .int .u64 t.t, .int .u64 t.k] 88 (0, 0)
def wkO (b n : Nat) : Obj := .cells #[.iface 23 (.pointer (some ⟨b, 0, none⟩)), .int .i64 (n : Int)] 104 (0, 0)
section
variable {w : World} {b g q n : Nat} {t : Lk}
theorem lk_c0 (h : w.heap[q]? = some (lkO t)) : w.cell? ⟨q, 0, none⟩ = some (.int .u64 t.c) := by rw [cell_of_block h]; rfl
theorem lk_c1 (h : w.heap[q]? = some (lkO t)) : w.cell? ⟨q, 1, none⟩ = some (.int .u64 t.t) := by rw [cell_of_block h]; rfl
theorem lk_c2 (h : w.heap[q]? = some (lkO t)) : w.cell? ⟨q, 2, none⟩ = some (.int .u64 t.k) := by rw [cell_of_block h]; rfl
theorem lk_fr (h : w.heap[q]? = some (lkO t)) (i : Nat) : w.frozen? ⟨q, i, none⟩ = false := frozen_of_block h i
theorem wk_c0 (h : w.heap[q]? = some (wkO b n)) : w.cell? ⟨q, 0, none⟩ = some (.iface 23 (.pointer (some ⟨b, 0, none⟩))) := by rw [cell_of_block h]; rfl
theorem wk_c1 (h : w.heap[q]? = some (wkO b n)) : w.cell? ⟨q, 1, none⟩ = some (.int .i64 (n : Int)) := by rw [cell_of_block h]; rfl
theorem wk_fr (h : w.heap[q]? = some (wkO b n)) (i : Nat) : w.frozen? ⟨q, i, none⟩ = false := frozen_of_block h i
theorem Lo.lk3 (h : Lo w b g q (lkO t)) (x y z : Int) : Lo (((w.setCell ⟨q, 0, none⟩ (.int .u64 x)).setCell ⟨q, 1, none⟩ (.int .u64 y)).setCell ⟨q, 2, none⟩ (.int .u64 z)) b g q (lkO ⟨x, y, z⟩) :=
  ((h.set 0 (.int .u64 x)).set 1 (.int .u64 y)).set 2 (.int .u64 z)
theorem Lo.lkK (h : Lo w b g q (lkO t)) (z : Int) : Lo (w.setCell ⟨q, 2, none⟩ (.int .u64 z)) b g q (lkO ⟨t.c, t.t, z⟩) := h.set 2 (.int .u64 z)
theorem Lo.wkN (h : Lo w b g q (wkO b n)) (m : Nat) : Lo (w.setCell ⟨q, 1, none⟩ (.int .i64 (m : Int))) b g q (wkO b m) := h.set 1 (.int .i64 (m : Int))
end
theorem size_lk : (Try.prog.info? 88).map (·.size) = some 3 := by kernel_rfl
theorem results_ct {fn : Func} {p u : Tmp} {ty : TypeId} (h : fn.results = #[.cell p ty, .tmp u]) (tmps : Array Value) (P : Program) (w : World) :
    (results fn tmps).run P w = ((asAddr (tmps.getD p undef)).run P w).andThen fun a w₁ => ((loadVar ty a).run P w₁).andThen fun x w₂ => .ok (.tuple #[x, tmps.getD u undef]) w₂ := by
  simp only [results, h]
  simp [Sem.run_bind, Result.andThen]
theorem lk_ret {fn : Func} {p u : Tmp} (h : fn.results = #[.cell p 88, .tmp u]) (tmps : Array Value) (w : World) (q : Nat) (t : Lk) (hb : w.heap[q]? = some (lkO t))
    (hp : tmps.getD p undef = .pointer (some ⟨q, 0, none⟩)) : (results fn tmps).run Try.prog w = .ok (.tuple #[t.v, tmps.getD u undef]) w := by
  rw [results_ct h, hp]
  simp [asAddr, run_loadVar_row w q 88 88 _ (0, 0) _ hb Try.underlying88 rfl (by rw [size_lk]; rfl), Result.andThen]
  rfl
/-- What stands in a walk of follow: the tx, the walk's block pw, from the world w on. -/
structure Fw (w : World) (b g c pw : Nat) (X : World) (s : Wd) (n : Nat) : Prop where
  wd : WdAt 27 X b g c s
  k : Kq (fun i => i = pw) b g w X
  pw : Lo X b g pw (wkO b n)
section
variable {w X X' : World} {b g c pw q n : Nat} {s s' : Wd} {o : Obj}
theorem Fw.start (h : WdAt 27 w b g c s) (hp : Lo w b g pw (wkO b n)) : Fw w b g c pw w s n := ⟨h, Kq.refl _ _ _ _, hp⟩
theorem Fw.acc (h : Fw w b g c pw X s n) (k : Hs 27 X b g c X' s') : Fw w b g c pw X' s' n := ⟨k.wd, h.k.step k.k (fun _ _ f => f.elim), h.pw.hs k⟩
theorem Fw.new (h : Fw w b g c pw X s n) (k : Keeps (fun _ => False) X X') : Fw w b g c pw X' s n := h.acc ((Hs.start h.wd).new k)
theorem Fw.set (h : Fw w b g c pw X s n) (hq : Lo X b g q o) (hw : w.heap.size ≤ q) (hp : pw ≠ q) (i : Nat) (v : Value) : Fw w b g c pw (X.setCell ⟨q, i, none⟩ v) s n := by
  have ks : Keeps (fun k => k = q) X (X.setCell ⟨q, i, none⟩ v) := (Keeps.refl (fun k => k = q) X).setCell (p := ⟨q, i, none⟩) (.inr rfl) v
  have hn : ∀ i, own X b g i → ¬ i = q := fun i hi e => hq.no (e ▸ hi)
  exact ⟨h.wd.kept ks hn, h.k.step (Kq.of h.wd.ltb ks hn) (fun i hi e => by omega), h.pw.setOther v hq hp⟩
theorem Fw.setN (h : Fw w b g c pw X s n) (m : Nat) {v : Int} (hv : v = (m : Int)) : Fw w b g c pw (X.setCell ⟨pw, 1, none⟩ (.int .i64 v)) s m := by
  subst hv
  have ks : Keeps (fun k => k = pw) X (X.setCell ⟨pw, 1, none⟩ (.int .i64 (m : Int))) := (Keeps.refl (fun k => k = pw) X).setCell (p := ⟨pw, 1, none⟩) (.inr rfl) _
  have hn : ∀ i, own X b g i → ¬ i = pw := fun i hi e => h.pw.no (e ▸ hi)
  exact ⟨h.wd.kept ks hn, h.k.step (Kq.of h.wd.ltb ks hn) (fun i hi e => e), h.pw.wkN m⟩
theorem Fw.set3 (h : Fw w b g c pw X s n) {t : Lk} (hq : Lo X b g q (lkO t)) (hw : w.heap.size ≤ q) (hp : pw ≠ q) (x y z : Int) : Fw w b g c pw (((X.setCell ⟨q, 0, none⟩ (.int .u64 x)).setCell ⟨q, 1, none⟩ (.int .u64 y)).setCell ⟨q, 2, none⟩ (.int .u64 z)) s n :=
  ((h.set hq hw hp 0 _).set (hq.set 0 _) hw hp 1 _).set ((hq.set 0 _).set 1 _) hw hp 2 _
theorem Fw.like (h : Fw w b g c pw X s n) (e1 : X'.heap = X.heap) (e2 : X'.os = X.os) (e3 : X'.tape = X.tape) (e4 : X'.output = X.output) : Fw w b g c pw X' s n := ⟨h.wd.like e1, h.k.like e1 e2 e3 e4, h.pw.like e1⟩
end
end Go.Proofs.Ytifmpiiaebnbiaa
