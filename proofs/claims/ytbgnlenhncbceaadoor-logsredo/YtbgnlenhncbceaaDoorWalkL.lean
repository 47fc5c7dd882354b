
/-
  The walk of the law's own 'walk': it goes over a log's entries and holds them against a list. No statement of the seat is proved here.
-/
import Derived.Test.YtbgnlenhncbceaaDoorWalkA
namespace Go.Proofs.YtbgnlenhncbceaaDoor
open Go.RowKit Go.Shelf
attribute [local go_sem] Oper.semAt_some

theorem seq_not_nil (x : Addr) (w : World) : (binOp .eql 47 (.func (.func 58) #[] #[.pointer (some x)]) .nilFunc).run Tryd.prog w = .ok (.bool false) w := by kernel_rfl

/-- What a round of the law's walk stands on: the list, where to leave, the answer, how many there were. -/
structure LwAt (w X : World) (B : Nat) (vl : Value) (m k : Int) (res : Bool) : Prop where
  l : X.heap[B]? = some (.cells #[vl] 29 (0, 0))
  n : X.heap[B + 1]? = some (.cells #[.int .i64 m] 3 (0, 0))
  res : X.heap[B + 1 + 1]? = some (.cells #[.bool res] 4 (0, 0))
  k : X.heap[B + 1 + 1 + 1]? = some (.cells #[.int .i64 k] 3 (0, 0))
  kp : Keeps (fun _ => False) w X
theorem LwAt.grown {w A B' : World} {B : Nat} {vl : Value} {m k : Int} {res : Bool} (h : LwAt w A B vl m k res) {row : Option Nat} (hg : A.grownBy B' row) (hr : ∀ r, row = some r → w.heap.size ≤ r ∧ ∃ o : Obj, A.heap[r]? = some o ∧ o.isCells = false) : LwAt w B' B vl m k res :=
  ⟨block_kept h.l hg (fun r e => (hr r e).2), block_kept h.n hg (fun r e => (hr r e).2), block_kept h.res hg (fun r e => (hr r e).2), block_kept h.k hg (fun r e => (hr r e).2), h.kp.step (keeps_grown hg) (fun q hq e => by have := (hr q e).1; omega)⟩

theorem LwAt.like {w A X : World} {B : Nat} {vl : Value} {m k : Int} {res : Bool} (h : LwAt w A B vl m k res) (l : Like X A) : LwAt w X B vl m k res :=
  ⟨by rw [l.heap]; exact h.l, by rw [l.heap]; exact h.n, by rw [l.heap]; exact h.res, by rw [l.heap]; exact h.k, l.keeps h.kp⟩
theorem LwAt.setK {w X : World} {B : Nat} {vl : Value} {m k : Int} {res : Bool} (h : LwAt w X B vl m k res) (hB : w.heap.size ≤ B) (k' : Int) : LwAt w (X.setCell ⟨B + 1 + 1 + 1, 0, none⟩ (.int .i64 k')) B vl m k' res :=
  ⟨block_other h.l (by omega) _ _, block_other h.n (by omega) _ _, block_other h.res (by omega) _ _, block_set h.k 0 _, h.kp.setCell (p := ⟨B + 1 + 1 + 1, 0, none⟩) (.inl (by show w.heap.size ≤ B + 1 + 1 + 1; omega)) _⟩
theorem LwAt.setR {w X : World} {B : Nat} {vl : Value} {m k : Int} {res : Bool} (h : LwAt w X B vl m k res) (hB : w.heap.size ≤ B) (r : Bool) : LwAt w (X.setCell ⟨B + 1 + 1, 0, none⟩ (.bool r)) B vl m k r :=
  ⟨block_other h.l (by omega) _ _, block_other h.n (by omega) _ _, block_set h.res 0 _, block_other h.k (by omega) _ _, h.kp.setCell (p := ⟨B + 1 + 1, 0, none⟩) (.inl (by show w.heap.size ≤ B + 1 + 1; omega)) _⟩

set_option maxRecDepth 100000 in
set_option maxHeartbeats 4000000 in
theorem lwalk (bx f : Nat) (p : Option Addr) (es : List (Int × Int)) (hes : es.length ≤ 4398046511104) (vl : Value) (m : Int) (T : Nat → Nat → Prop) (fr : Nat × Nat) (w : World)
    (hf : ∀ args w, (callFunc f args).run Tryd.prog w = .ok (.enter f args) w)
    (hbx : w.heap[bx]? = some (.cells #[.func (.func f) #[.pointer p] #[]] 69 fr)) (hl : Pairs w vl es)
    (hT : ∀ M k, w.heap.size ≤ M → T M k → k < w.heap.size ∨ M ≤ k)
    (hh : ∀ W, Keeps (fun _ => False) w W → Calls Tryd.prog f #[.pointer p] W fun e w' => ∃ a c, e = .returned (.slice a es.length c) ∧ ListAt (T W.heap.size) w' a es ∧ Keeps (fun _ => False) W w') :
    Calls Tryd.prog 14 #[.func (.func 58) #[] #[.pointer (some ⟨bx, 0, none⟩)], vl, .int .i64 m] w fun e w' => e = .returned (.bool true) ∧ Keeps (fun _ => False) w w' := by
  obtain ⟨al, cl, rfl, _⟩ := id hl
  have hnn := seq_not_nil ⟨bx, 0, none⟩
  have hmx : Tryd.prog.follows .mixedOrders = true := by kernel_rfl
  refine (callsIn_wide (n := 5)).1 ?_
  refine callsIn_of_wp_marks Tryd.func14 rfl trivial ?_ rfl
  simp only [Tryd.ntmps14, List.size_toArray, List.length_cons, List.length_nil, Nat.reduceAdd, Nat.reduceSub, Array.replicate_succ, Array.replicate_zero, List.push_toArray, List.append_toArray, List.nil_append, List.cons_append]
  gi_wp2
  have e0 := alloc_old (alloc_old (alloc_old (alloc_block w (.cells #[.slice al es.length cl] 29)) (.cells #[.int .i64 m] 3)) (.cells #[.bool false] 4)) (.cells #[.int .i64 0] 3)
  have e1 := alloc_old (alloc_old (alloc_block (w.alloc (.cells #[.slice al es.length cl] 29)) (.cells #[.int .i64 m] 3)) (.cells #[.bool false] 4)) (.cells #[.int .i64 0] 3)
  have e2 := alloc_old (alloc_block ((w.alloc (.cells #[.slice al es.length cl] 29)).alloc (.cells #[.int .i64 m] 3)) (.cells #[.bool false] 4)) (.cells #[.int .i64 0] 3)
  have e3 := alloc_block (((w.alloc (.cells #[.slice al es.length cl] 29)).alloc (.cells #[.int .i64 m] 3)).alloc (.cells #[.bool false] 4)) (.cells #[.int .i64 0] 3)
  simp only [World.size_alloc] at e1 e2 e3
  have hk4 : Keeps (fun _ => False) w ((((w.alloc (.cells #[.slice al es.length cl] 29)).alloc (.cells #[.int .i64 m] 3)).alloc (.cells #[.bool false] 4)).alloc (.cells #[.int .i64 0] 3)) := ((((Keeps.refl _ w).alloc _).alloc _).alloc _).alloc _
  have hz4 : ((((w.alloc (.cells #[.slice al es.length cl] 29)).alloc (.cells #[.int .i64 m] 3)).alloc (.cells #[.bool false] 4)).alloc (.cells #[.int .i64 0] 3)).heap.size = w.heap.size + 4 := by simp
  generalize ((((w.alloc (.cells #[.slice al es.length cl] 29)).alloc (.cells #[.int .i64 m] 3)).alloc (.cells #[.bool false] 4)).alloc (.cells #[.int .i64 0] 3)) = W4 at e0 e1 e2 e3 hk4 hz4 ⊢
  have hL4 : LwAt w W4 w.heap.size (.slice al es.length cl) m 0 false := ⟨e0, e1, e2, e3, hk4⟩
  have hbx4 := hk4.old hbx (fun f => f)
  clear e0 e1 e2 e3 hnn
  have HZ : Hid (W4.heap.size = w.heap.size + 4) := hz4
  have hTn : ∀ q, w.heap.size ≤ q → q < w.heap.size + 4 → ¬ T (W4.heap.size + 2) q := fun q h1 h2 e => by
    rcases hT _ q (by omega) e with e | e <;> omega
  refine' range_at rfl (by omega) (gf := 58) (lb := #[.pointer (some ⟨bx, 0, none⟩)]) rfl trivial (enters_of Tryd.func58 (by kernel_rfl) rfl)
    (walk_seq (5 - 1) (by omega) bx f (W4.heap.size + 2) 0 p es hes (T (W4.heap.size + 2)) fr W4 hf hbx4 (fun W hW hM => by have h1 := hh W (hk4.trans (Keeps.of_below hW _)); rw [hM] at h1; exact h1.mono (fun e w' ⟨a, c, q1, q2, q3⟩ => ⟨a, c, q1, q2, q3, fun _ => Nat.zero_le _⟩))) (Below.refl _ _)
    (fun h k => h.trans k) (fun W o => KeptOn.keeps ((Keeps.refl (fun _ => False) W).alloc o) (fun _ _ f => f)) (fun W r r' hl => KeptOn.putObj W _ _ _ hl rfl) (fun _ => rfl)
    (fun pre X => LwAt w X w.heap.size (.slice al es.length cl) m pre.length false)
    (fun c pre X => c = .ret ∧ LwAt w X w.heap.size (.slice al es.length cl) m pre.length true)
    (fun s A B row hs hg hr => hs.grown hg (fun r e => ⟨by have := (hr r e).1; omega, (hr r e).2⟩))
    (fun c s A B row hs hg hr => ⟨hs.1, hs.2.grown hg (fun r e => ⟨by have := (hr r e).1; omega, (hr r e).2⟩)⟩)
    hL4 (fun x => .cells #[.int .u64 x.2.1, .int .u64 x.2.2] 72) _ ?assign ?body ?done ?stop
  case assign =>
    intro l x W K b hb hK
    dsimp only [entE]
    gi_wp2
    exact hK
  case body =>
    clear hL4 hz4
    rintro l pre ⟨k, a, y⟩ X hS hlen ⟨hx1, hx2⟩ b hb hb1 hb2 _
    dsimp only at hx1 hx2 hb ⊢
    rw [← hx1] at hx2 hS
    obtain ⟨g, off, x', y', hal, hx', HC⟩ := hl.fixed (k := k) (by omega)
    rw [hx2] at hx'
    injection hx' with hx'
    injection hx' with q1 q2
    subst q1 q2
    subst hal
    obtain ⟨d1, d2⟩ := HC.out X hS.kp
    have x0 : X.cell? ⟨_, 0, none⟩ = some _ := cell_of_block hS.l 0
    have x1 : X.cell? ⟨_, 0, none⟩ = some _ := cell_of_block hS.n 0
    have x2 : X.cell? ⟨_, 0, none⟩ = some _ := cell_of_block hS.res 0
    have x3 : X.cell? ⟨_, 0, none⟩ = some _ := cell_of_block hS.k 0
    have y2 := frozen_of_block hS.res 0
    have y3 := frozen_of_block hS.k 0
    have c0 : X.cell? ⟨b, 0, none⟩ = some (.int .u64 a) := cell_of_block hb 0
    have c1 : X.cell? ⟨b, 1, none⟩ = some (.int .u64 y) := cell_of_block hb 1
    have hkl : (k : Int) < (es.length : Int) := by omega
    have hkl2 : ¬ (es.length : Int) ≤ (k : Int) := by omega
    have hga : decide (es.length ≤ k) = false := by simp; omega
    have hgb : ¬ es.length ≤ k := by omega
    have hwr : IntKind.i64.wrap ((k : Int) + 1) = (k : Int) + 1 := by rw [IntKind.wrap_i64]; omega
    have HK : Hid (k = pre.length) := hx1
    clear hx1 hx2
    gi_wp2
    refine wpIn_round_quiet (by kernel_rfl) (by kernel_rfl) (by kernel_rfl) ?_
    repeat (go_big_quiet_step (fail))
    refine wpQuiet_nil ?_
    rintro _ ⟨nq, rfl⟩
    have hl1 := like_drewN X nq
    have hlen1 : ((pre ++ [(k, a, y)]).length : Int) = (k : Int) + 1 := by rw [List.length_append, ← HK.out]; simp
    have n3 : ¬ T (W4.heap.size + 2) (w.heap.size + 1 + 1 + 1) := hTn _ (by omega) (by omega)
    have hS1 := (hS.like hl1).setK (Nat.le_refl _) ((k : Int) + 1)
    have kf1 := keepsFrom_set (B := W4.heap.size) (X.drewN nq) ⟨w.heap.size + 1 + 1 + 1, 0, none⟩ (.int .i64 ((k : Int) + 1))
    have ko1 := KeptOn.set (S := T (W4.heap.size + 2)) (X.drewN nq) ⟨w.heap.size + 1 + 1 + 1, 0, none⟩ (.int .i64 ((k : Int) + 1)) n3
    by_cases hm : (k : Int) + 1 = m
    · have hS2 := hS1.setR (Nat.le_refl _) true
      have kf2 := keepsFrom_set (B := W4.heap.size) ((X.drewN nq).setCell ⟨w.heap.size + 1 + 1 + 1, 0, none⟩ (.int .i64 ((k : Int) + 1))) ⟨w.heap.size + 1 + 1, 0, none⟩ (.bool true)
      have hfin : Hid (KeepsFrom W4.heap.size X (((X.drewN nq).setCell ⟨w.heap.size + 1 + 1 + 1, 0, none⟩ (.int .i64 m)).setCell ⟨w.heap.size + 1 + 1, 0, none⟩ (.bool true)) ∧ LwAt w (((X.drewN nq).setCell ⟨w.heap.size + 1 + 1 + 1, 0, none⟩ (.int .i64 m)).setCell ⟨w.heap.size + 1 + 1, 0, none⟩ (.bool true)) w.heap.size (.slice (some ⟨g, off, none⟩) es.length cl) m (pre ++ [(k, a, y)]).length true) := by
        rw [hlen1, ← hm]
        rw [← hm] at hS2
        refine ⟨?_, hS2⟩
        have := kf1.trans kf2
        exact ⟨this.size, this.same⟩
      clear hS hS1 hS2 kf1 kf2 ko1 hlen1
      gi_wp2
      exact ⟨hfin.out.1, rfl, hfin.out.2⟩
    · have hfin : Hid (KeepsFrom W4.heap.size X ((X.drewN nq).setCell ⟨w.heap.size + 1 + 1 + 1, 0, none⟩ (.int .i64 ((k : Int) + 1))) ∧ KeptOn (T (W4.heap.size + 2)) X ((X.drewN nq).setCell ⟨w.heap.size + 1 + 1 + 1, 0, none⟩ (.int .i64 ((k : Int) + 1))) ∧ LwAt w ((X.drewN nq).setCell ⟨w.heap.size + 1 + 1 + 1, 0, none⟩ (.int .i64 ((k : Int) + 1))) w.heap.size (.slice (some ⟨g, off, none⟩) es.length cl) m (pre ++ [(k, a, y)]).length false) := by
        rw [hlen1]
        exact ⟨⟨kf1.size, kf1.same⟩, ⟨ko1.size, ko1.block⟩, hS1⟩
      clear hS hS1 kf1 ko1 hlen1
      gi_wp2
      exact hfin.out
  case stop =>
    rintro c pre X _ ⟨rfl, hS⟩ hK
    have r7 := block_kept hS.res (grownBy_putObj' X W4.heap.size (.deferred none)) (fun r e => by cases e; exact ⟨_, hK, rfl⟩)
    have r9 := cell_of_block r7 0
    have hkp := hS.kp.step (keeps_grown (grownBy_putObj' X W4.heap.size (.deferred none))) (fun q hq e => by injection e with e; omega)
    clear hS hL4
    gi_wp2
    refine ⟨by simp, .inl ⟨_, _, rfl, run_takeDeferred hK, ?_⟩⟩
    refine ⟨.bool true, ?_, rfl, hkp⟩
    simp [results, Tryd.f14, go_sem, r9]
  case done =>
    rintro ys X hys hS hK
    rw [hys] at hS
    have hS2 := hS.setR (Nat.le_refl _) true
    have hne : W4.heap.size ≠ w.heap.size + 1 + 1 := by omega
    have hK2 : (X.setCell ⟨w.heap.size + 1 + 1, 0, none⟩ (.bool true)).heap[W4.heap.size]? = some (.deferred (some [])) := (Below.heap_setCell X ⟨w.heap.size + 1 + 1, 0, none⟩ _ _ hne).trans hK
    have r7 := block_kept hS2.res (grownBy_putObj' _ W4.heap.size (.deferred none)) (fun r e => by cases e; exact ⟨_, hK2, rfl⟩)
    have r9 := cell_of_block r7 0
    have hkp := hS2.kp.step (keeps_grown (grownBy_putObj' _ W4.heap.size (.deferred none))) (fun q hq e => by injection e with e; omega)
    have x0 : X.cell? ⟨_, 0, none⟩ = some _ := cell_of_block hS.l 0
    have x2 : X.cell? ⟨_, 0, none⟩ = some _ := cell_of_block hS.res 0
    have x3 : X.cell? ⟨_, 0, none⟩ = some _ := cell_of_block hS.k 0
    have y2 := frozen_of_block hS.res 0
    clear hS hS2 hL4 hys
    gi_wp2
    refine ⟨by simp, .inl ⟨_, _, rfl, run_takeDeferred hK2, ?_⟩⟩
    refine ⟨.bool true, ?_, rfl, hkp⟩
    simp [results, Tryd.f14, go_sem, r9]
end Go.Proofs.YtbgnlenhncbceaaDoor
