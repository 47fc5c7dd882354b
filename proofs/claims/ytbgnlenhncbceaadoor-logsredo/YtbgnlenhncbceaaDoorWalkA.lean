
/-
  The program's walk over a log's entries, as an iterator. No statement of the seat is proved here.
-/
import Derived.Test.YtbgnlenhncbceaaDoorReadsA
import Derived.Test.YtbgnlenhncbceaaDoorCells
import Derived.Test.YtbgnlenhncbceaaDoorLoopM
namespace Go.Proofs.YtbgnlenhncbceaaDoor
open Go.RowKit Go.Shelf
attribute [local go_sem] Oper.semAt_some

/-- Entries that are walked over, in blocks of T. -/
def ListAt (T : Nat → Prop) (W : World) (a : Option Addr) (es : List (Int × Int)) : Prop :=
  ∀ i, i < es.length → ∃ g off cc fr x y, a = some ⟨g, off, none⟩ ∧ T g ∧ W.heap[g]? = some (.cells cc 72 fr) ∧ es[i]? = some (x, y) ∧ cc[off + i * 2]? = some (.int .u64 x) ∧ cc[off + i * 2 + 1]? = some (.int .u64 y)
theorem ListAt.kept {T : Nat → Prop} {W W' : World} {a : Option Addr} {es : List (Int × Int)} (h : ListAt T W a es) (k : KeptOn T W W') : ListAt T W' a es := fun i hi => by
  obtain ⟨g, off, cc, fr, x, y, h1, h2, h3, h4⟩ := h i hi
  exact ⟨g, off, cc, fr, x, y, h1, h2, k.block _ _ _ _ h2 h3, h4⟩
theorem ListAt.alloc {T : Nat → Prop} {W : World} {a : Option Addr} {es : List (Int × Int)} (h : ListAt T W a es) (o : Obj) : ListAt T (W.alloc o) a es := fun i hi => by
  obtain ⟨g, off, cc, fr, x, y, h1, h2, h3, h4⟩ := h i hi
  exact ⟨g, off, cc, fr, x, y, h1, h2, alloc_old h3 _, h4⟩

/-- An entry with its place, as the walk hands it on. -/
def entE (x : Nat × (Int × Int)) : Array Value := #[.int .i64 x.1, .agg #[.int .u64 x.2.1, .int .u64 x.2.2]]

set_option maxRecDepth 100000 in
set_option maxHeartbeats 1000000 in
theorem walk1_in (n : Nat) (hn : 1 ≤ n) (l bx f : Nat) (p : Option Addr) (es : List (Int × Int)) (hes : es.length ≤ 4398046511104) (T : Nat → Prop) (Z : Nat) (fr : Nat × Nat) (J Jx : List (Nat × (Int × Int)) → World → Prop) (W : World) (hJ : OwnFrom W.heap.size J)
    (hf : ∀ args w, (callFunc f args).run Tryd.prog w = .ok (.enter f args) w)
    (hY : ∀ pre x W1, J pre W1 → pre.length < es.length → (x.1 = pre.length ∧ es[pre.length]? = some x.2) → Z ≤ W1.heap.size → YieldAt Fence.wide (n - 1) Tryd.prog l (entE x) W1 fun e W' =>
      (e = .returned (.bool true) ∧ J (pre ++ [x]) W' ∧ KeptOn T W1 W') ∨ (e = .returned (.bool false) ∧ Jx (pre ++ [x]) W'))
    (hbx : W.heap[bx]? = some (.cells #[.func (.func f) #[.pointer p] #[]] 69 fr))
    (hh : Calls Tryd.prog f #[.pointer p] W fun e w' => ∃ a c, e = .returned (.slice a es.length c) ∧ ListAt T w' a es ∧ Keeps (fun _ => False) W w' ∧ (0 < es.length → Z ≤ w'.heap.size)) (h0 : J [] W) :
    CallsIn Fence.wide n Tryd.prog 58 #[.func (.yield l) #[] #[], .pointer (some ⟨bx, 0, none⟩)] W fun e W' => (∃ v, e = .returned v) ∧
      ((∃ ys, ys.length = es.length ∧ J ys W') ∨ (∃ pre, True ∧ Jx pre W')) := by
  have b0 : W.cell? ⟨bx, 0, none⟩ = some (.func (.func f) #[.pointer p] #[]) := cell_of_block hbx 0
  refine callsIn_of_wp Tryd.func58 rfl trivial ?_ rfl
  simp only [Tryd.ntmps58, List.size_toArray, List.length_cons, List.length_nil, Nat.reduceAdd, Nat.reduceSub, Array.replicate_succ, Array.replicate_zero, List.push_toArray, List.append_toArray, List.nil_append, List.cons_append]
  gi_wp2_with fail
  refine ⟨trivial, (callsIn_wide.2 hh).mono ?_⟩
  rintro e w1 ⟨a, c, rfl, hR, hK, hZ⟩
  have hJ1 : J [] w1 := hJ _ _ _ none h0 ⟨hK.os, hK.tape, hK.output, hK.size, fun k hk _ => hK.block k hk (fun f => f)⟩ (fun r e => by cases e)
  have hJA : ∀ pre X o, J pre X → J pre (X.alloc o) := fun pre X o h => hJ.alloc o h
  clear hh b0 hbx h0 hK
  gi_wp2_with fail
  gi_loopw [8] (fun v wr => ∃ k : Nat, k ≤ es.length ∧ v = .int .i64 k ∧ ∃ pre, pre.length = k ∧ J pre wr ∧ ListAt T wr a es ∧ (0 < es.length → Z ≤ wr.heap.size)) (fun v _ => es.length - (intOf v).toNat)
  case atStart => exact ⟨0, by omega, rfl, [], rfl, hJ1, hR, hZ⟩
  case round =>
    obtain ⟨k, hk, rfl, pre, hpre, hJs, hR1, hZ1⟩ := hrel
    clear hR hJ1 hZ
    by_cases hlt : k < es.length
    · obtain ⟨g, off, cc, fr', x, y, rfl, hT, hg, hx, g0, g1⟩ := hR1 k hlt
      have e0 : wr.cell? ⟨g, off + k * 2, none⟩ = some (.int .u64 x) := (cell_of_block hg _).trans g0
      have e1 : wr.cell? ⟨g, off + k * 2 + 1, none⟩ = some (.int .u64 y) := (cell_of_block hg _).trans g1
      have hR2 := hR1.alloc (.cells #[.int .u64 x, .int .u64 y] 72)
      obtain ⟨fn, tmps, assign, body, hy, hRR⟩ := hY pre (k, (x, y)) (wr.alloc (.cells #[.int .u64 x, .int .u64 y] 72)) (hJA _ _ _ hJs) (by omega) ⟨hpre.symm, by rw [hpre]; exact hx⟩ (by have := hZ1 (by omega); simp; omega)
      have HZ1 : Hid (Z ≤ wr.heap.size) := hZ1 (by omega)
      have hkl : (k : Int) < (es.length : Int) := by omega
      dsimp only [entE] at hy hRR
      have HP : Hid (pre.length = k) := hpre
      clear hg g0 g1 hY hx hpre hZ1
      gi_wp2
      refine hRR.mono ?_
      rintro e W3 (⟨rfl, hJ3, hk3⟩ | ⟨rfl, hJx3⟩)
      · have hR3 := hR2.kept hk3
        clear e0 e1 hy hRR
        gi_wp2
        go_roundw
        case rel => exact ⟨k + 1, by omega, by go_num, pre ++ [(k, (x, y))], by rw [List.length_append, HP.out]; rfl, hJ3, hR3, fun _ => Nat.le_trans (Nat.le_trans HZ1.out (by simp)) hk3.size⟩
        case measure => simp [intOf]; omega
      · gi_wp2
        refine bodyPost_ret (results_none rfl _ _ _) rfl ?_
        exact ⟨⟨_, rfl⟩, .inr ⟨_, trivial, hJx3⟩⟩
    · obtain rfl : k = es.length := by omega
      clear hlt
      gi_wp2
      go_end0
      exact ⟨⟨_, rfl⟩, .inl ⟨pre, hpre, hJs⟩⟩

/-- The walk, where it is called at a known size of the heap. -/
theorem walk_seq (n : Nat) (hn : 1 ≤ n) (bx f M Z : Nat) (p : Option Addr) (es : List (Int × Int)) (hes : es.length ≤ 4398046511104) (T : Nat → Prop) (fr : Nat × Nat) (w : World)
    (hf : ∀ args w, (callFunc f args).run Tryd.prog w = .ok (.enter f args) w)
    (hbx : w.heap[bx]? = some (.cells #[.func (.func f) #[.pointer p] #[]] 69 fr))
    (hh : ∀ W, Below w.heap.size w W → W.heap.size = M → Calls Tryd.prog f #[.pointer p] W fun e w' => ∃ a c, e = .returned (.slice a es.length c) ∧ ListAt T w' a es ∧ Keeps (fun _ => False) W w' ∧ (0 < es.length → Z ≤ w'.heap.size)) :
    SeqAt Fence.wide n Tryd.prog 58 #[.pointer (some ⟨bx, 0, none⟩)] entE (KeptOn T) (fun ys => ys.length = es.length) (fun _ => True) es.length (fun pre x => x.1 = pre.length ∧ es[pre.length]? = some x.2) w M Z :=
  fun l J Jx W hW hM hJ _ hY h0 => walk1_in n hn l bx f p es hes T Z fr J Jx W hJ hf (fun pre x W1 h1 h2 h3 h4 => by
    obtain ⟨fn, tmps, assign, body, hy, hRR⟩ := hY pre x W1 h1 h2 h3 h4
    exact ⟨fn, tmps, assign, body, hy, hRR.mono (fun e W' h => h.imp id (fun ⟨q1, q2, _⟩ => ⟨q1, q2⟩))⟩) ((hW.block _ (lt_of_block hbx)).trans hbx) (hh W hW hM) h0
end Go.Proofs.YtbgnlenhncbceaaDoor
