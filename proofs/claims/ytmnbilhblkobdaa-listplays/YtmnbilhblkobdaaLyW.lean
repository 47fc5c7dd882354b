
/- The document's reply to a step: answer, walked (layer 21). No statement of the seat is proved here. -/
import Derived.Test.YtmnbilhblkobdaaLyV
namespace Go.Proofs.Ytmnbilhblkobdaa
open Go.RowKit

theorem results_ct2 {fn : Func} {p t : Tmp} {ty : TypeId} (h : fn.results = #[.cell p ty, .tmp t]) (tmps : Array Value) (P : Program) (w : World) :
    (results fn tmps).run P w = ((asAddr (tmps.getD p undef)).run P w).andThen fun a w₁ => ((loadVar ty a).run P w₁).andThen fun x w₂ => .ok (.tuple #[x, tmps.getD t undef]) w₂ := by
  simp only [results, h]
  simp [Sem.run_bind, Result.andThen]
theorem ans_ret {fn : Func} {p t : Tmp} (h : fn.results = #[.cell p 38, .tmp t]) (tmps : Array Value) (w : World) (q : Nat) (x e : Int) (hh : Bool) (v : Value) (hb : RpAt w q x hh v e)
    (hp : tmps.getD p undef = .pointer (some ⟨q, 0, none⟩)) : (results fn tmps).run Try.prog w = .ok (.tuple #[.agg #[.int .u64 x, .bool hh, v, .int .i64 e], tmps.getD t undef]) w := by
  rw [results_ct2 h, hp]
  simp [asAddr, run_loadVar_row w q 38 38 _ (0, 0) _ hb Try.underlying38 rfl (by rw [size_rp]; rfl), Result.andThen]
/-- The state in answer. -/
structure Aq (w X : World) (kind on key : Int) (x : Int) (h : Bool) (v : Value) (e : Int) : Prop where
  k : Keeps (fun _ => False) w X
  sz : w.heap.size + 3 ≤ X.heap.size
  bx : X.heap[w.heap.size]? = some (.cells #[.int .i64 kind, .int .i64 on, .int .u64 key] 33 (0, 0))
  a9 : RpAt X (w.heap.size + 2) x h v e
  a8 : ∃ x h v e, RpAt X (w.heap.size + 1) x h v e
section
variable {w X X' : World} {kind on key x e : Int} {h : Bool} {v : Value}
theorem Aq.new (d : Aq w X kind on key x h v e) (k : Keeps (fun _ => False) X X') : Aq w X' kind on key x h v e := by
  obtain ⟨x8, h8, v8, e8, a⟩ := d.a8
  exact ⟨d.k.trans k, Nat.le_trans d.sz k.size, (k.block _ (lt_of_block d.bx) (fun f => f)).trans d.bx, d.a9.keeps k (fun f => f), x8, h8, v8, e8, a.keeps k (fun f => f)⟩
theorem Aq.own {i : Nat} {u : Value} (d : Aq w X kind on key x h v e) {x' e' : Int} {h' : Bool} {v' : Value} (a : RpAt (X.setCell ⟨w.heap.size + 2, i, none⟩ u) (w.heap.size + 2) x' h' v' e') : Aq w (X.setCell ⟨w.heap.size + 2, i, none⟩ u) kind on key x' h' v' e' := by
  obtain ⟨x8, h8, v8, e8, a8⟩ := d.a8
  have k := keeps_cell X (w.heap.size + 2) i u
  exact ⟨d.k.step k (fun i hi e => by omega), Nat.le_trans d.sz k.size, (k.block _ (lt_of_block d.bx) (by omega)).trans d.bx, a, x8, h8, v8, e8, a8.keeps k (by omega)⟩
theorem Aq.fin (d : Aq w X kind on key x h v e) (x' e' : Int) (h' : Bool) (v' : Value) : RpAt ((((X.setCell ⟨w.heap.size + 1, 0, none⟩ (.int .u64 x')).setCell ⟨w.heap.size + 1, 1, none⟩ (.bool h')).setCell ⟨w.heap.size + 1, 2, none⟩ v').setCell ⟨w.heap.size + 1, 3, none⟩ (.int .i64 e')) (w.heap.size + 1) x' h' v' e' ∧ Keeps (fun _ => False) w ((((X.setCell ⟨w.heap.size + 1, 0, none⟩ (.int .u64 x')).setCell ⟨w.heap.size + 1, 1, none⟩ (.bool h')).setCell ⟨w.heap.size + 1, 2, none⟩ v').setCell ⟨w.heap.size + 1, 3, none⟩ (.int .i64 e')) ∧ Keeps (fun k => k = w.heap.size + 1) X ((((X.setCell ⟨w.heap.size + 1, 0, none⟩ (.int .u64 x')).setCell ⟨w.heap.size + 1, 1, none⟩ (.bool h')).setCell ⟨w.heap.size + 1, 2, none⟩ v').setCell ⟨w.heap.size + 1, 3, none⟩ (.int .i64 e')) := by
  obtain ⟨x8, h8, v8, e8, a8⟩ := d.a8
  have k := (((keeps_cell X (w.heap.size + 1) 0 (.int .u64 x')).trans (keeps_cell _ (w.heap.size + 1) 1 (.bool h'))).trans (keeps_cell _ (w.heap.size + 1) 2 v')).trans (keeps_cell _ (w.heap.size + 1) 3 (.int .i64 e'))
  exact ⟨(((a8.set0 x').set1 h').set2 v').set3 e', d.k.step k (fun i hi e => by omega), k⟩
end
theorem aq_start (w : World) (kind on key : Int) : Aq w (((w.alloc (.cells #[.int .i64 kind, .int .i64 on, .int .u64 key] 33)).alloc (.cells #[.int .u64 0, .bool false, .slice none 0 0, .int .i64 0] 38)).alloc (.cells #[.int .u64 0, .bool false, .slice none 0 0, .int .i64 0] 38)) kind on key 0 false (.slice none 0 0) 0 := by
  have e1 : ∀ (x : World) (o : Obj), (x.alloc o).heap.size = x.heap.size + 1 := fun x o => by simp
  generalize ho : (Obj.cells #[.int .i64 kind, .int .i64 on, .int .u64 key] 33) = o
  generalize hr : (Obj.cells #[.int .u64 0, .bool false, .slice none 0 0, .int .i64 0] 38) = r
  have q0 := alloc_block w o
  have q1 := alloc_block (w.alloc o) r
  have q2 := alloc_block ((w.alloc o).alloc r) r
  rw [e1] at q1
  rw [e1, e1] at q2
  subst ho hr
  refine ⟨((keeps_new w _).alloc _).alloc _, by rw [e1, e1, e1]; omega, ?_, q2, 0, false, .slice none 0 0, 0, RpAt.keeps (e := 0) q1 (keeps_new _ _) (fun f => f)⟩
  have k := (keeps_new (w.alloc (.cells #[.int .i64 kind, .int .i64 on, .int .u64 key] 33)) (.cells #[.int .u64 0, .bool false, .slice none 0 0, .int .i64 0] 38)).alloc (.cells #[.int .u64 0, .bool false, .slice none 0 0, .int .i64 0] 38)
  exact (k.block _ (lt_of_block q0) (fun f => f)).trans q0
theorem lies_nil (w : World) : Lies w (.slice none 0 0) [] := ⟨none, 0, rfl, fun i hi => absurd hi (by simp)⟩
/-- What is read in a region of answer. -/
structure S10 (W : World) (q0 q9 : Nat) (key x : Int) (h : Bool) (v : Value) (e : Int) : Prop where
  f0 : W.cell? ⟨q0, 2, none⟩ = some (.int .u64 key)
  f1 : W.cell? ⟨q9, 0, none⟩ = some (.int .u64 x)
  f2 : W.cell? ⟨q9, 1, none⟩ = some (.bool h)
  f3 : W.cell? ⟨q9, 2, none⟩ = some v
  f4 : W.cell? ⟨q9, 3, none⟩ = some (.int .i64 e)
theorem s10_of {w X : World} {kind on key x e : Int} {h : Bool} {v : Value} (d : Aq w X kind on key x h v e) : S10 X w.heap.size (w.heap.size + 2) key x h v e := ⟨by rw [cell_of_block d.bx]; rfl, d.a9.c0, d.a9.c1, d.a9.c2, d.a9.c3⟩
theorem KR.keeps {w w' : World} {v : Value} {l : List Int} (h : KR w v l) (k : Keeps (fun _ => False) w w') : KR w' v l := by
  rcases h with q | ⟨g, c, hv, hp, hc, hcell⟩
  · exact .inl q
  · exact .inr ⟨g, c, hv, hp, hc, fun i hi => (World.cell?_of_block (k.block g (World.block_lt_of_cell? _ _ (hcell i hi)) (fun f => f))).trans (hcell i hi)⟩
/-- A row lies in memory that is new since, or where another one lies. -/
def Near (w : World) (v u : Value) : Prop := ∀ a n c, u = .slice (some a) n c → w.heap.size ≤ a.block ∨ ∃ n' c', v = .slice (some a) n' c'
theorem near_nil (w : World) (v : Value) : Near w v (.slice none 0 0) := fun a n c h => by cases h
theorem near_self (w : World) (a : Option Addr) (n c : Nat) : Near w (.slice a n c) (.slice a n c) := fun _ n c h => .inr ⟨n, c, h⟩
theorem Wr.near {w X : World} {v u : Value} {l : List Int} {base : Nat} (h : Wr X base u l) (hb : w.heap.size ≤ base) : Near w v u := by
  intro a n c hu
  subst hu
  refine .inl (Nat.le_trans hb ?_)
  rcases h.2 with ⟨q, _⟩ | ⟨g', cap, cur, q, h1, h2, _⟩
  · cases q
  · cases q; exact h1
/-- What answer gives. -/
def AnsP (v : Value) (K : List Int) (kind key : Int) (sp : Bool) (w : World) (e : Ending) (w' : World) : Prop := ∃ i v1 v2, Pl K key i ∧ e = .returned (.tuple #[.agg #[.int .u64 (ansR K kind key sp i).w, .bool (ansR K kind key sp i).h, v1, .int .i64 (ansR K kind key sp i).e], v2]) ∧ Lies w' v1 (ansR K kind key sp i).L ∧ Lies w' v2 (ansK K kind key sp i) ∧ Near w v v1 ∧ Near w v v2 ∧ Keeps (fun _ => False) w w'
theorem ansP_of {v : Value} {K : List Int} {kind key : Int} {sp : Bool} {w w' : World} {i : Nat} {R : Rp} {K2 : List Int} {v1 v2 : Value} (hi : Pl K key i) (hR : ansR K kind key sp i = R) (hK : ansK K kind key sp i = K2) (h1 : Lies w' v1 R.L) (h2 : Lies w' v2 K2) (n1 : Near w v v1) (n2 : Near w v v2) (k : Keeps (fun _ => False) w w') :
    AnsP v K kind key sp w (.returned (.tuple #[.agg #[.int .u64 R.w, .bool R.h, v1, .int .i64 R.e], v2])) w' := ⟨i, v1, v2, hi, by rw [hR], by rw [hR]; exact h1, by rw [hK]; exact h2, n1, n2, k⟩
theorem ans_fin (w : World) (kind on key x e : Int) (h : Bool) (v : Value) : RpAt (((w.alloc (.cells #[.int .i64 kind, .int .i64 on, .int .u64 key] 33)).alloc (.cells #[.int .u64 x, .bool h, v, .int .i64 e] 38)).alloc (.cells #[.int .u64 x, .bool h, v, .int .i64 e] 38)) (w.heap.size + 1) x h v e ∧ Keeps (fun _ => False) w (((w.alloc (.cells #[.int .i64 kind, .int .i64 on, .int .u64 key] 33)).alloc (.cells #[.int .u64 x, .bool h, v, .int .i64 e] 38)).alloc (.cells #[.int .u64 x, .bool h, v, .int .i64 e] 38)) := by
  have q1 := alloc_block (w.alloc (.cells #[.int .i64 kind, .int .i64 on, .int .u64 key] 33)) (.cells #[.int .u64 x, .bool h, v, .int .i64 e] 38)
  rw [show (w.alloc (.cells #[.int .i64 kind, .int .i64 on, .int .u64 key] 33)).heap.size = w.heap.size + 1 by simp] at q1
  exact ⟨RpAt.keeps q1 (keeps_new _ _) (fun f => f), ((keeps_new w _).alloc _).alloc _⟩
theorem S10.keeps {W W' : World} {q0 q9 : Nat} {key x e : Int} {h : Bool} {v : Value} {S : Nat → Prop} (d : S10 W q0 q9 key x h v e) (k : Keeps S W W') (h0 : ¬ S q0) (h9 : ¬ S q9) : S10 W' q0 q9 key x h v e := by
  have b0 := k.block q0 (World.block_lt_of_cell? _ _ d.f0) h0
  have b9 := k.block q9 (World.block_lt_of_cell? _ _ d.f1) h9
  exact ⟨(World.cell?_of_block b0).trans d.f0, (World.cell?_of_block b9).trans d.f1, (World.cell?_of_block b9).trans d.f2, (World.cell?_of_block b9).trans d.f3, (World.cell?_of_block b9).trans d.f4⟩
end Go.Proofs.Ytmnbilhblkobdaa
