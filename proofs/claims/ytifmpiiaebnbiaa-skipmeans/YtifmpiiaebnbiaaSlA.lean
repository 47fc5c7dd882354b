
/- What was told held against what was told; the statement's tx and the document's tape beside one another (layer 22). No statement of the seat is proved here. -/
import Derived.Test.YtifmpiiaebnbiaaSkS
namespace Go.Proofs.Ytifmpiiaebnbiaa
open Go.RowKit

/-- What was told, as it lies. -/
def LogAt (w : World) (v : Value) (l : List Acc) : Prop := w.ownsRow 0 109 3 v l.length (accV l)
theorem accV_get : ∀ {l : List Acc} {i : Nat} (h : i < l.length), (accV l)[i * 3]? = some (.bool l[i].p) ∧ (accV l)[i * 3 + 1]? = some (.int .u64 l[i].a) ∧ (accV l)[i * 3 + 2]? = some (.int .u64 l[i].x)
  | q :: l, 0, _ => ⟨rfl, rfl, rfl⟩
  | q :: l, i + 1, h => by
    have ih := accV_get (l := l) (i := i) (by simpa using h)
    have e : accV (q :: l) = .bool q.p :: .int .u64 q.a :: .int .u64 q.x :: accV l := rfl
    rw [e, show (i + 1) * 3 = i * 3 + 1 + 1 + 1 by omega]
    simp only [List.getElem?_cons_succ, List.getElem_cons_succ]
    exact ih
theorem LogAt.form {w : World} {v : Value} {l : List Acc} (h : LogAt w v l) : ∃ a c, v = .slice a l.length c ∧ ∀ i (hi : i < l.length), ∃ g, a = some ⟨g, 0, none⟩ ∧ w.cell? ⟨g, i * 3, none⟩ = some (.bool l[i].p) ∧ w.cell? ⟨g, i * 3 + 1, none⟩ = some (.int .u64 l[i].a) ∧ w.cell? ⟨g, i * 3 + 2, none⟩ = some (.int .u64 l[i].x) := by
  rcases id h.2 with ⟨e, e2⟩ | ⟨g, cap, cur, e, _⟩
  · exact ⟨none, 0, by rw [e, e2], fun i hi => by omega⟩
  · refine ⟨some ⟨g, 0, none⟩, cap, e, fun i hi => ⟨g, rfl, ?_⟩⟩
    have hc := h.cells (g := g) (by rw [e]; rfl)
    have hq := accV_get hi
    have f := fun j u (hj : (accV l)[j]? = some u) => (by have q := hc j u hj; rw [addr_add, Nat.zero_add] at q; exact q : w.cell? ⟨g, j, none⟩ = some u)
    exact ⟨f _ _ hq.1, f _ _ hq.2.1, f _ _ hq.2.2⟩
set_option maxHeartbeats 1000000 in
theorem sameLogs_any (va vb : Value) (l : List Acc) (hl : l.length ≤ 1000000) (w : World) (ha : LogAt w va l) (hb : LogAt w vb l) :
    Calls Try.prog 33 #[va, vb] w fun e w' => e = .returned (.bool true) ∧ ∃ m, w' = w.drewN m := by
  obtain ⟨aa, ca, rfl, ha2⟩ := ha.form
  obtain ⟨ab, cb, rfl, hb2⟩ := hb.form
  have HA := hid ha2
  have HB := hid hb2
  clear ha hb ha2 hb2
  go_enter Try.func33, Try.ntmps33
  go_wp2_with fail
  go_loopw [5] (fun i wr => ∃ k : Nat, k ≤ l.length ∧ i = .int .i64 k ∧ ∃ m, wr = w.drewN m) (fun i _ => l.length - (intOf i).toNat)
  case atStart => exact ⟨0, by omega, rfl, 0, rfl⟩
  case round =>
    obtain ⟨k, hk, rfl, mm, rfl⟩ := hrel
    by_cases hlt : k < l.length
    · obtain ⟨g, rfl, d1, d2, d3⟩ := HA.out k hlt
      obtain ⟨g', rfl, f1, f2, f3⟩ := HB.out k hlt
      generalize l[k] = q at d1 d2 d3 f1 f2 f3
      obtain ⟨qp, qa, qx⟩ := q
      dsimp only at d1 d2 d3 f1 f2 f3
      clear HA HB
      have hwk : IntKind.i64.wrap ((k : Int) + 1) = (k : Int) + 1 := by rw [IntKind.wrap_i64]; omega
      go_wp2_with fail
      go_quiet (fail)
      go_wp2_with fail
      go_roundw
      case rel => exact ⟨k + 1, by omega, by simp, _, rfl⟩
      case measure => simp [intOf]; omega
    · obtain rfl : k = l.length := by omega
      clear HA HB
      go_wp2_with fail
      go_ret
      exact ⟨rfl, _, rfl⟩
/-- The statement's tx (b1, g1) and the document's tape (b2, g2), from the world w on: what they have come to. -/
structure Du (w : World) (b1 g1 c1 b2 g2 c2 : Nat) (X : World) (s1 s2 : Wd) : Prop where
  t : WdAt 27 X b1 g1 c1 s1
  r : WdAt 30 X b2 g2 c2 s2
  dj : ∀ i, own X b1 g1 i → ¬ own X b2 g2 i
  k : Keeps (fun i => own w b1 g1 i ∨ own w b2 g2 i) w X
  f1 : ∀ i, own X b1 g1 i → own w b1 g1 i ∨ w.heap.size ≤ i
  f2 : ∀ i, own X b2 g2 i → own w b2 g2 i ∨ w.heap.size ≤ i
section
variable {w X X' : World} {b1 g1 c1 b2 g2 c2 : Nat} {s1 s2 s' : Wd}
theorem Du.tx (h : Du w b1 g1 c1 b2 g2 c2 X s1 s2) (k : Hs 27 X b1 g1 c1 X' s') : Du w b1 g1 c1 b2 g2 c2 X' s' s2 := by
  have hk : Keeps (own X b1 g1) X X' := k.k.k.mono (fun i _ e => e.elim id (fun f => f.elim))
  have ho := own_kept h.r.ltb hk (fun i hi e => h.dj i e hi)
  refine ⟨k.wd, h.r.kept hk (fun i hi e => h.dj i e hi), fun i e1 e2 => ?_, h.k.step hk (fun i hi e => ?_), fun i e => ?_, fun i e => h.f2 i ((ho i).1 e)⟩
  · have e2' := (ho i).1 e2
    rcases k.k.f i e1 with q | q
    · exact h.dj i q e2'
    · have := h.r.lto e2'; omega
  · rcases h.f1 i e with q | q
    · exact .inl q
    · omega
  · rcases k.k.f i e with q | q
    · exact h.f1 i q
    · exact .inr (Nat.le_trans h.k.size q)
theorem Du.tp (h : Du w b1 g1 c1 b2 g2 c2 X s1 s2) (k : Hs 30 X b2 g2 c2 X' s') : Du w b1 g1 c1 b2 g2 c2 X' s1 s' := by
  have hk : Keeps (own X b2 g2) X X' := k.k.k.mono (fun i _ e => e.elim id (fun f => f.elim))
  have ho := own_kept h.t.ltb hk (fun i hi e => h.dj i hi e)
  refine ⟨h.t.kept hk (fun i hi e => h.dj i hi e), k.wd, fun i e1 e2 => ?_, h.k.step hk (fun i hi e => ?_), fun i e => h.f1 i ((ho i).1 e), fun i e => ?_⟩
  · have e1' := (ho i).1 e1
    rcases k.k.f i e2 with q | q
    · exact h.dj i e1' q
    · have := h.t.lto e1'; omega
  · rcases h.f2 i e with q | q
    · exact .inr q
    · omega
  · rcases k.k.f i e with q | q
    · exact h.f2 i q
    · exact .inr (Nat.le_trans h.k.size q)
/-- A change in blocks that are neither's, and are younger than w. -/
theorem Du.step {S : Nat → Prop} (h : Du w b1 g1 c1 b2 g2 c2 X s1 s2) (k : Keeps S X X') (hS : ∀ i, S i → w.heap.size ≤ i ∧ ¬ own X b1 g1 i ∧ ¬ own X b2 g2 i) : Du w b1 g1 c1 b2 g2 c2 X' s1 s2 := by
  have h1 : ∀ i, own X b1 g1 i → ¬ S i := fun i hi e => (hS i e).2.1 hi
  have h2 : ∀ i, own X b2 g2 i → ¬ S i := fun i hi e => (hS i e).2.2 hi
  have o1 := own_kept h.t.ltb k h1
  have o2 := own_kept h.r.ltb k h2
  exact ⟨h.t.kept k h1, h.r.kept k h2, fun i e1 e2 => h.dj i ((o1 i).1 e1) ((o2 i).1 e2), h.k.step k (fun i hi e => by have := (hS i e).1; omega), fun i e => h.f1 i ((o1 i).1 e), fun i e => h.f2 i ((o2 i).1 e)⟩
theorem Du.new (h : Du w b1 g1 c1 b2 g2 c2 X s1 s2) (k : Keeps (fun _ => False) X X') : Du w b1 g1 c1 b2 g2 c2 X' s1 s2 := h.step k (fun _ f => f.elim)
/-- A block that is neither's. -/
structure L2 (X : World) (b1 g1 b2 g2 q : Nat) (o : Obj) : Prop where
  at_ : X.heap[q]? = some o
  n1 : ¬ own X b1 g1 q
  n2 : ¬ own X b2 g2 q
theorem L2.on {q : Nat} {o : Obj} (h : L2 X b1 g1 b2 g2 q o) (k : Du X b1 g1 c1 b2 g2 c2 X' s1 s2) : L2 X' b1 g1 b2 g2 q o := by
  have hl := lt_of_block h.at_
  refine ⟨(k.k.block q hl (fun e => e.elim h.n1 h.n2)).trans h.at_, fun e => ?_, fun e => ?_⟩
  · rcases k.f1 q e with r | r
    · exact h.n1 r
    · omega
  · rcases k.f2 q e with r | r
    · exact h.n2 r
    · omega
theorem Du.start (t : WdAt 27 w b1 g1 c1 s1) (r : WdAt 30 w b2 g2 c2 s2) (dj : ∀ i, own w b1 g1 i → ¬ own w b2 g2 i) : Du w b1 g1 c1 b2 g2 c2 w s1 s2 := ⟨t, r, dj, Keeps.refl _ _, fun _ e => .inl e, fun _ e => .inl e⟩
theorem Du.trans {s3 s4 : Wd} (h : Du w b1 g1 c1 b2 g2 c2 X s1 s2) (k : Du X b1 g1 c1 b2 g2 c2 X' s3 s4) : Du w b1 g1 c1 b2 g2 c2 X' s3 s4 := by
  refine ⟨k.t, k.r, k.dj, h.k.step k.k (fun i hi e => ?_), fun i e => ?_, fun i e => ?_⟩
  · rcases e with e | e
    · rcases h.f1 i e with q | q
      · exact .inl q
      · omega
    · rcases h.f2 i e with q | q
      · exact .inr q
      · omega
  · rcases k.f1 i e with q | q
    · exact h.f1 i q
    · exact .inr (Nat.le_trans h.k.size q)
  · rcases k.f2 i e with q | q
    · exact h.f2 i q
    · exact .inr (Nat.le_trans h.k.size q)
theorem WdAt.log {T : TypeId} {b g c : Nat} {s : Wd} (h : WdAt T w b g c s) : ∃ v, w.cell? ⟨b, 1, none⟩ = some v ∧ LogAt w v s.L := by
  obtain ⟨v, h1, h2, _⟩ := h.lg
  exact ⟨v, by rw [cell_of_block h1]; rfl, h2⟩
theorem WdAt.lies {T : TypeId} {b g c : Nat} {s : Wd} (h : WdAt T w b g c s) : Lies w (.slice (adr g c) s.W.length c) s.W := by
  refine ⟨_, c, rfl, fun i hi => ⟨g, 0, ?_, ?_⟩⟩
  · exact adr_pos (by have := h.cap; omega)
  · rw [Nat.zero_add]; exact h.wcell i hi
end
end Go.Proofs.Ytifmpiiaebnbiaa
