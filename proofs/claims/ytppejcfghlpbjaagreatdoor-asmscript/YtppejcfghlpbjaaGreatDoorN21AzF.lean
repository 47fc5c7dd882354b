/-
  No statement of the seat is proved here. (Several texts in one: AzF, AzG.)
-/
import Derived.Test.YtppejcfghlpbjaaGreatDoorN20AzB
import Derived.Test.YtppejcfghlpbjaaGreatDoorN19AyH

/- What the document's CopyScript has made so far (package parleyref09). No statement of the seat is proved here. -/
namespace Go.Proofs.YtppejcfghlpbjaaGreatDoor
open Go.RowKit Go.Shelf

/-- The three boxes of CopyScript: the script that came in, the result, the copy. -/
structure CS (w : World) (xb : Array Value) (c : Int) (uf up uk : Value) (W : World) : Prop where
  bx : W.heap[w.heap.size]? = some (.cells xb 26 (0, 0))
  br : W.heap[w.heap.size + 1]? = some (.cells #[.int .i64 0, .slice none 0 0, .slice none 0 0, .slice none 0 0] 26 (0, 0))
  bc : W.heap[w.heap.size + 2]? = some (.cells #[.int .i64 c, uf, up, uk] 26 (0, 0))
  kw : Keeps (fun _ => False) w W
theorem CS.keepsB {w W W' : World} {xb : Array Value} {c : Int} {uf up uk : Value} {S : Nat → Prop} (h : CS w xb c uf up uk W) (k : Keeps S W W') (hS : ∀ q, S q → w.heap.size + 3 ≤ q) : CS w xb c uf up uk W' :=
  ⟨(k.block _ (lt_of_block h.bx) (fun e => by have := hS _ e; omega)).trans h.bx, (k.block _ (lt_of_block h.br) (fun e => by have := hS _ e; omega)).trans h.br, (k.block _ (lt_of_block h.bc) (fun e => by have := hS _ e; omega)).trans h.bc, keeps_up h.kw k (fun q e => by have := hS q e; omega)⟩
theorem CS.keeps {w W W' : World} {xb : Array Value} {c : Int} {uf up uk : Value} (h : CS w xb c uf up uk W) (k : Keeps (fun _ => False) W W') : CS w xb c uf up uk W' := h.keepsB k (fun _ f => f.elim)
theorem set_kw {w W : World} (k : Keeps (fun _ => False) w W) (i : Nat) (u : Value) : Keeps (fun _ => False) w (W.setCell ⟨w.heap.size + 2, i, none⟩ u) := k.setCell (p := ⟨w.heap.size + 2, i, none⟩) (.inl (by simp)) _
theorem CS.set1 {w W : World} {xb : Array Value} {c : Int} {uf up uk : Value} (h : CS w xb c uf up uk W) (u : Value) : CS w xb c u up uk (W.setCell ⟨w.heap.size + 2, 1, none⟩ u) :=
  ⟨(Below.heap_setCell _ _ _ _ (by simp)).trans h.bx, (Below.heap_setCell _ _ _ _ (by simp)).trans h.br, block_set h.bc 1 u, set_kw h.kw 1 u⟩
theorem CS.set2 {w W : World} {xb : Array Value} {c : Int} {uf up uk : Value} (h : CS w xb c uf up uk W) (u : Value) : CS w xb c uf u uk (W.setCell ⟨w.heap.size + 2, 2, none⟩ u) :=
  ⟨(Below.heap_setCell _ _ _ _ (by simp)).trans h.bx, (Below.heap_setCell _ _ _ _ (by simp)).trans h.br, block_set h.bc 2 u, set_kw h.kw 2 u⟩
theorem CS.set3 {w W : World} {xb : Array Value} {c : Int} {uf up uk : Value} (h : CS w xb c uf up uk W) (u : Value) : CS w xb c uf up u (W.setCell ⟨w.heap.size + 2, 3, none⟩ u) :=
  ⟨(Below.heap_setCell _ _ _ _ (by simp)).trans h.bx, (Below.heap_setCell _ _ _ _ (by simp)).trans h.br, block_set h.bc 3 u, set_kw h.kw 3 u⟩
/-- A row with its mark. -/
def RwM (k : IntKind) (W : World) (g cap : Nat) (F : List Nat) : Prop := F.length + 1 ≤ cap ∧ (∀ j (hj : j < F.length), W.cell? ⟨g, j, none⟩ = some (.int k (F[j] : Int))) ∧ W.cell? ⟨g, F.length, none⟩ = some (.int k 23130)
theorem RwM.keeps {k : IntKind} {W W' : World} {S : Nat → Prop} {g cap : Nat} {F : List Nat} (h : RwM k W g cap F) (kk : Keeps S W W') (hs : ¬ S g) : RwM k W' g cap F :=
  ⟨h.1, fun j hj => kk.cell hs (h.2.1 j hj), kk.cell hs h.2.2⟩
/-- The programs that are copied so far. -/
structure CL (w : World) (B : Nat) (xb : Array Value) (c : Int) (gf cf gk ck : Nat) (F K : List Nat) (P : List (List I5)) (k : Nat) (up : Value) (qs : List Value) (W : World) : Prop where
  cs : CS w xb c (.slice (some ⟨gf, 0, none⟩) F.length cf) up (.slice (some ⟨gk, 0, none⟩) K.length ck) W
  rf : RwM .u64 W gf cf F
  rk : RwM .u32 W gk ck K
  lf : w.heap.size + 3 ≤ gf ∧ gf < B
  lk : w.heap.size + 3 ≤ gk ∧ gk < B
  lb : w.heap.size + 3 ≤ B ∧ B ≤ W.heap.size
  row : W.ownsRow B 42 1 up k qs
  len : qs.length = k
  le : k ≤ P.length
  each : ∀ j (hj : j < qs.length) (hp : j < P.length), ∃ g cap, qs[j] = .slice (some ⟨g, 0, none⟩) (P[j]).length cap ∧ (P[j]).length + 2 ≤ cap ∧ InsAt W (.slice (some ⟨g, 0, none⟩) ((P[j]).length + 2) cap) (P[j] ++ marksC) ∧ up.ownBlock ≠ some g ∧ w.heap.size + 3 ≤ g
theorem InsAt.keepsB {W W' : World} {S : Nat → Prop} {g n cap : Nat} {L : List I5} (h : InsAt W (.slice (some ⟨g, 0, none⟩) n cap) L) (k : Keeps S W W') (hs : ¬ S g) : InsAt W' (.slice (some ⟨g, 0, none⟩) n cap) L := by
  obtain ⟨⟨a, c, e, hc⟩, h2, h3⟩ := h
  refine ⟨⟨a, c, e, fun j hj => ?_⟩, h2, h3⟩
  obtain ⟨g', off, e', q0, q1, q2, q3, q4⟩ := hc j hj
  have eg : g' = g := by
    simp only [Value.slice.injEq] at e
    rw [e'] at e
    simp only [Option.some.injEq, Addr.mk.injEq] at e
    exact e.1.1.symm
  subst eg
  exact ⟨g', off, e', k.cell hs q0, k.cell hs q1, k.cell hs q2, k.cell hs q3, k.cell hs q4⟩
theorem InsAt.low {W : World} {g n cap : Nat} {L : List I5} (h : InsAt W (.slice (some ⟨g, 0, none⟩) n cap) L) (hl : 0 < L.length) : g < W.heap.size := by
  obtain ⟨⟨a, c, e, hc⟩, _, _⟩ := h
  obtain ⟨g', off, e', q0, _⟩ := hc 0 hl
  simp only [Value.slice.injEq] at e
  rw [e'] at e
  simp only [Option.some.injEq, Addr.mk.injEq] at e
  obtain ⟨⟨rfl, _, _⟩, _⟩ := e
  exact World.block_lt_of_cell? _ _ q0
theorem CL.keeps {w : World} {B : Nat} {xb : Array Value} {c : Int} {gf cf gk ck : Nat} {F K : List Nat} {P : List (List I5)} {k : Nat} {up : Value} {qs : List Value} {W W' : World} (h : CL w B xb c gf cf gk ck F K P k up qs W) (kk : Keeps (fun _ => False) W W') : CL w B xb c gf cf gk ck F K P k up qs W' :=
  ⟨h.cs.keeps kk, h.rf.keeps kk (fun f => f), h.rk.keeps kk (fun f => f), h.lf, h.lk, ⟨h.lb.1, Nat.le_trans h.lb.2 kk.size⟩, own_keeps h.row kk (fun _ _ f => f), h.len, h.le, fun j hj hp => by
    obtain ⟨g, cap, q1, q2, q3, q4, q5⟩ := h.each j hj hp
    exact ⟨g, cap, q1, q2, q3.keeps kk, q4, q5⟩⟩
/-- A program more. -/
theorem CL.step {w : World} {B : Nat} {xb : Array Value} {c : Int} {gf cf gk ck : Nat} {F K : List Nat} {P : List (List I5)} {k : Nat} {up : Value} {qs : List Value} {W X : World} (h : CL w B xb c gf cf gk ck F K P k up qs W) (hk : k < P.length) (hP : P.length ≤ 300) (kk : Keeps (fun _ => False) W X) {g cap : Nat} (hi : InsAt X (.slice (some ⟨g, 0, none⟩) ((P[k]).length + 2) cap) (P[k] ++ marksC)) (hc : (P[k]).length + 2 ≤ cap) (hg : W.heap.size ≤ g) :
    ∃ v' W', (Builtin.append_ #[23, 23] 23 #[up, .slice (some ⟨X.heap.size, 0, none⟩) 1 1]).run Tryz.prog (X.alloc (.cells #[.slice (some ⟨g, 0, none⟩) (P[k]).length cap] 42)) = .ok v' W' ∧ (∃ b n d, v' = .slice b n d) ∧ W'.heap[w.heap.size]? = X.heap[w.heap.size]? ∧ W'.heap[w.heap.size + 2]? = X.heap[w.heap.size + 2]? ∧ Keeps (fun q => B ≤ q) X W' ∧ W'.frozen? ⟨w.heap.size + 2, 2, none⟩ = false ∧
      CL w B xb c gf cf gk ck F K P (k + 1) v' (qs ++ [.slice (some ⟨g, 0, none⟩) (P[k]).length cap]) (W'.setCell ⟨w.heap.size + 2, 2, none⟩ v') := by
  have hX := h.keeps kk
  have hBX := hX.lb
  have gl := hi.low (by simp [marksC])
  obtain ⟨v', W', h1, h2, h3⟩ := own_push1 (P := Tryz.prog) X B 23 23 42 _ 1 24 Tryz.underlying23 info_sl rfl (by decide) up k qs hX.row [.slice (some ⟨g, 0, none⟩) (P[k]).length cap] rfl (by simp [Value.oneCell']) (by omega) (by decide) hBX.2
  have ub : ∀ q, up.ownBlock = some q → B ≤ q ∧ q < W.heap.size := fun q e => ⟨(own_block h.row e).2, (own_block h.row e).1⟩
  have kB : Keeps (fun q => B ≤ q) X W' := h3.keeps.mono (fun q _ e => (ub q e).1)
  have vb : ∀ q, v'.ownBlock = some q → up.ownBlock = some q ∨ X.heap.size ≤ q := fun q e => by
    rcases h3.own with o | o
    · exact .inl (o ▸ e)
    · exact .inr (o q e)
  have cs' := hX.cs.keepsB kB (fun q e => by omega)
  have ks : Keeps (fun q => q = w.heap.size + 2) W' (W'.setCell ⟨w.heap.size + 2, 2, none⟩ v') := set_keeps W' _ 2 v'
  refine ⟨v', W', h1, own_form h2, kB.block _ (lt_of_block hX.cs.bx) (by omega), kB.block _ (lt_of_block hX.cs.bc) (by omega), kB, frozen_of_block cs'.bc _, ⟨cs'.set2 v', (hX.rf.keeps kB (by have := h.lf; omega)).keeps ks (by have := h.lf; omega), (hX.rk.keeps kB (by have := h.lk; omega)).keeps ks (by have := h.lk; omega), h.lf, h.lk, ⟨h.lb.1, Nat.le_trans hBX.2 (Nat.le_trans kB.size ks.size)⟩, own_keeps h2 ks (fun q e f => by subst f; rcases vb _ e with o | o; (have := (ub _ o).1; omega); omega), by simp [h.len], hk, fun j hj hp => ?_⟩⟩
  by_cases hjk : j < qs.length
  · obtain ⟨g', cap', q1, q2, q3, q4, q5⟩ := hX.each j hjk hp
    rw [List.getElem_append_left hjk]
    have gl' := q3.low (by simp [marksC])
    refine ⟨g', cap', q1, q2, (q3.keepsB h3.keeps q4).keepsB ks (by omega), fun e => ?_, q5⟩
    rcases vb _ e with o | o
    · exact q4 o
    · omega
  · have ej : j = qs.length := by simp at hj; omega
    subst ej
    have el : qs.length = k := h.len
    rw [List.getElem_append_right (Nat.le_refl _)]
    simp only [Nat.sub_self, List.getElem_cons_zero]
    simp only [el]
    refine ⟨g, cap, rfl, hc, (hi.keepsB h3.keeps (fun e => by have := (ub _ e).2; omega)).keepsB ks (by have := h.lb; omega), fun e => ?_, by have := h.lb; omega⟩
    rcases vb _ e with o | o
    · have := (ub _ o).2; omega
    · omega
/-- The last mark. -/
theorem CL.done {w : World} {B : Nat} {xb : Array Value} {c : Int} {gf cf gk ck : Nat} {F K : List Nat} {P : List (List I5)} {up : Value} {qs : List Value} {W : World} (h : CL w B xb c gf cf gk ck F K P P.length up qs W) (hP : P.length ≤ 300) (nc : Nat) :
    ∃ g cap W', (Builtin.append_ #[23, 23] 23 #[up, .slice (some ⟨(W.alloc (.cells #[.int .i64 97, .int .i64 0, .int .i64 0, .int .i64 0, .int .u64 0] 45)).heap.size, 0, none⟩) 1 1]).run Tryz.prog ((W.alloc (.cells #[.int .i64 97, .int .i64 0, .int .i64 0, .int .i64 0, .int .u64 0] 45)).alloc (.cells #[.slice (some ⟨W.heap.size, 0, none⟩) 1 1] 42)) = .ok (.slice (some ⟨g, 0, none⟩) (P.length + 1) cap) W' ∧ P.length + 1 ≤ cap ∧ Keeps (fun q => B ≤ q) W W' ∧
      CS w xb c (.slice (some ⟨gf, 0, none⟩) F.length cf) (.slice (some ⟨g, 0, none⟩) P.length cap) (.slice (some ⟨gk, 0, none⟩) K.length ck) (W'.setCell ⟨w.heap.size + 2, 2, none⟩ (.slice (some ⟨g, 0, none⟩) P.length cap)) ∧
      ∀ Y, Keeps (fun q => q = w.heap.size + 1) (W'.setCell ⟨w.heap.size + 2, 2, none⟩ (.slice (some ⟨g, 0, none⟩) P.length cap)) Y → Cpy Y (.slice (some ⟨gf, 0, none⟩) F.length cf) (.slice (some ⟨g, 0, none⟩) P.length cap) (.slice (some ⟨gk, 0, none⟩) K.length ck) ⟨nc, F, P, K⟩ := by
  have ka := (Keeps.refl (fun _ => False) W).alloc (.cells #[.int .i64 97, .int .i64 0, .int .i64 0, .int .i64 0, .int .u64 0] 45)
  have ba := alloc_block W (.cells #[.int .i64 97, .int .i64 0, .int .i64 0, .int .i64 0, .int .u64 0] 45)
  obtain ⟨X, hX⟩ : ∃ X, X = W.alloc (.cells #[.int .i64 97, .int .i64 0, .int .i64 0, .int .i64 0, .int .u64 0] 45) := ⟨_, rfl⟩
  rw [← hX] at ka ba ⊢
  have hh := h.keeps ka
  have hBX := hh.lb
  obtain ⟨v', W', h1, h2, h3⟩ := own_push1 (P := Tryz.prog) X B 23 23 42 _ 1 24 Tryz.underlying23 info_sl rfl (by decide) up P.length qs hh.row [.slice (some ⟨W.heap.size, 0, none⟩) 1 1] rfl (by simp [Value.oneCell']) (by omega) (by decide) hBX.2
  have ub : ∀ q, up.ownBlock = some q → B ≤ q ∧ q < W.heap.size := fun q e => ⟨(own_block h.row e).2, (own_block h.row e).1⟩
  have kB : Keeps (fun q => B ≤ q) X W' := h3.keeps.mono (fun q _ e => (ub q e).1)
  have vb : ∀ q, v'.ownBlock = some q → up.ownBlock = some q ∨ X.heap.size ≤ q := fun q e => by
    rcases h3.own with o | o
    · exact .inl (o ▸ e)
    · exact .inr (o q e)
  obtain ⟨g, cap, e1, e2, e3⟩ := row1_at h2 (by omega)
  subst e1
  have cs' := hh.cs.keepsB kB (fun q e => by omega)
  have ks : Keeps (fun q => q = w.heap.size + 2) W' (W'.setCell ⟨w.heap.size + 2, 2, none⟩ (.slice (some ⟨g, 0, none⟩) P.length cap)) := set_keeps W' _ 2 _
  have hgB : B ≤ g := by
    rcases vb g rfl with o | o
    · exact (ub _ o).1
    · omega
  have hng : ¬ g = w.heap.size + 2 := by have := h.lb; omega
  have hqs : qs.length = P.length := h.len
  refine ⟨g, cap, W', h1, e2, (ka.mono (fun _ _ f => f.elim)).trans kB, cs'.set2 _, fun Y kr => ?_⟩
  have rf := ((hh.rf.keeps kB (by have := h.lf; omega)).keeps ks (by have := h.lf; omega)).keeps kr (by have := h.lf; omega)
  have rk := ((hh.rk.keeps kB (by have := h.lk; omega)).keeps ks (by have := h.lk; omega)).keeps kr (by have := h.lk; omega)
  have hng1 : ¬ g = w.heap.size + 1 := by have := h.lb; omega
  refine ⟨⟨gf, cf, rfl, rf.1, rf.2.1, rf.2.2⟩, ⟨gk, ck, rfl, rk.1, rk.2.1, rk.2.2⟩, ⟨g, cap, W.heap.size, rfl, e2, fun j hj => ?_, ?_, ?_⟩⟩
  · have hjq : j < qs.length := by rw [hqs]; exact hj
    obtain ⟨g', cap', q1, q2, q3, q4, q5⟩ := hh.each j hjq hj
    have gl' := q3.low (by simp [marksC])
    refine ⟨g', cap', ?_, q2, ((q3.keepsB h3.keeps q4).keepsB ks (by omega)).keepsB kr (by omega)⟩
    refine kr.cell hng1 (ks.cell hng (e3 j _ (by have : j < P.length := hj; omega) ?_))
    rw [List.getElem?_append_left hjq, List.getElem?_eq_getElem hjq, q1]
  · refine kr.cell hng1 (ks.cell hng (e3 P.length _ (by omega) ?_))
    rw [List.getElem?_append_right (by omega)]
    simp [hqs]
  · have hb1 : W'.heap[W.heap.size]? = some (.cells #[.int .i64 97, .int .i64 0, .int .i64 0, .int .i64 0, .int .u64 0] 45 (0, 0)) := (h3.keeps.block _ (lt_of_block ba) (fun e => by have := (ub _ e).2; omega)).trans ba
    exact kr.cell (a := ⟨W.heap.size, 0, none⟩) (by have := h.lb; show ¬ W.heap.size = _; omega) (ks.cell (a := ⟨W.heap.size, 0, none⟩) (by have := h.lb; show ¬ W.heap.size = _; omega) (by rw [cell_of_block hb1]; rfl))
end Go.Proofs.YtppejcfghlpbjaaGreatDoor


/- Walk of the document's CopyScript (package parleyref09). No statement of the seat is proved here. -/
namespace Go.Proofs.YtppejcfghlpbjaaGreatDoor
open Go.RowKit Go.Shelf

theorem results_cell1 {fn : Func} {p : Tmp} {ty : TypeId} (h : fn.results = #[.cell p ty]) (tmps : Array Value) (P : Program) (w : World) :
    (results fn tmps).run P w = ((asAddr (tmps.getD p undef)).run P w).andThen fun a w₁ => (loadVar ty a).run P w₁ := by
  simp only [results, h]
  simp [Sem.run_bind]
theorem scr_ret1 {fn : Func} {p : Tmp} (h : fn.results = #[.cell p 26]) (tmps : Array Value) (w : World) (b : Nat) (old cs : Array Value) (hb : w.heap[b]? = some (.cells old 26 (0, 0))) (hs : cs.size = 4)
    (hp : tmps.getD p undef = .pointer (some ⟨b, 0, none⟩)) : (results fn tmps).run Tryz.prog (w.setRow b cs) = .ok (.agg cs) (w.setRow b cs) := by
  rw [results_cell1 h, hp]
  simp [asAddr, run_loadVar_row (w.setRow b cs) b 26 26 cs (0, 0) _ (setRow_heap w b old cs _ _ hb) Tryz.underlying26 rfl (by rw [size_scr, hs])]
set_option maxRecDepth 100000 in
set_option maxHeartbeats 40000000 in
theorem rcopys_any (x : Sc) (hx : Few x) (c : Int) (vf vp vk : Value) (w : World) (h : ScAt w vf vp vk x) : Calls Tryz.prog 7 #[.agg #[.int .i64 c, vf, vp, vk]] w fun e w' => (∃ uf up uk, e = .returned (.agg #[.int .i64 c, uf, up, uk]) ∧ Cpy w' uf up uk x) ∧ Keeps (fun _ => False) w w' := by
  have hmx : Tryz.prog.follows .mixedOrders = true := by kernel_rfl
  have HA : Hid (∀ X, Keeps (fun _ => False) w X → ScAt X vf vp vk x) := fun X k => h.keeps k
  obtain ⟨⟨fa, fc, rfl, _⟩, ⟨pa, pc, rfl, _⟩, ⟨ka, kc, rfl, _⟩⟩ := h
  obtain ⟨c', F, P, K⟩ := x
  dsimp only at *
  have hnf : F.length ≤ 2000 := hx.nf
  have hnk : K.length ≤ 2000 := hx.nk
  have hnp : P.length ≤ 300 := hx.np
  have HX : Hid (Few ⟨c', F, P, K⟩) := hx
  have HROW64 : Hid (∀ X, Keeps (fun _ => False) w X → ∀ k (hk : k < F.length), ∃ g off, fa = some ⟨g, off, none⟩ ∧ X.cell? ⟨g, off + k, none⟩ = some (.int .u64 (F[k] : Int))) := fun X kX k hk => by
    obtain ⟨⟨_, _, q1, q2, q3⟩, _, _⟩ := HA.out X kX
    simp only [Value.slice.injEq] at q1
    obtain ⟨rfl, -, rfl⟩ := q1
    exact q3 k hk
  have HROW32 : Hid (∀ X, Keeps (fun _ => False) w X → ∀ k (hk : k < K.length), ∃ g off, ka = some ⟨g, off, none⟩ ∧ X.cell? ⟨g, off + k, none⟩ = some (.int .u32 (K[k] : Int))) := fun X kX k hk => by
    obtain ⟨_, _, ⟨_, _, q1, q2, q3⟩⟩ := HA.out X kX
    simp only [Value.slice.injEq] at q1
    obtain ⟨rfl, -, rfl⟩ := q1
    exact q3 k hk
  have HPOST : Hid (∀ (Y : World) (g64 c64 g cap g32 c32 : Nat), CS w #[.int .i64 c, .slice fa F.length fc, .slice pa P.length pc, .slice ka K.length kc] c (.slice (some ⟨g64, 0, none⟩) F.length c64) (.slice (some ⟨g, 0, none⟩) P.length cap) (.slice (some ⟨g32, 0, none⟩) K.length c32) Y → (∀ Z, Keeps (fun q => q = w.heap.size + 1) Y Z → Cpy Z (.slice (some ⟨g64, 0, none⟩) F.length c64) (.slice (some ⟨g, 0, none⟩) P.length cap) (.slice (some ⟨g32, 0, none⟩) K.length c32) ⟨c', F, P, K⟩) → (∃ uf up uk, Ending.returned (.agg #[.int .i64 c, .slice (some ⟨g64, 0, none⟩) F.length c64, .slice (some ⟨g, 0, none⟩) P.length cap, .slice (some ⟨g32, 0, none⟩) K.length c32]) = .returned (.agg #[.int .i64 c, uf, up, uk]) ∧ Cpy (Y.setRow (w.heap.size + 1) #[.int .i64 c, .slice (some ⟨g64, 0, none⟩) F.length c64, .slice (some ⟨g, 0, none⟩) P.length cap, .slice (some ⟨g32, 0, none⟩) K.length c32]) uf up uk ⟨c', F, P, K⟩) ∧ Keeps (fun _ => False) w (Y.setRow (w.heap.size + 1) #[.int .i64 c, .slice (some ⟨g64, 0, none⟩) F.length c64, .slice (some ⟨g, 0, none⟩) P.length cap, .slice (some ⟨g32, 0, none⟩) K.length c32])) := fun Y g64 c64 g cap g32 c32 cs cp => by
    have kr := setRow_keepsS (w := Y) (a := w.heap.size + 1) #[.int .i64 c, .slice (some ⟨g64, 0, none⟩) F.length c64, .slice (some ⟨g, 0, none⟩) P.length cap, .slice (some ⟨g32, 0, none⟩) K.length c32]
    refine ⟨⟨_, _, _, rfl, ?_⟩, keeps_up cs.kw kr (fun q e => by omega)⟩
    exact cp _ kr
  obtain ⟨W1, hW1⟩ : ∃ W, W = ((w.alloc (.cells #[.int .i64 c, .slice fa F.length fc, .slice pa P.length pc, .slice ka K.length kc] 26)).alloc (.cells #[.int .i64 0, .slice none 0 0, .slice none 0 0, .slice none 0 0] 26)).alloc (.cells #[.int .i64 c, .slice none 0 0, .slice none 0 0, .slice none 0 0] 26) := ⟨_, rfl⟩
  have HC1 : Hid (CS w #[.int .i64 c, .slice fa F.length fc, .slice pa P.length pc, .slice ka K.length kc] c (.slice none 0 0) (.slice none 0 0) (.slice none 0 0) W1) := by
    refine ⟨?_, ?_, ?_, ?_⟩
    · rw [hW1]; exact alloc_old (alloc_old (alloc_block w _) _) _
    · rw [hW1]; exact alloc_old (alloc_at (by simp)) _
    · rw [hW1]; exact alloc_at (by simp)
    · rw [hW1]; exact (((Keeps.refl _ w).alloc _).alloc _).alloc _
  have HW1 : Hid (W1 = ((w.alloc (.cells #[.int .i64 c, .slice fa F.length fc, .slice pa P.length pc, .slice ka K.length kc] 26)).alloc (.cells #[.int .i64 0, .slice none 0 0, .slice none 0 0, .slice none 0 0] 26)).alloc (.cells #[.int .i64 c, .slice none 0 0, .slice none 0 0, .slice none 0 0] 26)) := hW1
  clear hW1 hx
  go_enter Tryz.func7, Tryz.ntmps7
  go_wp2_with fail
  rw [← HW1.out]
  refine wp_held_end (S := (fun X : World => X.cell? ⟨w.heap.size, 1, none⟩ = some (.slice fa F.length fc))) 11 rfl hmx ?_
  have HD1 : Hid (CS w #[.int .i64 c, .slice fa F.length fc, .slice pa P.length pc, .slice ka K.length kc] c (.slice none 0 0) (.slice none 0 0) (.slice none 0 0) W1.drew ∧ True) := ⟨HC1.out.keeps ((Keeps.refl _ _).drewN 1), trivial⟩
  generalize W1.drew = D1 at *
  clear HC1 HW1
  simp only [Array.replicate_succ, Array.replicate_zero, List.push_toArray, List.nil_append, List.cons_append]
  have S0 : (fun X : World => X.cell? ⟨w.heap.size, 1, none⟩ = some (.slice fa F.length fc)) D1 := by show _ = _; rw [cell_of_block HD1.out.1.bx]; rfl
  refine held_take (i := 0) (v := .pointer (some ⟨w.heap.size, 1, none⟩)) 8 rfl rfl (by kernel_rfl) (by kernel_rfl) (by kernel_rfl) rfl (fun w' hw' => by have r0 := hw'; go_simp) S0 ?_
  simp only [Act.put, List.setIfInBounds_toArray, List.set_cons_zero, List.set_cons_succ]
  refine held_take (i := 1) (v := .slice fa F.length fc) 9 rfl rfl (by kernel_rfl) (by kernel_rfl) (by kernel_rfl) rfl (fun w' hw' => by have r0 := hw'; go_simp) S0 ?_
  simp only [Act.put, List.setIfInBounds_toArray, List.set_cons_zero, List.set_cons_succ]
  refine held_take (i := 5) (v := .pointer (some ⟨w.heap.size, 1, none⟩)) 13 rfl rfl (by kernel_rfl) (by kernel_rfl) (by kernel_rfl) rfl (fun w' hw' => by have r0 := hw'; go_simp) S0 ?_
  simp only [Act.put, List.setIfInBounds_toArray, List.set_cons_zero, List.set_cons_succ]
  refine held_take (i := 6) (v := .slice fa F.length fc) 14 rfl rfl (by kernel_rfl) (by kernel_rfl) (by kernel_rfl) rfl (fun w' hw' => by have r0 := hw'; go_simp) S0 ?_
  simp only [Act.put, List.setIfInBounds_toArray, List.set_cons_zero, List.set_cons_succ]
  refine held_take (i := 7) (v := .int .i64 (F.length : Int)) 15 rfl rfl (by kernel_rfl) (by kernel_rfl) (by kernel_rfl) rfl (fun w' hw' => by have r0 := hw'; go_simp) S0 ?_
  simp only [Act.put, List.setIfInBounds_toArray, List.set_cons_zero, List.set_cons_succ]
  obtain ⟨a1, A1, a2, A2, ra1, ra2, na, ka1, kaa, ka2⟩ := copA_64 D1 fa fc F (HROW64.out D1 HD1.out.1.kw) (by omega)
  obtain ⟨b1, B1, b2, B2, rb1, rb2, nb, kb1, kbb, kb2⟩ := copB_64 D1 fa fc F (HROW64.out D1 HD1.out.1.kw) (by omega)
  refine held_val2 (i := 2) (j := 3) (vi := a1) (vj := .slice (some ⟨D1.heap.size, 0, none⟩) 1 1) (wi := A1) (wj := D1.alloc (.cells #[.int .u64 23130] 40)) (some 10) (some 11) (by kernel_rfl) rfl rfl rfl rfl rfl rfl (run_append_op rfl rfl rfl ra1) (by go_simp) (cell_keep ka1 S0) (cell_keep kbb S0) ?A1 ?B1
  case A1 =>
    simp only [Act.put, List.setIfInBounds_toArray, List.set_cons_zero, List.set_cons_succ]
    refine held_val (i := 3) (v := .slice (some ⟨A1.heap.size, 0, none⟩) 1 1) (w' := A1.alloc (.cells #[.int .u64 23130] 40)) (some 11) (by kernel_rfl) rfl rfl rfl (by go_simp) (cell_keep kaa S0) ?_
    simp only [Act.put, List.setIfInBounds_toArray, List.set_cons_zero, List.set_cons_succ]
    obtain ⟨g64, c64, ev, hcap, hlo, hhi, hrow, hmark⟩ := na.last
    rw [ev] at ra2
    refine held_val (i := 4) (v := .slice (some ⟨g64, 0, none⟩) (F.length + 1) c64) (w' := A2) (some 12) (by kernel_rfl) rfl rfl rfl (run_append_op rfl rfl rfl ra2) (cell_keep ka2 S0) ?_
    simp only [Act.put, List.setIfInBounds_toArray, List.set_cons_zero, List.set_cons_succ]
    have hci : (F.length : Int) ≤ c64 := by omega
    refine held_take (i := 8) (v := .slice (some ⟨g64, 0, none⟩) F.length c64) 16 rfl rfl (by kernel_rfl) (by kernel_rfl) (by kernel_rfl) rfl (fun w' hw' => by have r0 := hw'; go_simp) (cell_keep ka2 S0) ?_
    simp only [Act.put, List.setIfInBounds_toArray, List.set_cons_zero, List.set_cons_succ]
    refine held_take (i := 9) (v := .pointer (some ⟨w.heap.size + 2, 1, none⟩)) 17 rfl rfl (by kernel_rfl) (by kernel_rfl) (by kernel_rfl) rfl (fun w' hw' => by have r0 := hw'; go_simp) (cell_keep ka2 S0) ?_
    simp only [Act.put, List.setIfInBounds_toArray, List.set_cons_zero, List.set_cons_succ]
    have csZ := HD1.out.1.keeps ka2
    have zc := cell_of_block csZ.bc 1
    simp only [List.getElem?_toArray, List.getElem?_cons_zero, List.getElem?_cons_succ] at zc
    have zf : A2.frozen? ⟨w.heap.size + 2, 1, none⟩ = false := frozen_of_block csZ.bc _
    have csY := csZ.set1 (.slice (some ⟨g64, 0, none⟩) F.length c64)
    have ks := set_keeps A2 (w.heap.size + 2) 1 (.slice (some ⟨g64, 0, none⟩) F.length c64)
    have hDs : w.heap.size + 3 ≤ D1.heap.size := by have := lt_of_block HD1.out.1.bc; omega
    have ST1 : Hid (CS w #[.int .i64 c, .slice fa F.length fc, .slice pa P.length pc, .slice ka K.length kc] c (.slice (some ⟨g64, 0, none⟩) F.length c64) (.slice none 0 0) (.slice none 0 0) (A2.setCell ⟨w.heap.size + 2, 1, none⟩ (.slice (some ⟨g64, 0, none⟩) F.length c64)) ∧ RwM .u64 (A2.setCell ⟨w.heap.size + 2, 1, none⟩ (.slice (some ⟨g64, 0, none⟩) F.length c64)) g64 c64 F ∧ w.heap.size + 3 ≤ g64 ∧ g64 < (A2.setCell ⟨w.heap.size + 2, 1, none⟩ (.slice (some ⟨g64, 0, none⟩) F.length c64)).heap.size) := ⟨csY, RwM.keeps ⟨hcap, hrow, hmark⟩ ks (by omega), by omega, Nat.lt_of_lt_of_le hhi ks.size⟩
    refine held_none (i := 10) (w' := A2.setCell ⟨w.heap.size + 2, 1, none⟩ (.slice (some ⟨g64, 0, none⟩) F.length c64)) (by kernel_rfl) rfl rfl rfl (by go_simp) (ks.cell (a := ⟨w.heap.size, 1, none⟩) (by show ¬ w.heap.size = w.heap.size + 2; omega) (cell_keep ka2 S0)) ?_
    refine held_end (by kernel_rfl) ?_ _
    clear ra1 ra2 na ka1 kaa ka2 rb1 rb2 nb kb1 kbb kb2 S0 zc zf csZ csY ks hrow hmark ev
    generalize A2.setCell ⟨w.heap.size + 2, 1, none⟩ (.slice (some ⟨g64, 0, none⟩) F.length c64) = Y1 at *
    clear hlo hhi hcap hci hDs
    clear HD1
    go_wp2_with fail
    refine wp_held_end (S := (fun X : World => X.cell? ⟨w.heap.size, 3, none⟩ = some (.slice ka K.length kc))) 11 rfl hmx ?_
    have HD2 : Hid (CS w #[.int .i64 c, .slice fa F.length fc, .slice pa P.length pc, .slice ka K.length kc] c (.slice (some ⟨g64, 0, none⟩) F.length c64) (.slice none 0 0) (.slice none 0 0) Y1.drew ∧ RwM .u64 Y1.drew g64 c64 F ∧ w.heap.size + 3 ≤ g64 ∧ g64 < Y1.drew.heap.size) := ⟨ST1.out.1.keeps ((Keeps.refl _ _).drewN 1), ST1.out.2.1, ST1.out.2.2.1, ST1.out.2.2.2⟩
    clear ST1
    generalize Y1.drew = D2 at *
    simp only [Array.replicate_succ, Array.replicate_zero, List.push_toArray, List.nil_append, List.cons_append]
    have S0 : (fun X : World => X.cell? ⟨w.heap.size, 3, none⟩ = some (.slice ka K.length kc)) D2 := by show _ = _; rw [cell_of_block HD2.out.1.bx]; rfl
    refine held_take (i := 0) (v := .pointer (some ⟨w.heap.size, 3, none⟩)) 18 rfl rfl (by kernel_rfl) (by kernel_rfl) (by kernel_rfl) rfl (fun w' hw' => by have r0 := hw'; go_simp) S0 ?_
    simp only [Act.put, List.setIfInBounds_toArray, List.set_cons_zero, List.set_cons_succ]
    refine held_take (i := 1) (v := .slice ka K.length kc) 19 rfl rfl (by kernel_rfl) (by kernel_rfl) (by kernel_rfl) rfl (fun w' hw' => by have r0 := hw'; go_simp) S0 ?_
    simp only [Act.put, List.setIfInBounds_toArray, List.set_cons_zero, List.set_cons_succ]
    refine held_take (i := 5) (v := .pointer (some ⟨w.heap.size, 3, none⟩)) 23 rfl rfl (by kernel_rfl) (by kernel_rfl) (by kernel_rfl) rfl (fun w' hw' => by have r0 := hw'; go_simp) S0 ?_
    simp only [Act.put, List.setIfInBounds_toArray, List.set_cons_zero, List.set_cons_succ]
    refine held_take (i := 6) (v := .slice ka K.length kc) 24 rfl rfl (by kernel_rfl) (by kernel_rfl) (by kernel_rfl) rfl (fun w' hw' => by have r0 := hw'; go_simp) S0 ?_
    simp only [Act.put, List.setIfInBounds_toArray, List.set_cons_zero, List.set_cons_succ]
    refine held_take (i := 7) (v := .int .i64 (K.length : Int)) 25 rfl rfl (by kernel_rfl) (by kernel_rfl) (by kernel_rfl) rfl (fun w' hw' => by have r0 := hw'; go_simp) S0 ?_
    simp only [Act.put, List.setIfInBounds_toArray, List.set_cons_zero, List.set_cons_succ]
    obtain ⟨a1, A1, a2, A2, ra1, ra2, na, ka1, kaa, ka2⟩ := copA_32 D2 ka kc K (HROW32.out D2 HD2.out.1.kw) (by omega)
    obtain ⟨b1, B1, b2, B2, rb1, rb2, nb, kb1, kbb, kb2⟩ := copB_32 D2 ka kc K (HROW32.out D2 HD2.out.1.kw) (by omega)
    refine held_val2 (i := 2) (j := 3) (vi := a1) (vj := .slice (some ⟨D2.heap.size, 0, none⟩) 1 1) (wi := A1) (wj := D2.alloc (.cells #[.int .u32 23130] 41)) (some 20) (some 21) (by kernel_rfl) rfl rfl rfl rfl rfl rfl (run_append_op rfl rfl rfl ra1) (by go_simp) (cell_keep ka1 S0) (cell_keep kbb S0) ?A2 ?B2
    case' A2 =>
      simp only [Act.put, List.setIfInBounds_toArray, List.set_cons_zero, List.set_cons_succ]
      refine held_val (i := 3) (v := .slice (some ⟨A1.heap.size, 0, none⟩) 1 1) (w' := A1.alloc (.cells #[.int .u32 23130] 41)) (some 21) (by kernel_rfl) rfl rfl rfl (by go_simp) (cell_keep kaa S0) ?_
      simp only [Act.put, List.setIfInBounds_toArray, List.set_cons_zero, List.set_cons_succ]
      obtain ⟨g32, c32, ev, hcap, hlo, hhi, hrow, hmark⟩ := na.last
      rw [ev] at ra2
      refine held_val (i := 4) (v := .slice (some ⟨g32, 0, none⟩) (K.length + 1) c32) (w' := A2) (some 22) (by kernel_rfl) rfl rfl rfl (run_append_op rfl rfl rfl ra2) (cell_keep ka2 S0) ?_
      simp only [Act.put, List.setIfInBounds_toArray, List.set_cons_zero, List.set_cons_succ]
      have hci : (K.length : Int) ≤ c32 := by omega
      refine held_take (i := 8) (v := .slice (some ⟨g32, 0, none⟩) K.length c32) 26 rfl rfl (by kernel_rfl) (by kernel_rfl) (by kernel_rfl) rfl (fun w' hw' => by have r0 := hw'; go_simp) (cell_keep ka2 S0) ?_
      simp only [Act.put, List.setIfInBounds_toArray, List.set_cons_zero, List.set_cons_succ]
      refine held_take (i := 9) (v := .pointer (some ⟨w.heap.size + 2, 3, none⟩)) 27 rfl rfl (by kernel_rfl) (by kernel_rfl) (by kernel_rfl) rfl (fun w' hw' => by have r0 := hw'; go_simp) (cell_keep ka2 S0) ?_
      simp only [Act.put, List.setIfInBounds_toArray, List.set_cons_zero, List.set_cons_succ]
      have csZ := HD2.out.1.keeps ka2
      have zc := cell_of_block csZ.bc 3
      simp only [List.getElem?_toArray, List.getElem?_cons_zero, List.getElem?_cons_succ] at zc
      have zf : A2.frozen? ⟨w.heap.size + 2, 3, none⟩ = false := frozen_of_block csZ.bc _
      have csY := csZ.set3 (.slice (some ⟨g32, 0, none⟩) K.length c32)
      have ks := set_keeps A2 (w.heap.size + 2) 3 (.slice (some ⟨g32, 0, none⟩) K.length c32)
      have hDs : w.heap.size + 3 ≤ D2.heap.size := by have := lt_of_block HD2.out.1.bc; omega
      have hr64 := ((HD2.out.2.1.keeps ka2 (fun f => f)).keeps ks (by have := HD2.out.2.2.1; omega))
      have ST2 : Hid (CS w #[.int .i64 c, .slice fa F.length fc, .slice pa P.length pc, .slice ka K.length kc] c (.slice (some ⟨g64, 0, none⟩) F.length c64) (.slice none 0 0) (.slice (some ⟨g32, 0, none⟩) K.length c32) (A2.setCell ⟨w.heap.size + 2, 3, none⟩ (.slice (some ⟨g32, 0, none⟩) K.length c32)) ∧ RwM .u64 (A2.setCell ⟨w.heap.size + 2, 3, none⟩ (.slice (some ⟨g32, 0, none⟩) K.length c32)) g64 c64 F ∧ RwM .u32 (A2.setCell ⟨w.heap.size + 2, 3, none⟩ (.slice (some ⟨g32, 0, none⟩) K.length c32)) g32 c32 K ∧ (w.heap.size + 3 ≤ g64 ∧ g64 < (A2.setCell ⟨w.heap.size + 2, 3, none⟩ (.slice (some ⟨g32, 0, none⟩) K.length c32)).heap.size) ∧ w.heap.size + 3 ≤ g32 ∧ g32 < (A2.setCell ⟨w.heap.size + 2, 3, none⟩ (.slice (some ⟨g32, 0, none⟩) K.length c32)).heap.size) := ⟨csY, hr64, RwM.keeps ⟨hcap, hrow, hmark⟩ ks (by omega), ⟨HD2.out.2.2.1, Nat.lt_of_lt_of_le HD2.out.2.2.2 (Nat.le_trans ka2.size ks.size)⟩, by omega, Nat.lt_of_lt_of_le hhi ks.size⟩
      refine held_none (i := 10) (w' := A2.setCell ⟨w.heap.size + 2, 3, none⟩ (.slice (some ⟨g32, 0, none⟩) K.length c32)) (by kernel_rfl) rfl rfl rfl (by go_simp) (ks.cell (a := ⟨w.heap.size, 3, none⟩) (by show ¬ w.heap.size = w.heap.size + 2; omega) (cell_keep ka2 S0)) ?_
      refine held_end (by kernel_rfl) ?_ _
      clear ra1 ra2 na ka1 kaa ka2 rb1 rb2 nb kb1 kbb kb2 S0 zc zf csZ csY ks hrow hmark ev hr64
      generalize A2.setCell ⟨w.heap.size + 2, 3, none⟩ (.slice (some ⟨g32, 0, none⟩) K.length c32) = Y2 at *
      clear hlo hhi hcap hci hDs
      clear HD2
    case' B2 =>
      simp only [Act.put, List.setIfInBounds_toArray, List.set_cons_zero, List.set_cons_succ]
      refine held_val (i := 2) (v := b1) (w' := B1) (some 20) (by kernel_rfl) rfl rfl rfl (run_append_op rfl rfl rfl rb1) (cell_keep kb1 S0) ?_
      simp only [Act.put, List.setIfInBounds_toArray, List.set_cons_zero, List.set_cons_succ]
      obtain ⟨g32, c32, ev, hcap, hlo, hhi, hrow, hmark⟩ := nb.last
      rw [ev] at rb2
      refine held_val (i := 4) (v := .slice (some ⟨g32, 0, none⟩) (K.length + 1) c32) (w' := B2) (some 22) (by kernel_rfl) rfl rfl rfl (run_append_op rfl rfl rfl rb2) (cell_keep kb2 S0) ?_
      simp only [Act.put, List.setIfInBounds_toArray, List.set_cons_zero, List.set_cons_succ]
      have hci : (K.length : Int) ≤ c32 := by omega
      refine held_take (i := 8) (v := .slice (some ⟨g32, 0, none⟩) K.length c32) 26 rfl rfl (by kernel_rfl) (by kernel_rfl) (by kernel_rfl) rfl (fun w' hw' => by have r0 := hw'; go_simp) (cell_keep kb2 S0) ?_
      simp only [Act.put, List.setIfInBounds_toArray, List.set_cons_zero, List.set_cons_succ]
      refine held_take (i := 9) (v := .pointer (some ⟨w.heap.size + 2, 3, none⟩)) 27 rfl rfl (by kernel_rfl) (by kernel_rfl) (by kernel_rfl) rfl (fun w' hw' => by have r0 := hw'; go_simp) (cell_keep kb2 S0) ?_
      simp only [Act.put, List.setIfInBounds_toArray, List.set_cons_zero, List.set_cons_succ]
      have csZ := HD2.out.1.keeps kb2
      have zc := cell_of_block csZ.bc 3
      simp only [List.getElem?_toArray, List.getElem?_cons_zero, List.getElem?_cons_succ] at zc
      have zf : B2.frozen? ⟨w.heap.size + 2, 3, none⟩ = false := frozen_of_block csZ.bc _
      have csY := csZ.set3 (.slice (some ⟨g32, 0, none⟩) K.length c32)
      have ks := set_keeps B2 (w.heap.size + 2) 3 (.slice (some ⟨g32, 0, none⟩) K.length c32)
      have hDs : w.heap.size + 3 ≤ D2.heap.size := by have := lt_of_block HD2.out.1.bc; omega
      have hr64 := ((HD2.out.2.1.keeps kb2 (fun f => f)).keeps ks (by have := HD2.out.2.2.1; omega))
      have ST2 : Hid (CS w #[.int .i64 c, .slice fa F.length fc, .slice pa P.length pc, .slice ka K.length kc] c (.slice (some ⟨g64, 0, none⟩) F.length c64) (.slice none 0 0) (.slice (some ⟨g32, 0, none⟩) K.length c32) (B2.setCell ⟨w.heap.size + 2, 3, none⟩ (.slice (some ⟨g32, 0, none⟩) K.length c32)) ∧ RwM .u64 (B2.setCell ⟨w.heap.size + 2, 3, none⟩ (.slice (some ⟨g32, 0, none⟩) K.length c32)) g64 c64 F ∧ RwM .u32 (B2.setCell ⟨w.heap.size + 2, 3, none⟩ (.slice (some ⟨g32, 0, none⟩) K.length c32)) g32 c32 K ∧ (w.heap.size + 3 ≤ g64 ∧ g64 < (B2.setCell ⟨w.heap.size + 2, 3, none⟩ (.slice (some ⟨g32, 0, none⟩) K.length c32)).heap.size) ∧ w.heap.size + 3 ≤ g32 ∧ g32 < (B2.setCell ⟨w.heap.size + 2, 3, none⟩ (.slice (some ⟨g32, 0, none⟩) K.length c32)).heap.size) := ⟨csY, hr64, RwM.keeps ⟨hcap, hrow, hmark⟩ ks (by omega), ⟨HD2.out.2.2.1, Nat.lt_of_lt_of_le HD2.out.2.2.2 (Nat.le_trans kb2.size ks.size)⟩, by omega, Nat.lt_of_lt_of_le hhi ks.size⟩
      refine held_none (i := 10) (w' := B2.setCell ⟨w.heap.size + 2, 3, none⟩ (.slice (some ⟨g32, 0, none⟩) K.length c32)) (by kernel_rfl) rfl rfl rfl (by go_simp) (ks.cell (a := ⟨w.heap.size, 3, none⟩) (by show ¬ w.heap.size = w.heap.size + 2; omega) (cell_keep kb2 S0)) ?_
      refine held_end (by kernel_rfl) ?_ _
      clear ra1 ra2 na ka1 kaa ka2 rb1 rb2 nb kb1 kbb kb2 S0 zc zf csZ csY ks hrow hmark ev hr64
      generalize B2.setCell ⟨w.heap.size + 2, 3, none⟩ (.slice (some ⟨g32, 0, none⟩) K.length c32) = Y2 at *
      clear hlo hhi hcap hci hDs
      clear HD2
    all_goals
      have L0 : Hid (CL w Y2.heap.size #[.int .i64 c, .slice fa F.length fc, .slice pa P.length pc, .slice ka K.length kc] c g64 c64 g32 c32 F K P 0 (.slice none 0 0) [] Y2) := ⟨ST2.out.1, ST2.out.2.1, ST2.out.2.2.1, ST2.out.2.2.2.1, ST2.out.2.2.2.2, ⟨by have := lt_of_block ST2.out.1.bc; omega, Nat.le_refl _⟩, ⟨rfl, .inl ⟨rfl, rfl⟩⟩, rfl, Nat.zero_le _, fun j hj => by simp at hj⟩
      clear ST2
      generalize Y2.heap.size = B at *
      go_wp2_with fail
      go_loopw [4] (fun u wr => ∃ (k : Nat) (up : Value) (qs : List Value), u = .int .i64 (k : Int) ∧ k ≤ P.length ∧ Hid (CL w B #[.int .i64 c, .slice fa F.length fc, .slice pa P.length pc, .slice ka K.length kc] c g64 c64 g32 c32 F K P k up qs wr)) (fun u _ => P.length - (intOf u).toNat)
      case atStart => exact ⟨0, _, [], rfl, Nat.zero_le _, L0⟩
      case round =>
        obtain ⟨k, up, qs, rfl, hk, hh⟩ := hrel
        clear L0
        have x2 : wr.cell? ⟨w.heap.size, 2, none⟩ = some (.slice pa P.length pc) := by rw [cell_of_block hh.out.cs.bx]; rfl
        have kd : Keeps (fun _ => False) wr wr.drew := (Keeps.refl _ _).drewN 1
        have hD := hh.out.keeps kd
        obtain ⟨ub, un, uc, rfl⟩ := own_form hD.row
        by_cases hlt : k < P.length
        · have hki : (k : Int) < P.length := by omega
          obtain ⟨_, ⟨_, _, q1, q2, q3⟩, _⟩ := HA.out w (Keeps.refl _ _)
          simp only [Value.slice.injEq] at q1
          obtain ⟨rfl, -, rfl⟩ := q1
          obtain ⟨g0, off, v, rfl, cx, ia⟩ := q3 k hlt
          have q2' : P.length ≤ pc := q2
          have hkc : (k : Int) < pc := by omega
          have hg0 : g0 < w.heap.size := World.block_lt_of_cell? _ _ cx
          obtain ⟨aa, ac, rfl, -⟩ := ia.form
          have hel : (P[k]).length ≤ 2000 := HX.out.each _ (List.getElem_mem hlt)
          have CC := rcopy_any (.slice aa (P[k]).length ac) (P[k]) (by omega) wr.drew (ia.keeps hD.cs.kw)
          have HSTEP : Hid (∀ (X : World) (g cap : Nat), Keeps (fun _ => False) wr.drew X → InsAt X (.slice (some ⟨g, 0, none⟩) ((P[k]).length + 2) cap) (P[k] ++ marksC) → (P[k]).length + 2 ≤ cap → wr.drew.heap.size ≤ g → _) := fun X g cap kX hi hc hg => hD.step hlt hnp kX hi hc hg
          have S0 : (fun X : World => X.cell? ⟨w.heap.size + 2, 2, none⟩ = some (.slice ub un uc) ∧ X.cell? ⟨w.heap.size, 2, none⟩ = some (.slice (some ⟨g0, off, none⟩) P.length pc) ∧ X.cell? ⟨g0, off + k, none⟩ = some (.slice aa (P[k]).length ac)) wr.drew := ⟨by rw [cell_of_block hD.cs.bc]; rfl, by rw [cell_of_block hD.cs.bx]; rfl, cell_keep hD.cs.kw cx⟩
          have KW : Hid (Keeps (fun _ => False) w wr.drew) := hD.cs.kw
          have HB3 : Hid (w.heap.size + 3 ≤ B) := hD.lb.1
          generalize hpk : P[k]'hlt = p at *
          clear hh hD ia q2 q3 kd
          go_wp2_with fail
          refine wp_until (S := (fun X : World => X.cell? ⟨w.heap.size + 2, 2, none⟩ = some (.slice ub un uc) ∧ X.cell? ⟨w.heap.size, 2, none⟩ = some (.slice (some ⟨g0, off, none⟩) P.length pc) ∧ X.cell? ⟨g0, off + k, none⟩ = some (.slice aa p.length ac))) 11 12 rfl hmx ?_
          generalize wr.drew = Vd at *
          simp only [Array.replicate_succ, Array.replicate_zero, List.push_toArray, List.nil_append, List.cons_append]
          refine u_take (i := 0) (v := .pointer (some ⟨w.heap.size + 2, 2, none⟩)) 35 rfl rfl (by kernel_rfl) (by kernel_rfl) (by kernel_rfl) (by kernel_rfl) rfl (fun w' hw' => by obtain ⟨r0, r1, r2⟩ := hw'; go_simp) S0 ?_
          simp only [Act.put, List.setIfInBounds_toArray, List.set_cons_zero, List.set_cons_succ]
          refine u_take (i := 1) (v := .slice ub un uc) 36 rfl rfl (by kernel_rfl) (by kernel_rfl) (by kernel_rfl) (by kernel_rfl) rfl (fun w' hw' => by obtain ⟨r0, r1, r2⟩ := hw'; go_simp) S0 ?_
          simp only [Act.put, List.setIfInBounds_toArray, List.set_cons_zero, List.set_cons_succ]
          refine u_take (i := 2) (v := .pointer (some ⟨w.heap.size, 2, none⟩)) 37 rfl rfl (by kernel_rfl) (by kernel_rfl) (by kernel_rfl) (by kernel_rfl) rfl (fun w' hw' => by obtain ⟨r0, r1, r2⟩ := hw'; go_simp) S0 ?_
          simp only [Act.put, List.setIfInBounds_toArray, List.set_cons_zero, List.set_cons_succ]
          refine u_take (i := 3) (v := .slice (some ⟨g0, off, none⟩) P.length pc) 38 rfl rfl (by kernel_rfl) (by kernel_rfl) (by kernel_rfl) (by kernel_rfl) rfl (fun w' hw' => by obtain ⟨r0, r1, r2⟩ := hw'; go_simp) S0 ?_
          simp only [Act.put, List.setIfInBounds_toArray, List.set_cons_zero, List.set_cons_succ]
          refine u_take (i := 4) (v := .int .i64 (k : Int)) 39 rfl rfl (by kernel_rfl) (by kernel_rfl) (by kernel_rfl) (by kernel_rfl) rfl (fun w' hw' => by obtain ⟨r0, r1, r2⟩ := hw'; go_simp) S0 ?_
          simp only [Act.put, List.setIfInBounds_toArray, List.set_cons_zero, List.set_cons_succ]
          refine u_take (i := 5) (v := .pointer (some ⟨g0, off + k, none⟩)) 40 rfl rfl (by kernel_rfl) (by kernel_rfl) (by kernel_rfl) (by kernel_rfl) rfl (fun w' hw' => by obtain ⟨r0, r1, r2⟩ := hw'; first | (go_simp; done) | (go_simp; intro hh9; omega)) S0 ?_
          simp only [Act.put, List.setIfInBounds_toArray, List.set_cons_zero, List.set_cons_succ]
          refine u_take (i := 6) (v := .slice aa p.length ac) 41 rfl rfl (by kernel_rfl) (by kernel_rfl) (by kernel_rfl) (by kernel_rfl) rfl (fun w' hw' => by obtain ⟨r0, r1, r2⟩ := hw'; go_simp) S0 ?_
          simp only [Act.put, List.setIfInBounds_toArray, List.set_cons_zero, List.set_cons_succ]
          refine u_call (i := 7) (f := 16) (args := #[.slice aa p.length ac]) 42 (by kernel_rfl) rfl rfl rfl (by go_simp) ?_
          refine CC.mono ?_
          rintro e X ⟨⟨g, cap, rfl, hin, hcap, hg⟩, kX⟩
          obtain ⟨v', W', hrun, ⟨vb, vn, vc, rfl⟩, hx0, hy0, kB, wf, fin⟩ := HSTEP.out X g cap kX hin hcap hg
          have SX : (fun X : World => X.cell? ⟨w.heap.size + 2, 2, none⟩ = some (.slice ub un uc) ∧ X.cell? ⟨w.heap.size, 2, none⟩ = some (.slice (some ⟨g0, off, none⟩) P.length pc) ∧ X.cell? ⟨g0, off + k, none⟩ = some (.slice aa p.length ac)) X := ⟨cell_keep kX S0.1, cell_keep kX S0.2.1, cell_keep kX S0.2.2⟩
          refine ⟨_, rfl, SX, ?_⟩
          simp only [Act.put, List.setIfInBounds_toArray, List.set_cons_zero, List.set_cons_succ]
          have kXa := (Keeps.refl (fun _ => False) X).alloc (.cells #[.slice (some ⟨g, 0, none⟩) p.length cap] 42)
          refine u_val (i := 8) (v := .slice (some ⟨X.heap.size, 0, none⟩) 1 1) (w' := X.alloc (.cells #[.slice (some ⟨g, 0, none⟩) p.length cap] 42)) (some 43) (by kernel_rfl) rfl rfl rfl (by go_simp) ⟨cell_keep kXa SX.1, cell_keep kXa SX.2.1, cell_keep kXa SX.2.2⟩ ?_
          simp only [Act.put, List.setIfInBounds_toArray, List.set_cons_zero, List.set_cons_succ]
          have SW : (fun X : World => X.cell? ⟨w.heap.size + 2, 2, none⟩ = some (.slice ub un uc) ∧ X.cell? ⟨w.heap.size, 2, none⟩ = some (.slice (some ⟨g0, off, none⟩) P.length pc) ∧ X.cell? ⟨g0, off + k, none⟩ = some (.slice aa p.length ac)) W' := ⟨kB.cell (a := ⟨w.heap.size + 2, 2, none⟩) (by have := HB3.out; show ¬ B ≤ w.heap.size + 2; omega) SX.1, kB.cell (a := ⟨w.heap.size, 2, none⟩) (by have := HB3.out; show ¬ B ≤ w.heap.size; omega) SX.2.1, kB.cell (a := ⟨g0, off + k, none⟩) (by have := HB3.out; show ¬ B ≤ g0; omega) SX.2.2⟩
          refine u_val (i := 9) (v := .slice vb vn vc) (w' := W') (some 44) (by kernel_rfl) rfl rfl rfl (run_append_op rfl rfl rfl hrun) SW ?_
          simp only [Act.put, List.setIfInBounds_toArray, List.set_cons_zero, List.set_cons_succ]
          refine u_val (i := 10) (v := .pointer (some ⟨w.heap.size + 2, 2, none⟩)) (w' := W') (some 45) (by kernel_rfl) rfl rfl rfl (by go_simp) SW ?_
          simp only [Act.put, List.setIfInBounds_toArray, List.set_cons_zero, List.set_cons_succ]
          have sw1 := SW.1
          refine u_last (w' := W'.setCell ⟨w.heap.size + 2, 2, none⟩ (.slice vb vn vc)) (by kernel_rfl) rfl rfl rfl (by go_simp) (by kernel_rfl) ?_
          have FI : Hid _ := fin
          clear S0 SX SW fin hrun kB kX CC HSTEP hin sw1 wf hx0 hy0 KW
          go_wp2_with fail
          go_roundw
          · exact ⟨k + 1, _, _, by simp, by omega, FI⟩
          · simp [intOf]; omega
        · have hki : ¬ (k : Int) < P.length := by omega
          obtain rfl : k = P.length := by omega
          have S0 : (fun X : World => X.cell? ⟨w.heap.size + 2, 2, none⟩ = some (.slice ub un uc) ∧ X.cell? ⟨w.heap.size, 2, none⟩ = some (.slice pa P.length pc)) wr.drew := ⟨by rw [cell_of_block hD.cs.bc]; rfl, by rw [cell_of_block hD.cs.bx]; rfl⟩
          obtain ⟨g, cap, W', hrun, hcap, kB, csF, cpy⟩ := hD.done hnp c'
          have kG1 := (Keeps.refl (fun _ => False) wr.drew).alloc (.cells #[.int .i64 97, .int .i64 0, .int .i64 0, .int .i64 0, .int .u64 0] 45)
          have SG1 : (fun X : World => X.cell? ⟨w.heap.size + 2, 2, none⟩ = some (.slice ub un uc) ∧ X.cell? ⟨w.heap.size, 2, none⟩ = some (.slice pa P.length pc)) (wr.drew.alloc (.cells #[.int .i64 97, .int .i64 0, .int .i64 0, .int .i64 0, .int .u64 0] 45)) := ⟨cell_keep kG1 S0.1, cell_keep kG1 S0.2⟩
          have kG2 := kG1.alloc (.cells #[.slice (some ⟨wr.drew.heap.size, 0, none⟩) 1 1] 42)
          have SG2 : (fun X : World => X.cell? ⟨w.heap.size + 2, 2, none⟩ = some (.slice ub un uc) ∧ X.cell? ⟨w.heap.size, 2, none⟩ = some (.slice pa P.length pc)) ((wr.drew.alloc (.cells #[.int .i64 97, .int .i64 0, .int .i64 0, .int .i64 0, .int .u64 0] 45)).alloc (.cells #[.slice (some ⟨wr.drew.heap.size, 0, none⟩) 1 1] 42)) := ⟨cell_keep kG2 S0.1, cell_keep kG2 S0.2⟩
          have hB3 := hD.lb.1
          have SW : (fun X : World => X.cell? ⟨w.heap.size + 2, 2, none⟩ = some (.slice ub un uc) ∧ X.cell? ⟨w.heap.size, 2, none⟩ = some (.slice pa P.length pc)) W' := ⟨kB.cell (a := ⟨w.heap.size + 2, 2, none⟩) (by show ¬ B ≤ w.heap.size + 2; omega) S0.1, kB.cell (a := ⟨w.heap.size, 2, none⟩) (by show ¬ B ≤ w.heap.size; omega) S0.2⟩
          have wf : W'.frozen? ⟨w.heap.size + 2, 2, none⟩ = false := by
            have q := (kB.block _ (lt_of_block hD.cs.bc) (by omega)).trans hD.cs.bc
            exact frozen_of_block q _
          have hci : (P.length : Int) ≤ cap := by omega
          have HC : Hid (_ ∧ _) := ⟨csF, cpy⟩
          clear hh hD kd kG1 kG2 csF cpy kB hk HA HX
          go_wp2_with fail
          clear x2
          refine wp_until (S := (fun X : World => X.cell? ⟨w.heap.size + 2, 2, none⟩ = some (.slice ub un uc) ∧ X.cell? ⟨w.heap.size, 2, none⟩ = some (.slice pa P.length pc))) 11 12 rfl hmx ?_
          generalize wr.drew = Vd at *
          simp only [Array.replicate_succ, Array.replicate_zero, List.push_toArray, List.nil_append, List.cons_append]
          refine u_take (i := 0) (v := .pointer (some ⟨w.heap.size + 2, 2, none⟩)) 46 rfl rfl (by kernel_rfl) (by kernel_rfl) (by kernel_rfl) (by kernel_rfl) rfl (fun w' hw' => by obtain ⟨r0, r1⟩ := hw'; go_simp) S0 ?_
          simp only [Act.put, List.setIfInBounds_toArray, List.set_cons_zero, List.set_cons_succ]
          refine u_take (i := 1) (v := .slice ub un uc) 47 rfl rfl (by kernel_rfl) (by kernel_rfl) (by kernel_rfl) (by kernel_rfl) rfl (fun w' hw' => by obtain ⟨r0, r1⟩ := hw'; go_simp) S0 ?_
          simp only [Act.put, List.setIfInBounds_toArray, List.set_cons_zero, List.set_cons_succ]
          refine u_take (i := 2) (v := .agg #[.int .i64 97, .int .i64 0, .int .i64 0, .int .i64 0, .int .u64 0]) 48 rfl rfl (by kernel_rfl) (by kernel_rfl) (by kernel_rfl) (by kernel_rfl) rfl (fun w' hw' => by obtain ⟨r0, r1⟩ := hw'; go_simp) S0 ?_
          simp only [Act.put, List.setIfInBounds_toArray, List.set_cons_zero, List.set_cons_succ]
          refine u_take (i := 6) (v := .pointer (some ⟨w.heap.size, 2, none⟩)) 52 rfl rfl (by kernel_rfl) (by kernel_rfl) (by kernel_rfl) (by kernel_rfl) rfl (fun w' hw' => by obtain ⟨r0, r1⟩ := hw'; go_simp) S0 ?_
          simp only [Act.put, List.setIfInBounds_toArray, List.set_cons_zero, List.set_cons_succ]
          refine u_take (i := 7) (v := .slice pa P.length pc) 53 rfl rfl (by kernel_rfl) (by kernel_rfl) (by kernel_rfl) (by kernel_rfl) rfl (fun w' hw' => by obtain ⟨r0, r1⟩ := hw'; go_simp) S0 ?_
          simp only [Act.put, List.setIfInBounds_toArray, List.set_cons_zero, List.set_cons_succ]
          refine u_take (i := 8) (v := .int .i64 (P.length : Int)) 54 rfl rfl (by kernel_rfl) (by kernel_rfl) (by kernel_rfl) (by kernel_rfl) rfl (fun w' hw' => by obtain ⟨r0, r1⟩ := hw'; go_simp) S0 ?_
          simp only [Act.put, List.setIfInBounds_toArray, List.set_cons_zero, List.set_cons_succ]
          refine u_val (i := 3) (v := .slice (some ⟨Vd.heap.size, 0, none⟩) 1 1) (w' := Vd.alloc (.cells #[.int .i64 97, .int .i64 0, .int .i64 0, .int .i64 0, .int .u64 0] 45)) (some 49) (by kernel_rfl) rfl rfl rfl (by go_simp) SG1 ?_
          simp only [Act.put, List.setIfInBounds_toArray, List.set_cons_zero, List.set_cons_succ]
          refine u_val (i := 4) (v := .slice (some ⟨(Vd.alloc (.cells #[.int .i64 97, .int .i64 0, .int .i64 0, .int .i64 0, .int .u64 0] 45)).heap.size, 0, none⟩) 1 1) (w' := (Vd.alloc (.cells #[.int .i64 97, .int .i64 0, .int .i64 0, .int .i64 0, .int .u64 0] 45)).alloc (.cells #[.slice (some ⟨Vd.heap.size, 0, none⟩) 1 1] 42)) (some 50) (by kernel_rfl) rfl rfl rfl (by go_simp) SG2 ?_
          simp only [Act.put, List.setIfInBounds_toArray, List.set_cons_zero, List.set_cons_succ]
          refine u_val (i := 5) (v := .slice (some ⟨g, 0, none⟩) (P.length + 1) cap) (w' := W') (some 51) (by kernel_rfl) rfl rfl rfl (run_append_op rfl rfl rfl hrun) SW ?_
          simp only [Act.put, List.setIfInBounds_toArray, List.set_cons_zero, List.set_cons_succ]
          refine u_val (i := 9) (v := .slice (some ⟨g, 0, none⟩) P.length cap) (w' := W') (some 55) (by kernel_rfl) rfl rfl rfl (by go_simp) SW ?_
          simp only [Act.put, List.setIfInBounds_toArray, List.set_cons_zero, List.set_cons_succ]
          refine u_val (i := 10) (v := .pointer (some ⟨w.heap.size + 2, 2, none⟩)) (w' := W') (some 56) (by kernel_rfl) rfl rfl rfl (by go_simp) SW ?_
          simp only [Act.put, List.setIfInBounds_toArray, List.set_cons_zero, List.set_cons_succ]
          have sw1 := SW.1
          refine u_last (w' := W'.setCell ⟨w.heap.size + 2, 2, none⟩ (.slice (some ⟨g, 0, none⟩) P.length cap)) (by kernel_rfl) rfl rfl rfl (by go_simp) (by kernel_rfl) ?_
          generalize W'.setCell ⟨w.heap.size + 2, 2, none⟩ (.slice (some ⟨g, 0, none⟩) P.length cap) = Y3 at *
          obtain ⟨csF, cpy⟩ := HC.out
          have y0 : Y3.cell? ⟨w.heap.size + 2, 0, none⟩ = some (.int .i64 c) := by rw [cell_of_block csF.bc]; rfl
          have y1 : Y3.cell? ⟨w.heap.size + 2, 1, none⟩ = some (.slice (some ⟨g64, 0, none⟩) F.length c64) := by rw [cell_of_block csF.bc]; rfl
          have y2 : Y3.cell? ⟨w.heap.size + 2, 2, none⟩ = some (.slice (some ⟨g, 0, none⟩) P.length cap) := by rw [cell_of_block csF.bc]; rfl
          have y3 : Y3.cell? ⟨w.heap.size + 2, 3, none⟩ = some (.slice (some ⟨g32, 0, none⟩) K.length c32) := by rw [cell_of_block csF.bc]; rfl
          have BR : Hid (_ = _) := csF.br
          have hR := HPOST.out Y3 g64 c64 g cap g32 c32 csF cpy
          clear S0 SG1 SG2 SW wf hrun HC csF cpy sw1
          go_wp2_with (refine wpList_store_row' rfl 26 _ _ rfl (w.heap.size + 1) _ rfl rfl 26 _ BR.out size_scr rfl (by simp [Value.oneCell']) ?_)
          refine bodyPost_ret (scr_ret1 rfl _ _ (w.heap.size + 1) _ _ BR.out rfl rfl) rfl ?_
          exact hR
  case B1 =>
    simp only [Act.put, List.setIfInBounds_toArray, List.set_cons_zero, List.set_cons_succ]
    refine held_val (i := 2) (v := b1) (w' := B1) (some 10) (by kernel_rfl) rfl rfl rfl (run_append_op rfl rfl rfl rb1) (cell_keep kb1 S0) ?_
    simp only [Act.put, List.setIfInBounds_toArray, List.set_cons_zero, List.set_cons_succ]
    obtain ⟨g64, c64, ev, hcap, hlo, hhi, hrow, hmark⟩ := nb.last
    rw [ev] at rb2
    refine held_val (i := 4) (v := .slice (some ⟨g64, 0, none⟩) (F.length + 1) c64) (w' := B2) (some 12) (by kernel_rfl) rfl rfl rfl (run_append_op rfl rfl rfl rb2) (cell_keep kb2 S0) ?_
    simp only [Act.put, List.setIfInBounds_toArray, List.set_cons_zero, List.set_cons_succ]
    have hci : (F.length : Int) ≤ c64 := by omega
    refine held_take (i := 8) (v := .slice (some ⟨g64, 0, none⟩) F.length c64) 16 rfl rfl (by kernel_rfl) (by kernel_rfl) (by kernel_rfl) rfl (fun w' hw' => by have r0 := hw'; go_simp) (cell_keep kb2 S0) ?_
    simp only [Act.put, List.setIfInBounds_toArray, List.set_cons_zero, List.set_cons_succ]
    refine held_take (i := 9) (v := .pointer (some ⟨w.heap.size + 2, 1, none⟩)) 17 rfl rfl (by kernel_rfl) (by kernel_rfl) (by kernel_rfl) rfl (fun w' hw' => by have r0 := hw'; go_simp) (cell_keep kb2 S0) ?_
    simp only [Act.put, List.setIfInBounds_toArray, List.set_cons_zero, List.set_cons_succ]
    have csZ := HD1.out.1.keeps kb2
    have zc := cell_of_block csZ.bc 1
    simp only [List.getElem?_toArray, List.getElem?_cons_zero, List.getElem?_cons_succ] at zc
    have zf : B2.frozen? ⟨w.heap.size + 2, 1, none⟩ = false := frozen_of_block csZ.bc _
    have csY := csZ.set1 (.slice (some ⟨g64, 0, none⟩) F.length c64)
    have ks := set_keeps B2 (w.heap.size + 2) 1 (.slice (some ⟨g64, 0, none⟩) F.length c64)
    have hDs : w.heap.size + 3 ≤ D1.heap.size := by have := lt_of_block HD1.out.1.bc; omega
    have ST1 : Hid (CS w #[.int .i64 c, .slice fa F.length fc, .slice pa P.length pc, .slice ka K.length kc] c (.slice (some ⟨g64, 0, none⟩) F.length c64) (.slice none 0 0) (.slice none 0 0) (B2.setCell ⟨w.heap.size + 2, 1, none⟩ (.slice (some ⟨g64, 0, none⟩) F.length c64)) ∧ RwM .u64 (B2.setCell ⟨w.heap.size + 2, 1, none⟩ (.slice (some ⟨g64, 0, none⟩) F.length c64)) g64 c64 F ∧ w.heap.size + 3 ≤ g64 ∧ g64 < (B2.setCell ⟨w.heap.size + 2, 1, none⟩ (.slice (some ⟨g64, 0, none⟩) F.length c64)).heap.size) := ⟨csY, RwM.keeps ⟨hcap, hrow, hmark⟩ ks (by omega), by omega, Nat.lt_of_lt_of_le hhi ks.size⟩
    refine held_none (i := 10) (w' := B2.setCell ⟨w.heap.size + 2, 1, none⟩ (.slice (some ⟨g64, 0, none⟩) F.length c64)) (by kernel_rfl) rfl rfl rfl (by go_simp) (ks.cell (a := ⟨w.heap.size, 1, none⟩) (by show ¬ w.heap.size = w.heap.size + 2; omega) (cell_keep kb2 S0)) ?_
    refine held_end (by kernel_rfl) ?_ _
    clear ra1 ra2 na ka1 kaa ka2 rb1 rb2 nb kb1 kbb kb2 S0 zc zf csZ csY ks hrow hmark ev
    generalize B2.setCell ⟨w.heap.size + 2, 1, none⟩ (.slice (some ⟨g64, 0, none⟩) F.length c64) = Y1 at *
    clear hlo hhi hcap hci hDs
    clear HD1
    go_wp2_with fail
    refine wp_held_end (S := (fun X : World => X.cell? ⟨w.heap.size, 3, none⟩ = some (.slice ka K.length kc))) 11 rfl hmx ?_
    have HD2 : Hid (CS w #[.int .i64 c, .slice fa F.length fc, .slice pa P.length pc, .slice ka K.length kc] c (.slice (some ⟨g64, 0, none⟩) F.length c64) (.slice none 0 0) (.slice none 0 0) Y1.drew ∧ RwM .u64 Y1.drew g64 c64 F ∧ w.heap.size + 3 ≤ g64 ∧ g64 < Y1.drew.heap.size) := ⟨ST1.out.1.keeps ((Keeps.refl _ _).drewN 1), ST1.out.2.1, ST1.out.2.2.1, ST1.out.2.2.2⟩
    clear ST1
    generalize Y1.drew = D2 at *
    simp only [Array.replicate_succ, Array.replicate_zero, List.push_toArray, List.nil_append, List.cons_append]
    have S0 : (fun X : World => X.cell? ⟨w.heap.size, 3, none⟩ = some (.slice ka K.length kc)) D2 := by show _ = _; rw [cell_of_block HD2.out.1.bx]; rfl
    refine held_take (i := 0) (v := .pointer (some ⟨w.heap.size, 3, none⟩)) 18 rfl rfl (by kernel_rfl) (by kernel_rfl) (by kernel_rfl) rfl (fun w' hw' => by have r0 := hw'; go_simp) S0 ?_
    simp only [Act.put, List.setIfInBounds_toArray, List.set_cons_zero, List.set_cons_succ]
    refine held_take (i := 1) (v := .slice ka K.length kc) 19 rfl rfl (by kernel_rfl) (by kernel_rfl) (by kernel_rfl) rfl (fun w' hw' => by have r0 := hw'; go_simp) S0 ?_
    simp only [Act.put, List.setIfInBounds_toArray, List.set_cons_zero, List.set_cons_succ]
    refine held_take (i := 5) (v := .pointer (some ⟨w.heap.size, 3, none⟩)) 23 rfl rfl (by kernel_rfl) (by kernel_rfl) (by kernel_rfl) rfl (fun w' hw' => by have r0 := hw'; go_simp) S0 ?_
    simp only [Act.put, List.setIfInBounds_toArray, List.set_cons_zero, List.set_cons_succ]
    refine held_take (i := 6) (v := .slice ka K.length kc) 24 rfl rfl (by kernel_rfl) (by kernel_rfl) (by kernel_rfl) rfl (fun w' hw' => by have r0 := hw'; go_simp) S0 ?_
    simp only [Act.put, List.setIfInBounds_toArray, List.set_cons_zero, List.set_cons_succ]
    refine held_take (i := 7) (v := .int .i64 (K.length : Int)) 25 rfl rfl (by kernel_rfl) (by kernel_rfl) (by kernel_rfl) rfl (fun w' hw' => by have r0 := hw'; go_simp) S0 ?_
    simp only [Act.put, List.setIfInBounds_toArray, List.set_cons_zero, List.set_cons_succ]
    obtain ⟨a1, A1, a2, A2, ra1, ra2, na, ka1, kaa, ka2⟩ := copA_32 D2 ka kc K (HROW32.out D2 HD2.out.1.kw) (by omega)
    obtain ⟨b1, B1, b2, B2, rb1, rb2, nb, kb1, kbb, kb2⟩ := copB_32 D2 ka kc K (HROW32.out D2 HD2.out.1.kw) (by omega)
    refine held_val2 (i := 2) (j := 3) (vi := a1) (vj := .slice (some ⟨D2.heap.size, 0, none⟩) 1 1) (wi := A1) (wj := D2.alloc (.cells #[.int .u32 23130] 41)) (some 20) (some 21) (by kernel_rfl) rfl rfl rfl rfl rfl rfl (run_append_op rfl rfl rfl ra1) (by go_simp) (cell_keep ka1 S0) (cell_keep kbb S0) ?A3 ?B3
    case' A3 =>
      simp only [Act.put, List.setIfInBounds_toArray, List.set_cons_zero, List.set_cons_succ]
      refine held_val (i := 3) (v := .slice (some ⟨A1.heap.size, 0, none⟩) 1 1) (w' := A1.alloc (.cells #[.int .u32 23130] 41)) (some 21) (by kernel_rfl) rfl rfl rfl (by go_simp) (cell_keep kaa S0) ?_
      simp only [Act.put, List.setIfInBounds_toArray, List.set_cons_zero, List.set_cons_succ]
      obtain ⟨g32, c32, ev, hcap, hlo, hhi, hrow, hmark⟩ := na.last
      rw [ev] at ra2
      refine held_val (i := 4) (v := .slice (some ⟨g32, 0, none⟩) (K.length + 1) c32) (w' := A2) (some 22) (by kernel_rfl) rfl rfl rfl (run_append_op rfl rfl rfl ra2) (cell_keep ka2 S0) ?_
      simp only [Act.put, List.setIfInBounds_toArray, List.set_cons_zero, List.set_cons_succ]
      have hci : (K.length : Int) ≤ c32 := by omega
      refine held_take (i := 8) (v := .slice (some ⟨g32, 0, none⟩) K.length c32) 26 rfl rfl (by kernel_rfl) (by kernel_rfl) (by kernel_rfl) rfl (fun w' hw' => by have r0 := hw'; go_simp) (cell_keep ka2 S0) ?_
      simp only [Act.put, List.setIfInBounds_toArray, List.set_cons_zero, List.set_cons_succ]
      refine held_take (i := 9) (v := .pointer (some ⟨w.heap.size + 2, 3, none⟩)) 27 rfl rfl (by kernel_rfl) (by kernel_rfl) (by kernel_rfl) rfl (fun w' hw' => by have r0 := hw'; go_simp) (cell_keep ka2 S0) ?_
      simp only [Act.put, List.setIfInBounds_toArray, List.set_cons_zero, List.set_cons_succ]
      have csZ := HD2.out.1.keeps ka2
      have zc := cell_of_block csZ.bc 3
      simp only [List.getElem?_toArray, List.getElem?_cons_zero, List.getElem?_cons_succ] at zc
      have zf : A2.frozen? ⟨w.heap.size + 2, 3, none⟩ = false := frozen_of_block csZ.bc _
      have csY := csZ.set3 (.slice (some ⟨g32, 0, none⟩) K.length c32)
      have ks := set_keeps A2 (w.heap.size + 2) 3 (.slice (some ⟨g32, 0, none⟩) K.length c32)
      have hDs : w.heap.size + 3 ≤ D2.heap.size := by have := lt_of_block HD2.out.1.bc; omega
      have hr64 := ((HD2.out.2.1.keeps ka2 (fun f => f)).keeps ks (by have := HD2.out.2.2.1; omega))
      have ST2 : Hid (CS w #[.int .i64 c, .slice fa F.length fc, .slice pa P.length pc, .slice ka K.length kc] c (.slice (some ⟨g64, 0, none⟩) F.length c64) (.slice none 0 0) (.slice (some ⟨g32, 0, none⟩) K.length c32) (A2.setCell ⟨w.heap.size + 2, 3, none⟩ (.slice (some ⟨g32, 0, none⟩) K.length c32)) ∧ RwM .u64 (A2.setCell ⟨w.heap.size + 2, 3, none⟩ (.slice (some ⟨g32, 0, none⟩) K.length c32)) g64 c64 F ∧ RwM .u32 (A2.setCell ⟨w.heap.size + 2, 3, none⟩ (.slice (some ⟨g32, 0, none⟩) K.length c32)) g32 c32 K ∧ (w.heap.size + 3 ≤ g64 ∧ g64 < (A2.setCell ⟨w.heap.size + 2, 3, none⟩ (.slice (some ⟨g32, 0, none⟩) K.length c32)).heap.size) ∧ w.heap.size + 3 ≤ g32 ∧ g32 < (A2.setCell ⟨w.heap.size + 2, 3, none⟩ (.slice (some ⟨g32, 0, none⟩) K.length c32)).heap.size) := ⟨csY, hr64, RwM.keeps ⟨hcap, hrow, hmark⟩ ks (by omega), ⟨HD2.out.2.2.1, Nat.lt_of_lt_of_le HD2.out.2.2.2 (Nat.le_trans ka2.size ks.size)⟩, by omega, Nat.lt_of_lt_of_le hhi ks.size⟩
      refine held_none (i := 10) (w' := A2.setCell ⟨w.heap.size + 2, 3, none⟩ (.slice (some ⟨g32, 0, none⟩) K.length c32)) (by kernel_rfl) rfl rfl rfl (by go_simp) (ks.cell (a := ⟨w.heap.size, 3, none⟩) (by show ¬ w.heap.size = w.heap.size + 2; omega) (cell_keep ka2 S0)) ?_
      refine held_end (by kernel_rfl) ?_ _
      clear ra1 ra2 na ka1 kaa ka2 rb1 rb2 nb kb1 kbb kb2 S0 zc zf csZ csY ks hrow hmark ev hr64
      generalize A2.setCell ⟨w.heap.size + 2, 3, none⟩ (.slice (some ⟨g32, 0, none⟩) K.length c32) = Y2 at *
      clear hlo hhi hcap hci hDs
      clear HD2
    case' B3 =>
      simp only [Act.put, List.setIfInBounds_toArray, List.set_cons_zero, List.set_cons_succ]
      refine held_val (i := 2) (v := b1) (w' := B1) (some 20) (by kernel_rfl) rfl rfl rfl (run_append_op rfl rfl rfl rb1) (cell_keep kb1 S0) ?_
      simp only [Act.put, List.setIfInBounds_toArray, List.set_cons_zero, List.set_cons_succ]
      obtain ⟨g32, c32, ev, hcap, hlo, hhi, hrow, hmark⟩ := nb.last
      rw [ev] at rb2
      refine held_val (i := 4) (v := .slice (some ⟨g32, 0, none⟩) (K.length + 1) c32) (w' := B2) (some 22) (by kernel_rfl) rfl rfl rfl (run_append_op rfl rfl rfl rb2) (cell_keep kb2 S0) ?_
      simp only [Act.put, List.setIfInBounds_toArray, List.set_cons_zero, List.set_cons_succ]
      have hci : (K.length : Int) ≤ c32 := by omega
      refine held_take (i := 8) (v := .slice (some ⟨g32, 0, none⟩) K.length c32) 26 rfl rfl (by kernel_rfl) (by kernel_rfl) (by kernel_rfl) rfl (fun w' hw' => by have r0 := hw'; go_simp) (cell_keep kb2 S0) ?_
      simp only [Act.put, List.setIfInBounds_toArray, List.set_cons_zero, List.set_cons_succ]
      refine held_take (i := 9) (v := .pointer (some ⟨w.heap.size + 2, 3, none⟩)) 27 rfl rfl (by kernel_rfl) (by kernel_rfl) (by kernel_rfl) rfl (fun w' hw' => by have r0 := hw'; go_simp) (cell_keep kb2 S0) ?_
      simp only [Act.put, List.setIfInBounds_toArray, List.set_cons_zero, List.set_cons_succ]
      have csZ := HD2.out.1.keeps kb2
      have zc := cell_of_block csZ.bc 3
      simp only [List.getElem?_toArray, List.getElem?_cons_zero, List.getElem?_cons_succ] at zc
      have zf : B2.frozen? ⟨w.heap.size + 2, 3, none⟩ = false := frozen_of_block csZ.bc _
      have csY := csZ.set3 (.slice (some ⟨g32, 0, none⟩) K.length c32)
      have ks := set_keeps B2 (w.heap.size + 2) 3 (.slice (some ⟨g32, 0, none⟩) K.length c32)
      have hDs : w.heap.size + 3 ≤ D2.heap.size := by have := lt_of_block HD2.out.1.bc; omega
      have hr64 := ((HD2.out.2.1.keeps kb2 (fun f => f)).keeps ks (by have := HD2.out.2.2.1; omega))
      have ST2 : Hid (CS w #[.int .i64 c, .slice fa F.length fc, .slice pa P.length pc, .slice ka K.length kc] c (.slice (some ⟨g64, 0, none⟩) F.length c64) (.slice none 0 0) (.slice (some ⟨g32, 0, none⟩) K.length c32) (B2.setCell ⟨w.heap.size + 2, 3, none⟩ (.slice (some ⟨g32, 0, none⟩) K.length c32)) ∧ RwM .u64 (B2.setCell ⟨w.heap.size + 2, 3, none⟩ (.slice (some ⟨g32, 0, none⟩) K.length c32)) g64 c64 F ∧ RwM .u32 (B2.setCell ⟨w.heap.size + 2, 3, none⟩ (.slice (some ⟨g32, 0, none⟩) K.length c32)) g32 c32 K ∧ (w.heap.size + 3 ≤ g64 ∧ g64 < (B2.setCell ⟨w.heap.size + 2, 3, none⟩ (.slice (some ⟨g32, 0, none⟩) K.length c32)).heap.size) ∧ w.heap.size + 3 ≤ g32 ∧ g32 < (B2.setCell ⟨w.heap.size + 2, 3, none⟩ (.slice (some ⟨g32, 0, none⟩) K.length c32)).heap.size) := ⟨csY, hr64, RwM.keeps ⟨hcap, hrow, hmark⟩ ks (by omega), ⟨HD2.out.2.2.1, Nat.lt_of_lt_of_le HD2.out.2.2.2 (Nat.le_trans kb2.size ks.size)⟩, by omega, Nat.lt_of_lt_of_le hhi ks.size⟩
      refine held_none (i := 10) (w' := B2.setCell ⟨w.heap.size + 2, 3, none⟩ (.slice (some ⟨g32, 0, none⟩) K.length c32)) (by kernel_rfl) rfl rfl rfl (by go_simp) (ks.cell (a := ⟨w.heap.size, 3, none⟩) (by show ¬ w.heap.size = w.heap.size + 2; omega) (cell_keep kb2 S0)) ?_
      refine held_end (by kernel_rfl) ?_ _
      clear ra1 ra2 na ka1 kaa ka2 rb1 rb2 nb kb1 kbb kb2 S0 zc zf csZ csY ks hrow hmark ev hr64
      generalize B2.setCell ⟨w.heap.size + 2, 3, none⟩ (.slice (some ⟨g32, 0, none⟩) K.length c32) = Y2 at *
      clear hlo hhi hcap hci hDs
      clear HD2
    all_goals
      have L0 : Hid (CL w Y2.heap.size #[.int .i64 c, .slice fa F.length fc, .slice pa P.length pc, .slice ka K.length kc] c g64 c64 g32 c32 F K P 0 (.slice none 0 0) [] Y2) := ⟨ST2.out.1, ST2.out.2.1, ST2.out.2.2.1, ST2.out.2.2.2.1, ST2.out.2.2.2.2, ⟨by have := lt_of_block ST2.out.1.bc; omega, Nat.le_refl _⟩, ⟨rfl, .inl ⟨rfl, rfl⟩⟩, rfl, Nat.zero_le _, fun j hj => by simp at hj⟩
      clear ST2
      generalize Y2.heap.size = B at *
      go_wp2_with fail
      go_loopw [4] (fun u wr => ∃ (k : Nat) (up : Value) (qs : List Value), u = .int .i64 (k : Int) ∧ k ≤ P.length ∧ Hid (CL w B #[.int .i64 c, .slice fa F.length fc, .slice pa P.length pc, .slice ka K.length kc] c g64 c64 g32 c32 F K P k up qs wr)) (fun u _ => P.length - (intOf u).toNat)
      case atStart => exact ⟨0, _, [], rfl, Nat.zero_le _, L0⟩
      case round =>
        obtain ⟨k, up, qs, rfl, hk, hh⟩ := hrel
        clear L0
        have x2 : wr.cell? ⟨w.heap.size, 2, none⟩ = some (.slice pa P.length pc) := by rw [cell_of_block hh.out.cs.bx]; rfl
        have kd : Keeps (fun _ => False) wr wr.drew := (Keeps.refl _ _).drewN 1
        have hD := hh.out.keeps kd
        obtain ⟨ub, un, uc, rfl⟩ := own_form hD.row
        by_cases hlt : k < P.length
        · have hki : (k : Int) < P.length := by omega
          obtain ⟨_, ⟨_, _, q1, q2, q3⟩, _⟩ := HA.out w (Keeps.refl _ _)
          simp only [Value.slice.injEq] at q1
          obtain ⟨rfl, -, rfl⟩ := q1
          obtain ⟨g0, off, v, rfl, cx, ia⟩ := q3 k hlt
          have q2' : P.length ≤ pc := q2
          have hkc : (k : Int) < pc := by omega
          have hg0 : g0 < w.heap.size := World.block_lt_of_cell? _ _ cx
          obtain ⟨aa, ac, rfl, -⟩ := ia.form
          have hel : (P[k]).length ≤ 2000 := HX.out.each _ (List.getElem_mem hlt)
          have CC := rcopy_any (.slice aa (P[k]).length ac) (P[k]) (by omega) wr.drew (ia.keeps hD.cs.kw)
          have HSTEP : Hid (∀ (X : World) (g cap : Nat), Keeps (fun _ => False) wr.drew X → InsAt X (.slice (some ⟨g, 0, none⟩) ((P[k]).length + 2) cap) (P[k] ++ marksC) → (P[k]).length + 2 ≤ cap → wr.drew.heap.size ≤ g → _) := fun X g cap kX hi hc hg => hD.step hlt hnp kX hi hc hg
          have S0 : (fun X : World => X.cell? ⟨w.heap.size + 2, 2, none⟩ = some (.slice ub un uc) ∧ X.cell? ⟨w.heap.size, 2, none⟩ = some (.slice (some ⟨g0, off, none⟩) P.length pc) ∧ X.cell? ⟨g0, off + k, none⟩ = some (.slice aa (P[k]).length ac)) wr.drew := ⟨by rw [cell_of_block hD.cs.bc]; rfl, by rw [cell_of_block hD.cs.bx]; rfl, cell_keep hD.cs.kw cx⟩
          have KW : Hid (Keeps (fun _ => False) w wr.drew) := hD.cs.kw
          have HB3 : Hid (w.heap.size + 3 ≤ B) := hD.lb.1
          generalize hpk : P[k]'hlt = p at *
          clear hh hD ia q2 q3 kd
          go_wp2_with fail
          refine wp_until (S := (fun X : World => X.cell? ⟨w.heap.size + 2, 2, none⟩ = some (.slice ub un uc) ∧ X.cell? ⟨w.heap.size, 2, none⟩ = some (.slice (some ⟨g0, off, none⟩) P.length pc) ∧ X.cell? ⟨g0, off + k, none⟩ = some (.slice aa p.length ac))) 11 12 rfl hmx ?_
          generalize wr.drew = Vd at *
          simp only [Array.replicate_succ, Array.replicate_zero, List.push_toArray, List.nil_append, List.cons_append]
          refine u_take (i := 0) (v := .pointer (some ⟨w.heap.size + 2, 2, none⟩)) 35 rfl rfl (by kernel_rfl) (by kernel_rfl) (by kernel_rfl) (by kernel_rfl) rfl (fun w' hw' => by obtain ⟨r0, r1, r2⟩ := hw'; go_simp) S0 ?_
          simp only [Act.put, List.setIfInBounds_toArray, List.set_cons_zero, List.set_cons_succ]
          refine u_take (i := 1) (v := .slice ub un uc) 36 rfl rfl (by kernel_rfl) (by kernel_rfl) (by kernel_rfl) (by kernel_rfl) rfl (fun w' hw' => by obtain ⟨r0, r1, r2⟩ := hw'; go_simp) S0 ?_
          simp only [Act.put, List.setIfInBounds_toArray, List.set_cons_zero, List.set_cons_succ]
          refine u_take (i := 2) (v := .pointer (some ⟨w.heap.size, 2, none⟩)) 37 rfl rfl (by kernel_rfl) (by kernel_rfl) (by kernel_rfl) (by kernel_rfl) rfl (fun w' hw' => by obtain ⟨r0, r1, r2⟩ := hw'; go_simp) S0 ?_
          simp only [Act.put, List.setIfInBounds_toArray, List.set_cons_zero, List.set_cons_succ]
          refine u_take (i := 3) (v := .slice (some ⟨g0, off, none⟩) P.length pc) 38 rfl rfl (by kernel_rfl) (by kernel_rfl) (by kernel_rfl) (by kernel_rfl) rfl (fun w' hw' => by obtain ⟨r0, r1, r2⟩ := hw'; go_simp) S0 ?_
          simp only [Act.put, List.setIfInBounds_toArray, List.set_cons_zero, List.set_cons_succ]
          refine u_take (i := 4) (v := .int .i64 (k : Int)) 39 rfl rfl (by kernel_rfl) (by kernel_rfl) (by kernel_rfl) (by kernel_rfl) rfl (fun w' hw' => by obtain ⟨r0, r1, r2⟩ := hw'; go_simp) S0 ?_
          simp only [Act.put, List.setIfInBounds_toArray, List.set_cons_zero, List.set_cons_succ]
          refine u_take (i := 5) (v := .pointer (some ⟨g0, off + k, none⟩)) 40 rfl rfl (by kernel_rfl) (by kernel_rfl) (by kernel_rfl) (by kernel_rfl) rfl (fun w' hw' => by obtain ⟨r0, r1, r2⟩ := hw'; first | (go_simp; done) | (go_simp; intro hh9; omega)) S0 ?_
          simp only [Act.put, List.setIfInBounds_toArray, List.set_cons_zero, List.set_cons_succ]
          refine u_take (i := 6) (v := .slice aa p.length ac) 41 rfl rfl (by kernel_rfl) (by kernel_rfl) (by kernel_rfl) (by kernel_rfl) rfl (fun w' hw' => by obtain ⟨r0, r1, r2⟩ := hw'; go_simp) S0 ?_
          simp only [Act.put, List.setIfInBounds_toArray, List.set_cons_zero, List.set_cons_succ]
          refine u_call (i := 7) (f := 16) (args := #[.slice aa p.length ac]) 42 (by kernel_rfl) rfl rfl rfl (by go_simp) ?_
          refine CC.mono ?_
          rintro e X ⟨⟨g, cap, rfl, hin, hcap, hg⟩, kX⟩
          obtain ⟨v', W', hrun, ⟨vb, vn, vc, rfl⟩, hx0, hy0, kB, wf, fin⟩ := HSTEP.out X g cap kX hin hcap hg
          have SX : (fun X : World => X.cell? ⟨w.heap.size + 2, 2, none⟩ = some (.slice ub un uc) ∧ X.cell? ⟨w.heap.size, 2, none⟩ = some (.slice (some ⟨g0, off, none⟩) P.length pc) ∧ X.cell? ⟨g0, off + k, none⟩ = some (.slice aa p.length ac)) X := ⟨cell_keep kX S0.1, cell_keep kX S0.2.1, cell_keep kX S0.2.2⟩
          refine ⟨_, rfl, SX, ?_⟩
          simp only [Act.put, List.setIfInBounds_toArray, List.set_cons_zero, List.set_cons_succ]
          have kXa := (Keeps.refl (fun _ => False) X).alloc (.cells #[.slice (some ⟨g, 0, none⟩) p.length cap] 42)
          refine u_val (i := 8) (v := .slice (some ⟨X.heap.size, 0, none⟩) 1 1) (w' := X.alloc (.cells #[.slice (some ⟨g, 0, none⟩) p.length cap] 42)) (some 43) (by kernel_rfl) rfl rfl rfl (by go_simp) ⟨cell_keep kXa SX.1, cell_keep kXa SX.2.1, cell_keep kXa SX.2.2⟩ ?_
          simp only [Act.put, List.setIfInBounds_toArray, List.set_cons_zero, List.set_cons_succ]
          have SW : (fun X : World => X.cell? ⟨w.heap.size + 2, 2, none⟩ = some (.slice ub un uc) ∧ X.cell? ⟨w.heap.size, 2, none⟩ = some (.slice (some ⟨g0, off, none⟩) P.length pc) ∧ X.cell? ⟨g0, off + k, none⟩ = some (.slice aa p.length ac)) W' := ⟨kB.cell (a := ⟨w.heap.size + 2, 2, none⟩) (by have := HB3.out; show ¬ B ≤ w.heap.size + 2; omega) SX.1, kB.cell (a := ⟨w.heap.size, 2, none⟩) (by have := HB3.out; show ¬ B ≤ w.heap.size; omega) SX.2.1, kB.cell (a := ⟨g0, off + k, none⟩) (by have := HB3.out; show ¬ B ≤ g0; omega) SX.2.2⟩
          refine u_val (i := 9) (v := .slice vb vn vc) (w' := W') (some 44) (by kernel_rfl) rfl rfl rfl (run_append_op rfl rfl rfl hrun) SW ?_
          simp only [Act.put, List.setIfInBounds_toArray, List.set_cons_zero, List.set_cons_succ]
          refine u_val (i := 10) (v := .pointer (some ⟨w.heap.size + 2, 2, none⟩)) (w' := W') (some 45) (by kernel_rfl) rfl rfl rfl (by go_simp) SW ?_
          simp only [Act.put, List.setIfInBounds_toArray, List.set_cons_zero, List.set_cons_succ]
          have sw1 := SW.1
          refine u_last (w' := W'.setCell ⟨w.heap.size + 2, 2, none⟩ (.slice vb vn vc)) (by kernel_rfl) rfl rfl rfl (by go_simp) (by kernel_rfl) ?_
          have FI : Hid _ := fin
          clear S0 SX SW fin hrun kB kX CC HSTEP hin sw1 wf hx0 hy0 KW
          go_wp2_with fail
          go_roundw
          · exact ⟨k + 1, _, _, by simp, by omega, FI⟩
          · simp [intOf]; omega
        · have hki : ¬ (k : Int) < P.length := by omega
          obtain rfl : k = P.length := by omega
          have S0 : (fun X : World => X.cell? ⟨w.heap.size + 2, 2, none⟩ = some (.slice ub un uc) ∧ X.cell? ⟨w.heap.size, 2, none⟩ = some (.slice pa P.length pc)) wr.drew := ⟨by rw [cell_of_block hD.cs.bc]; rfl, by rw [cell_of_block hD.cs.bx]; rfl⟩
          obtain ⟨g, cap, W', hrun, hcap, kB, csF, cpy⟩ := hD.done hnp c'
          have kG1 := (Keeps.refl (fun _ => False) wr.drew).alloc (.cells #[.int .i64 97, .int .i64 0, .int .i64 0, .int .i64 0, .int .u64 0] 45)
          have SG1 : (fun X : World => X.cell? ⟨w.heap.size + 2, 2, none⟩ = some (.slice ub un uc) ∧ X.cell? ⟨w.heap.size, 2, none⟩ = some (.slice pa P.length pc)) (wr.drew.alloc (.cells #[.int .i64 97, .int .i64 0, .int .i64 0, .int .i64 0, .int .u64 0] 45)) := ⟨cell_keep kG1 S0.1, cell_keep kG1 S0.2⟩
          have kG2 := kG1.alloc (.cells #[.slice (some ⟨wr.drew.heap.size, 0, none⟩) 1 1] 42)
          have SG2 : (fun X : World => X.cell? ⟨w.heap.size + 2, 2, none⟩ = some (.slice ub un uc) ∧ X.cell? ⟨w.heap.size, 2, none⟩ = some (.slice pa P.length pc)) ((wr.drew.alloc (.cells #[.int .i64 97, .int .i64 0, .int .i64 0, .int .i64 0, .int .u64 0] 45)).alloc (.cells #[.slice (some ⟨wr.drew.heap.size, 0, none⟩) 1 1] 42)) := ⟨cell_keep kG2 S0.1, cell_keep kG2 S0.2⟩
          have hB3 := hD.lb.1
          have SW : (fun X : World => X.cell? ⟨w.heap.size + 2, 2, none⟩ = some (.slice ub un uc) ∧ X.cell? ⟨w.heap.size, 2, none⟩ = some (.slice pa P.length pc)) W' := ⟨kB.cell (a := ⟨w.heap.size + 2, 2, none⟩) (by show ¬ B ≤ w.heap.size + 2; omega) S0.1, kB.cell (a := ⟨w.heap.size, 2, none⟩) (by show ¬ B ≤ w.heap.size; omega) S0.2⟩
          have wf : W'.frozen? ⟨w.heap.size + 2, 2, none⟩ = false := by
            have q := (kB.block _ (lt_of_block hD.cs.bc) (by omega)).trans hD.cs.bc
            exact frozen_of_block q _
          have hci : (P.length : Int) ≤ cap := by omega
          have HC : Hid (_ ∧ _) := ⟨csF, cpy⟩
          clear hh hD kd kG1 kG2 csF cpy kB hk HA HX
          go_wp2_with fail
          clear x2
          refine wp_until (S := (fun X : World => X.cell? ⟨w.heap.size + 2, 2, none⟩ = some (.slice ub un uc) ∧ X.cell? ⟨w.heap.size, 2, none⟩ = some (.slice pa P.length pc))) 11 12 rfl hmx ?_
          generalize wr.drew = Vd at *
          simp only [Array.replicate_succ, Array.replicate_zero, List.push_toArray, List.nil_append, List.cons_append]
          refine u_take (i := 0) (v := .pointer (some ⟨w.heap.size + 2, 2, none⟩)) 46 rfl rfl (by kernel_rfl) (by kernel_rfl) (by kernel_rfl) (by kernel_rfl) rfl (fun w' hw' => by obtain ⟨r0, r1⟩ := hw'; go_simp) S0 ?_
          simp only [Act.put, List.setIfInBounds_toArray, List.set_cons_zero, List.set_cons_succ]
          refine u_take (i := 1) (v := .slice ub un uc) 47 rfl rfl (by kernel_rfl) (by kernel_rfl) (by kernel_rfl) (by kernel_rfl) rfl (fun w' hw' => by obtain ⟨r0, r1⟩ := hw'; go_simp) S0 ?_
          simp only [Act.put, List.setIfInBounds_toArray, List.set_cons_zero, List.set_cons_succ]
          refine u_take (i := 2) (v := .agg #[.int .i64 97, .int .i64 0, .int .i64 0, .int .i64 0, .int .u64 0]) 48 rfl rfl (by kernel_rfl) (by kernel_rfl) (by kernel_rfl) (by kernel_rfl) rfl (fun w' hw' => by obtain ⟨r0, r1⟩ := hw'; go_simp) S0 ?_
          simp only [Act.put, List.setIfInBounds_toArray, List.set_cons_zero, List.set_cons_succ]
          refine u_take (i := 6) (v := .pointer (some ⟨w.heap.size, 2, none⟩)) 52 rfl rfl (by kernel_rfl) (by kernel_rfl) (by kernel_rfl) (by kernel_rfl) rfl (fun w' hw' => by obtain ⟨r0, r1⟩ := hw'; go_simp) S0 ?_
          simp only [Act.put, List.setIfInBounds_toArray, List.set_cons_zero, List.set_cons_succ]
          refine u_take (i := 7) (v := .slice pa P.length pc) 53 rfl rfl (by kernel_rfl) (by kernel_rfl) (by kernel_rfl) (by kernel_rfl) rfl (fun w' hw' => by obtain ⟨r0, r1⟩ := hw'; go_simp) S0 ?_
          simp only [Act.put, List.setIfInBounds_toArray, List.set_cons_zero, List.set_cons_succ]
          refine u_take (i := 8) (v := .int .i64 (P.length : Int)) 54 rfl rfl (by kernel_rfl) (by kernel_rfl) (by kernel_rfl) (by kernel_rfl) rfl (fun w' hw' => by obtain ⟨r0, r1⟩ := hw'; go_simp) S0 ?_
          simp only [Act.put, List.setIfInBounds_toArray, List.set_cons_zero, List.set_cons_succ]
          refine u_val (i := 3) (v := .slice (some ⟨Vd.heap.size, 0, none⟩) 1 1) (w' := Vd.alloc (.cells #[.int .i64 97, .int .i64 0, .int .i64 0, .int .i64 0, .int .u64 0] 45)) (some 49) (by kernel_rfl) rfl rfl rfl (by go_simp) SG1 ?_
          simp only [Act.put, List.setIfInBounds_toArray, List.set_cons_zero, List.set_cons_succ]
          refine u_val (i := 4) (v := .slice (some ⟨(Vd.alloc (.cells #[.int .i64 97, .int .i64 0, .int .i64 0, .int .i64 0, .int .u64 0] 45)).heap.size, 0, none⟩) 1 1) (w' := (Vd.alloc (.cells #[.int .i64 97, .int .i64 0, .int .i64 0, .int .i64 0, .int .u64 0] 45)).alloc (.cells #[.slice (some ⟨Vd.heap.size, 0, none⟩) 1 1] 42)) (some 50) (by kernel_rfl) rfl rfl rfl (by go_simp) SG2 ?_
          simp only [Act.put, List.setIfInBounds_toArray, List.set_cons_zero, List.set_cons_succ]
          refine u_val (i := 5) (v := .slice (some ⟨g, 0, none⟩) (P.length + 1) cap) (w' := W') (some 51) (by kernel_rfl) rfl rfl rfl (run_append_op rfl rfl rfl hrun) SW ?_
          simp only [Act.put, List.setIfInBounds_toArray, List.set_cons_zero, List.set_cons_succ]
          refine u_val (i := 9) (v := .slice (some ⟨g, 0, none⟩) P.length cap) (w' := W') (some 55) (by kernel_rfl) rfl rfl rfl (by go_simp) SW ?_
          simp only [Act.put, List.setIfInBounds_toArray, List.set_cons_zero, List.set_cons_succ]
          refine u_val (i := 10) (v := .pointer (some ⟨w.heap.size + 2, 2, none⟩)) (w' := W') (some 56) (by kernel_rfl) rfl rfl rfl (by go_simp) SW ?_
          simp only [Act.put, List.setIfInBounds_toArray, List.set_cons_zero, List.set_cons_succ]
          have sw1 := SW.1
          refine u_last (w' := W'.setCell ⟨w.heap.size + 2, 2, none⟩ (.slice (some ⟨g, 0, none⟩) P.length cap)) (by kernel_rfl) rfl rfl rfl (by go_simp) (by kernel_rfl) ?_
          generalize W'.setCell ⟨w.heap.size + 2, 2, none⟩ (.slice (some ⟨g, 0, none⟩) P.length cap) = Y3 at *
          obtain ⟨csF, cpy⟩ := HC.out
          have y0 : Y3.cell? ⟨w.heap.size + 2, 0, none⟩ = some (.int .i64 c) := by rw [cell_of_block csF.bc]; rfl
          have y1 : Y3.cell? ⟨w.heap.size + 2, 1, none⟩ = some (.slice (some ⟨g64, 0, none⟩) F.length c64) := by rw [cell_of_block csF.bc]; rfl
          have y2 : Y3.cell? ⟨w.heap.size + 2, 2, none⟩ = some (.slice (some ⟨g, 0, none⟩) P.length cap) := by rw [cell_of_block csF.bc]; rfl
          have y3 : Y3.cell? ⟨w.heap.size + 2, 3, none⟩ = some (.slice (some ⟨g32, 0, none⟩) K.length c32) := by rw [cell_of_block csF.bc]; rfl
          have BR : Hid (_ = _) := csF.br
          have hR := HPOST.out Y3 g64 c64 g cap g32 c32 csF cpy
          clear S0 SG1 SG2 SW wf hrun HC csF cpy sw1
          go_wp2_with (refine wpList_store_row' rfl 26 _ _ rfl (w.heap.size + 1) _ rfl rfl 26 _ BR.out size_scr rfl (by simp [Value.oneCell']) ?_)
          refine bodyPost_ret (scr_ret1 rfl _ _ (w.heap.size + 1) _ _ BR.out rfl rfl) rfl ?_
          exact hR
end Go.Proofs.YtppejcfghlpbjaaGreatDoor
