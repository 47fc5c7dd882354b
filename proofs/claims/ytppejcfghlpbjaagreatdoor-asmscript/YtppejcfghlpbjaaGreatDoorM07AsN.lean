/-
  No statement of the seat is proved here. (Several texts in one: AsN, AsO, AsR, AsS, AsT, AsU.)
-/
import Derived.Test.YtppejcfghlpbjaaGreatDoorM06AsL
import Derived.Shelf.Strings.BuilderK
import Derived.Lib.LaidTab
import Derived.Lib.ItoaNum

/- Walk of read (package asm). No statement of the seat is proved here. -/
namespace Go.Proofs.YtppejcfghlpbjaaGreatDoor
open Go.RowKit Go.Shelf
attribute [local go_sem] Oper.semAt_some

theorem block_kept {A B : World} {row : Option Nat} {k : Nat} {c : Array Value} {t : TypeId} {fr : Nat × Nat} (h : A.heap[k]? = some (.cells c t fr)) (hg : A.grownBy B row) (hr : ∀ r, row = some r → ∃ o : Obj, A.heap[r]? = some o ∧ o.isCells = false) : B.heap[k]? = some (.cells c t fr) :=
  (hg.block k (lt_of_block h) (fun e => by
    obtain ⟨o, ho, hc⟩ := hr k e.symm
    rw [h] at ho
    cases ho
    cases hc)).trans h
theorem row_kept {A B : World} {row : Option Nat} (hg : A.grownBy B row) (hr : ∀ r, row = some r → ∃ o : Obj, A.heap[r]? = some o ∧ o.isCells = false) {base size : Nat} {e : TypeId} {v : Value} {n : Nat} {xs : List Value} (h : A.ownsRow base e size v n xs) : B.ownsRow base e size v n xs := by
  refine ⟨h.1, ?_⟩
  rcases h.2 with q | ⟨g, cap, cur, q1, q2, q3, q4⟩
  · exact .inl q
  · exact .inr ⟨g, cap, cur, q1, q2, block_kept q3 hg hr, q4⟩
theorem RdAt.grown {A B : World} {row : Option Nat} {S : Nat → Prop} {base p : Nat} {r : Rd} (h : RdAt A S base p r) (hg : A.grownBy B row) (hr : ∀ q, row = some q → p ≤ q ∧ ∃ o : Obj, A.heap[q]? = some o ∧ o.isCells = false) : RdAt B S base p r := by
  obtain ⟨m, vc, vl, vu, tag, h1, h2⟩ := h
  have hr' := fun q e => (hr q e).2
  refine ⟨m, vc, vl, vu, tag, ⟨block_kept h1.box hg hr', ⟨row_kept hg hr' h1.code.own, Nat.le_trans h1.code.base hg.size⟩, row_kept hg hr' h1.labs, row_kept hg hr' h1.uses, ?_, h1.tp, h1.tm, h1.tc, h1.tl, h1.tu, h1.wf, h1.bp, h1.bm, h1.pm⟩, h2⟩
  obtain ⟨es, cl, e1, e2⟩ := h1.map.ex
  refine ⟨⟨es, cl, (hg.block m (lt_of_block e1) (fun e => ?_)).trans e1, e2⟩, h1.map.nodup⟩
  have := (hr m e.symm).1
  have := h1.pm
  omega
theorem ownFrom_keeps {β : Type} {S : Nat → Prop} {a : World} {B : Nat} (hB : a.heap.size ≤ B) : OwnFrom B (fun (_ : β) W => Keeps S a W) :=
  fun _ _ _ _ hs hg hr => hs.grown hg (fun k e => .inl (Nat.le_trans hB (hr k e).1))

/-- What read has of the first lines. -/
def RdI (s : List UInt8) (base : Nat) (w : World) (pre : List (List UInt8)) (W : World) : Prop :=
  pre = (linesL s).take pre.length ∧ (∃ r, readR ⟨[], [], []⟩ 0 pre = (pre.length, some r) ∧ RdAt W (fun k => base + 3 ≤ k ∧ (k ≤ base + 4 ∨ base + 7 ≤ k)) base (base + 4) r ∧ r.labs.length + r.code.length + r.uses.length ≤ 3 * pre.flatten.length) ∧
    W.heap[base]? = some (.cells #[.slice none 0 0, .slice none 0 0, .map none, .slice none 0 0] 82 (0, 0)) ∧ W.heap[base + 1]? = some (.cells #[.int .i64 0] 3 (0, 0)) ∧ W.heap[base + 2]? = some (.cells #[.int .i64 0] 30 (0, 0)) ∧
    W.heap[base + 5]? = some (.cells #[.int .i64 (pre.length : Int)] 3 (0, 0)) ∧ Keeps (fun _ => False) w W ∧ base + 7 ≤ W.heap.size
theorem alloc_at {w : World} {o : Obj} {k : Nat} (h : w.heap.size = k) : (w.alloc o).heap[k]? = some o := by subst h; exact alloc_block _ _
theorem readR_snoc : ∀ (pre : List (List UInt8)) (x : List UInt8) (r0 : Rd) (n : Nat), readR r0 n (pre ++ [x]) = match readR r0 n pre with
    | (m, none) => (m, none)
    | (m, some r) => (match lineR r m (toks (bodyL x)) with
      | none => (m, none)
      | some r' => (m + 1, some r'))
  | [], x, r0, n => by
    simp only [List.nil_append, readR]
    cases lineR r0 n (toks (bodyL x)) <;> rfl
  | y :: pre, x, r0, n => by
    simp only [List.cons_append, readR]
    cases lineR r0 n (toks (bodyL y)) with
    | none => rfl
    | some r1 => exact readR_snoc pre x r1 (n + 1)
theorem readR_stop : ∀ (pre post : List (List UInt8)) (r0 : Rd) (n m : Nat), readR r0 n pre = (m, none) → readR r0 n (pre ++ post) = (m, none)
  | [], post, r0, n, m, h => by simp [readR] at h
  | y :: pre, post, r0, n, m, h => by
    simp only [List.cons_append, readR] at h ⊢
    cases hl : lineR r0 n (toks (bodyL y)) with
    | none => rw [hl] at h; exact h
    | some r1 => rw [hl] at h; exact readR_stop pre post r1 (n + 1) m h
theorem toks_len (l : List UInt8) : (toks l).length ≤ l.length := by
  by_cases h : (nextW l).1 = []
  · rw [toks_nil h]; simp
  · have h1 := nextW_len l
    have h2 := List.length_pos_iff.2 h
    have := toks_len (nextW l).2
    rw [toks_cons h, List.length_cons]
    omega
termination_by l.length
def totR (r : Rd) : Nat := r.labs.length + r.code.length + r.uses.length
theorem lineR_len (n : Nat) : ∀ (T : List (List UInt8)) (r r' : Rd), lineR r n T = some r' → totR r' ≤ totR r + T.length + 2
  | [], r, r', h => by simp [lineR] at h; subst h; omega
  | t :: T, r, r', h => by
    rw [lineR] at h
    split at h
    · cases hs : standR r t.dropLast with
      | none => rw [hs] at h; cases h
      | some r1 =>
        rw [hs] at h
        have h1 := lineR_len n T r1 r' h
        have h2 : totR r1 = totR r + 1 := by
          unfold standR at hs
          split at hs
          · rw [← Option.some.inj hs]; simp [totR]; omega
          · cases hs
        rw [List.length_cons]; omega
    · unfold insR at h
      rw [Option.map_eq_some_iff] at h
      obtain ⟨i, _, rfl⟩ := h
      unfold useR totR
      split <;> simp <;> omega
theorem linesL_flat : ∀ l : List UInt8, (linesL l).flatten = l
  | [] => rfl
  | c :: t => by
    have := linesL_flat t
    unfold linesL
    split
    · rename_i h; simp [this, h]
    · split
      · rename_i h; rw [h] at this; simp at this; subst this; rfl
      · rename_i h; rw [h] at this; simp at this; simp [this]
theorem linesL_pos : ∀ (l : List UInt8), ∀ x ∈ linesL l, 1 ≤ x.length
  | [], x, h => by simp [linesL] at h
  | c :: t, x, h => by
    unfold linesL at h
    split at h
    · rcases List.mem_cons.1 h with rfl | h
      · simp
      · exact linesL_pos t x h
    · split at h
      · simp at h; subst h; simp
      · rename_i hq
        rcases List.mem_cons.1 h with rfl | h
        · simp
        · exact linesL_pos t x (by rw [hq]; simp [h])

@[go_sem] theorem run_makeMap (w : World) : (Instr.makeMap 79 none).run Tryz.prog w = .ok (.map (some w.heap.size)) (w.alloc (.map #[] 0)) := by
  simp [Instr.makeMap, Result.andThen]
/-- read is left: the line is none. -/
def RdX (s : List UInt8) (base : Nat) (w : World) (W : World) : Prop :=
  ∃ n, readR ⟨[], [], []⟩ 0 (linesL s) = (n, none) ∧ W.heap[base]? = some (.cells #[.slice none 0 0, .slice none 0 0, .map none, .slice none 0 0] 82 (0, 0)) ∧ W.heap[base + 1]? = some (.cells #[.int .i64 (n : Int)] 3 (0, 0)) ∧ W.heap[base + 2]? = some (.cells #[.int .i64 190] 30 (0, 0)) ∧ Keeps (fun _ => False) w W
theorem RdX.grown {s : List UInt8} {base : Nat} {w A B : World} {row : Option Nat} {w1 : World} (h : RdX s base w A) (hsz : w1.heap.size = base + 7) (hg : A.grownBy B row) (hr : ∀ r, row = some r → w1.heap.size ≤ r ∧ ∃ o : Obj, A.heap[r]? = some o ∧ o.isCells = false) (hbw : w.heap.size ≤ base + 7) : RdX s base w B := by
  obtain ⟨n, h1, h2, h3, h4, h5⟩ := h
  have hr' := fun q e => (hr q e).2
  exact ⟨n, h1, block_kept h2 hg hr', block_kept h3 hg hr', block_kept h4 hg hr', h5.grown hg (fun k e => .inl (by have := (hr k e).1; omega))⟩
theorem RdI.grown {s : List UInt8} {base : Nat} {w A B : World} {pre : List (List UInt8)} {row : Option Nat} {w1 : World} (h : RdI s base w pre A) (hsz : w1.heap.size = base + 7) (hg : A.grownBy B row) (hr : ∀ r, row = some r → w1.heap.size ≤ r ∧ ∃ o : Obj, A.heap[r]? = some o ∧ o.isCells = false) (hbw : w.heap.size ≤ base + 7) : RdI s base w pre B := by
  obtain ⟨h0, ⟨r, h1, h2, h3⟩, h4, h5, h6, h7, h8, h9⟩ := h
  have hr' := fun q e => (hr q e).2
  exact ⟨h0, ⟨r, h1, h2.grown hg (fun q e => ⟨by have := (hr q e).1; omega, (hr q e).2⟩), h3⟩, block_kept h4 hg hr', block_kept h5 hg hr', block_kept h6 hg hr', block_kept h7 hg hr', h8.grown hg (fun k e => .inl (by have := (hr k e).1; omega)), Nat.le_trans h9 hg.size⟩
theorem own_cells {w : World} {base size : Nat} {e : TypeId} {v : Value} {n : Nat} {xs : List Value} (h : w.ownsRow base e size v n xs) {g : Nat} (hg : v.ownBlock = some g) : ∃ c t fr, w.heap[g]? = some (.cells c t fr) := by
  rcases h.2 with ⟨rfl, _⟩ | ⟨g', cap, cur, rfl, _, h2, _⟩
  · simp [Value.ownBlock] at hg
  · simp [Value.ownBlock] at hg
    subst hg
    exact ⟨_, _, _, h2⟩
theorem RdIs.kind {w : World} {base p m : Nat} {vc vl vu : Value} {tag : Nat → Nat} {r : Rd} (h : RdIs w base p m vc vl vu tag r) {k : Nat} (hk : ROwn p m vc vl vu k) : k = m ∨ ∃ c t fr, w.heap[k]? = some (.cells c t fr) := by
  rcases hk with e | e | e | e | e
  · subst e; exact .inr ⟨_, _, _, h.box⟩
  · exact .inl e
  · exact .inr (own_cells h.code.own e)
  · exact .inr (own_cells h.labs e)
  · exact .inr (own_cells h.uses e)
/-- A line more. -/
theorem RdI.line {s : List UInt8} (hs : s.length ≤ 268435456) {base : Nat} {w : World} (hw : Gl w) (hgb : 0 < base ∧ lays147_ren.g 1 < base) (hbw : base = w.heap.size) {pre : List (List UInt8)} {x : List UInt8} {X : World} (hI : RdI s base w pre X) (hnx : (linesL s)[pre.length]? = some x) :
    X.cell? ⟨base + 5, 0, none⟩ = some (.int .i64 (pre.length : Int)) ∧ Calls Tryz.prog 52 #[.pointer (some ⟨base + 4, 0, none⟩), .string ⟨x.toArray⟩, .int .i64 (pre.length : Int)] X fun e X2 => KeepsFrom (base + 7) X X2 ∧
      X2.heap[base]? = some (.cells #[.slice none 0 0, .slice none 0 0, .map none, .slice none 0 0] 82 (0, 0)) ∧ X2.heap[base + 1]? = some (.cells #[.int .i64 0] 3 (0, 0)) ∧ X2.heap[base + 2]? = some (.cells #[.int .i64 0] 30 (0, 0)) ∧ X2.heap[base + 5]? = some (.cells #[.int .i64 (pre.length : Int)] 3 (0, 0)) ∧ Keeps (fun _ => False) w X2 ∧ pre.length < 268435456 ∧
      ((e = .returned (.bool false) ∧ readR ⟨[], [], []⟩ 0 (linesL s) = (pre.length, none)) ∨ (e = .returned (.bool true) ∧ RdI s base w (pre ++ [x]) (X2.setCell ⟨base + 5, 0, none⟩ (.int .i64 (pre.length + 1 : Nat))))) := by
  obtain ⟨h0, ⟨r, h1, h2, h3⟩, h4, h5, h6, h7, h8, h9⟩ := hI
  obtain ⟨m, vc, vl, vu, tag, hIs, hS⟩ := h2
  have hxm : x ∈ linesL s := List.mem_of_getElem? hnx
  have hx1 := linesL_pos s x hxm
  have hpl : pre.length < (linesL s).length := (List.getElem?_eq_some_iff.1 hnx).1
  have hpx : pre ++ [x] = (linesL s).take (pre.length + 1) := by
    rw [List.take_succ_eq_append_getElem hpl, ← h0]
    rw [List.getElem?_eq_getElem hpl] at hnx
    rw [Option.some.inj hnx]
  have hsplit : (linesL s) = (pre ++ [x]) ++ (linesL s).drop (pre.length + 1) := by rw [hpx, List.take_append_drop]
  have hfl : pre.flatten.length + x.length ≤ s.length := by
    have := congrArg (fun L => (List.flatten L).length) hsplit
    simp only [List.flatten_append, List.length_append, List.flatten_cons, List.flatten_nil, List.append_nil] at this
    rw [linesL_flat] at this
    omega
  have hplen : pre.length ≤ pre.flatten.length := by
    have hall : ∀ y ∈ pre, 1 ≤ y.length := fun y hy => linesL_pos s y (by rw [h0] at hy; exact List.mem_of_mem_take hy)
    clear h0 hnx hpl hpx hsplit hfl h1 h3 h7
    induction pre with
    | nil => simp
    | cons y pre ih =>
      have h1 := hall y (by simp)
      have h2 := ih (fun z hz => hall z (by simp [hz]))
      simp at h2 ⊢
      omega
  have hLN := line_any x (by omega) pre.length X (ROwn (base + 4) m vc vl vu) base (base + 4) r (hw.keeps h8) hgb (fun q hq => ROwn.ge hIs hq) ⟨m, vc, vl, vu, tag, hIs, fun k hk => hk⟩ (by omega) (by omega) (by omega)
  have hpm := hIs.pm
  refine ⟨cell_of_block h7 0, hLN.mono ?_⟩
  rintro e X2 ⟨hLP, kX⟩
  have hout : ∀ k, k < base + 3 ∨ k = base + 5 ∨ k = base + 6 → ¬ ROwn (base + 4) m vc vl vu k := fun k hk e => by have := hS k e; omega
  have g0 := (kX.block _ (lt_of_block h4) (hout _ (by omega))).trans h4
  have g1 := (kX.block _ (lt_of_block h5) (hout _ (by omega))).trans h5
  have g2 := (kX.block _ (lt_of_block h6) (hout _ (by omega))).trans h6
  have g5 := (kX.block _ (lt_of_block h7) (hout _ (by omega))).trans h7
  have kw : Keeps (fun _ => False) w X2 := h8.transB kX (fun q hq e => by have := (hS q e).1; omega)
  refine ⟨⟨kX.size, fun k o hk ho hc => ?_⟩, g0, g1, g2, g5, kw, by omega, ?_⟩
  · refine (kX.block k (lt_of_block ho) (fun e => ?_)).trans ho
    rcases hIs.kind e with q | ⟨c, t, fr, q⟩
    · omega
    · rw [q] at ho; cases ho; cases hc
  · have hrs := readR_snoc pre x ⟨[], [], []⟩ 0
    rw [h1] at hrs
    dsimp only at hrs
    unfold LnPost at hLP
    cases hq : lineR r pre.length (toks (bodyL x)) with
    | none =>
      rw [hq] at hLP hrs
      refine .inl ⟨hLP, ?_⟩
      rw [hsplit]
      exact readR_stop _ _ _ _ _ hrs
    | some r' =>
      rw [hq] at hLP hrs
      obtain ⟨he, hrd⟩ := hLP
      have hlen := lineR_len pre.length _ r r' hq
      have htl := toks_len (bodyL x)
      have hbl := bodyL_len x
      have ks : Keeps (fun k => k = base + 5) X2 (X2.setCell ⟨base + 5, 0, none⟩ (.int .i64 (pre.length + 1 : Nat))) := (Keeps.refl (fun k => k = base + 5) X2).setCell (p := ⟨base + 5, 0, none⟩) (.inr rfl) _
      refine .inr ⟨he, ?_, ⟨r', ?_, ?_, ?_⟩, ?_, ?_, ?_, ?_, ?_, ?_⟩
      · rw [List.length_append]; exact hpx
      · rw [hrs, List.length_append]; rfl
      · refine (hrd.mono (T := fun k => base + 3 ≤ k ∧ (k ≤ base + 4 ∨ base + 7 ≤ k)) (fun k hk => ?_)).keeps ks (fun k hk e => by omega)
        rcases hk with hk | hk
        · exact hS k hk
        · omega
      · unfold totR at hlen
        simp only [List.flatten_append, List.length_append, List.flatten_cons, List.flatten_nil, List.append_nil]
        omega
      · exact (ks.block _ (lt_of_block g0) (by omega)).trans g0
      · exact (ks.block _ (lt_of_block g1) (by omega)).trans g1
      · exact (ks.block _ (lt_of_block g2) (by omega)).trans g2
      · have := block_set g5 0 (.int .i64 (pre.length + 1 : Nat))
        rw [List.length_append]
        exact this
      · exact kw.transB ks (fun q hq e => by omega)
      · have := kX.size; have := ks.size; omega
/-- A whole struct is stored, in a region that leaves its order open. -/
theorem run_store_op {P : Program} {o : Oper} {a : Act} {w : World} {x y : Operand} {ty : TypeId} (ho : o.op = .store ty x y) (g : Nat) (cells : Array Value) (hx : a.eval x = .pointer (some ⟨g, 0, none⟩)) (hy : a.eval y = .agg cells) (t : TypeId) (old : Array Value)
    (hg : w.heap[g]? = some (.cells old t (0, 0))) (hi : (P.info? ty).map (·.size) = some cells.size) (hold : old.size = cells.size) (h1 : cells.all (·.oneCell') = true) : (execOp a.eval o).run P w = .ok .skip (w.setRow g cells) := by
  unfold execOp
  simp only [ho, hx, hy, Instr.storeAt, Instr.sureAddr, Sem.run_bind, Sem.run_pure, Result.andThen_ok, run_storeVar_row w g t ty old cells hg hi hold h1]
theorem lineR_uses (n : Nat) : ∀ (T : List (List UInt8)) (r r' : Rd), lineR r n T = some r' → (∀ u ∈ r.uses, u.2.1 < r.code.length ∧ u.2.2 ≤ n) → ∀ u ∈ r'.uses, u.2.1 < r'.code.length ∧ u.2.2 ≤ n
  | [], r, r', h, hu => by simp [lineR] at h; subst h; exact hu
  | t :: T, r, r', h, hu => by
    rw [lineR] at h
    split at h
    · cases hs : standR r t.dropLast with
      | none => rw [hs] at h; cases h
      | some r1 =>
        rw [hs] at h
        refine lineR_uses n T r1 r' h ?_
        unfold standR at hs
        split at hs
        · rw [← Option.some.inj hs]; exact hu
        · cases hs
    · unfold insR at h
      rw [Option.map_eq_some_iff] at h
      obtain ⟨i, _, rfl⟩ := h
      intro u hq
      dsimp only at hq ⊢
      rw [List.length_append]
      unfold useR at hq
      split at hq
      · rcases List.mem_append.1 hq with hq | hq
        · have := hu u hq; simp; omega
        · simp only [List.mem_singleton] at hq; subst hq; simp
      · have := hu u hq; simp; omega
theorem readR_uses : ∀ (L : List (List UInt8)) (r0 r : Rd) (n m : Nat), readR r0 n L = (m, some r) → (∀ u ∈ r0.uses, u.2.1 < r0.code.length ∧ u.2.2 ≤ n) → (∀ u ∈ r.uses, u.2.1 < r.code.length ∧ u.2.2 ≤ m) ∧ n ≤ m
  | [], r0, r, n, m, h, hu => by
    simp [readR] at h; obtain ⟨rfl, rfl⟩ := h; exact ⟨hu, Nat.le_refl _⟩
  | l :: L, r0, r, n, m, h, hu => by
    rw [readR] at h
    cases hl : lineR r0 n (toks (bodyL l)) with
    | none => rw [hl] at h; simp at h
    | some r1 =>
      rw [hl] at h
      obtain ⟨q1, q2⟩ := readR_uses L r1 r (n + 1) m h (fun u hq => by have := lineR_uses n _ r0 r1 hl hu u hq; omega)
      exact ⟨q1, by omega⟩
theorem insV_set : ∀ (L : List I5) (k : Nat), k < L.length → ∀ p : Nat, insV (setN L k p) = (insV L).set (k * 5 + 4) (.int .u64 (p : Int))
  | i :: L, 0, _, p => by simp [setN, insV]
  | i :: L, k + 1, hk, p => by
    have ih := insV_set L k (by simpa using hk) p
    have e : insV (i :: L) = i.cells.toList ++ insV L := rfl
    have e2 : insV (setN (i :: L) (k + 1) p) = i.cells.toList ++ insV (setN L k p) := rfl
    rw [e, e2, ih, List.set_append_right _ _ (by simp; omega)]
    congr 2
    simp; omega
theorem setN_len (L : List I5) (k p : Nat) : (setN L k p).length = L.length := by simp [setN]
theorem Irs.setN {w : World} {base : Nat} {v : Value} {L : List I5} (h : Irs w base v L) (k : Nat) (hk : k < L.length) (p : Nat) :
    ∃ g cap x, v = .slice (some ⟨g, 0, none⟩) L.length cap ∧ v.ownBlock = some g ∧ w.cell? ⟨g, k * 5 + 4, none⟩ = some x ∧ w.frozen? ⟨g, k * 5 + 4, none⟩ = false ∧ Irs (w.setCell ⟨g, k * 5 + 4, none⟩ (.int .u64 (p : Int))) base v (setN L k p) := by
  rcases h.own.2 with ⟨_, h2⟩ | ⟨g, cap, cur, rfl, h1, h2, h3, h4, h5, h6⟩
  · omega
  · have hlt : k * 5 + 4 < cur.size := by rw [h5]; omega
    refine ⟨g, cap, _, rfl, rfl, (cell_of_block h2 _).trans (Array.getElem?_eq_getElem hlt), frozen_of_block h2 _, ⟨⟨?_, .inr ⟨g, cap, _, ?_, h1, block_set h2 _ _, ?_, h4, ?_, ?_⟩⟩, ?_⟩⟩
    · rw [insV_len]
    · rw [setN_len]
    · rw [setN_len]; exact h3
    · rw [Array.size_setIfInBounds]; exact h5
    · rw [insV_set L k hk p, ← h6, setN_len, Array.toList_setIfInBounds, List.take_set]
    · simpa using h.base
theorem useV_at : ∀ (L : List (List UInt8 × Nat × Nat)) (k : Nat) (u : List UInt8 × Nat × Nat), L[k]? = some u → (useV L)[k * 3]? = some (keyV u.1) ∧ (useV L)[k * 3 + 1]? = some (.int .i64 (u.2.1 : Int)) ∧ (useV L)[k * 3 + 2]? = some (.int .i64 (u.2.2 : Int))
  | [], k, u, h => by simp at h
  | x :: L, 0, u, h => by simp at h; subst h; exact ⟨rfl, rfl, rfl⟩
  | x :: L, k + 1, u, h => by
    obtain ⟨h1, h2, h3⟩ := useV_at L k u (by simpa using h)
    have e : useV (x :: L) = [keyV x.1, .int .i64 (x.2.1 : Int), .int .i64 (x.2.2 : Int)] ++ useV L := rfl
    rw [e]
    refine ⟨?_, ?_, ?_⟩
    · rw [List.getElem?_append_right (by simp; omega), show (k + 1) * 3 - _ = k * 3 by simp; omega]; exact h1
    · rw [List.getElem?_append_right (by simp; omega), show (k + 1) * 3 + 1 - _ = k * 3 + 1 by simp; omega]; exact h2
    · rw [List.getElem?_append_right (by simp; omega), show (k + 1) * 3 + 2 - _ = k * 3 + 2 by simp; omega]; exact h3
/-- While labels are put in the place of targets. -/
structure UsI (base D : Nat) (w : World) (m : Nat) (vc vl vu : Value) (tag : Nat → Nat) (r : Rd) (n k : Nat) (code' : List I5) (W : World) : Prop where
  is : RdIs W base (base + 4) m vc vl vu tag { r with code := code' }
  b0 : W.heap[base]? = some (.cells #[.slice none 0 0, .slice none 0 0, .map none, .slice none 0 0] 82 (0, 0))
  b1 : W.heap[base + 1]? = some (.cells #[.int .i64 0] 3 (0, 0))
  b2 : W.heap[base + 2]? = some (.cells #[.int .i64 0] 30 (0, 0))
  b5 : W.heap[base + 5]? = some (.cells #[.int .i64 (n : Int)] 3 (0, 0))
  kw : Keeps (fun _ => False) w W
  df : W.heap[D]? = some (.deferred (some []))
  len : code'.length = r.code.length
  res : resR r.labs code' (r.uses.drop k) = resR r.labs r.code r.uses
theorem UsI.keeps {base D : Nat} {w : World} {m : Nat} {vc vl vu : Value} {tag : Nat → Nat} {r : Rd} {n k : Nat} {code' : List I5} {W W' : World} (h : UsI base D w m vc vl vu tag r n k code' W) (kk : Keeps (fun _ => False) W W') : UsI base D w m vc vl vu tag r n k code' W' :=
  ⟨h.is.keeps kk (fun _ _ f => f), (kk.block _ (lt_of_block h.b0) (fun f => f)).trans h.b0, (kk.block _ (lt_of_block h.b1) (fun f => f)).trans h.b1, (kk.block _ (lt_of_block h.b2) (fun f => f)).trans h.b2, (kk.block _ (lt_of_block h.b5) (fun f => f)).trans h.b5, h.kw.trans kk, (kk.block _ (lt_of_block h.df) (fun f => f)).trans h.df, h.len, h.res⟩
theorem setN_wf {L : List I5} {k p : Nat} (h : ∀ i ∈ L, i.wf) (hp : p < 18446744073709551616) : ∀ i ∈ setN L k p, i.wf := by
  intro i hi
  obtain ⟨j, hj, rfl⟩ := List.getElem_of_mem hi
  unfold setN at hj ⊢
  rw [List.getElem_modify]
  have hq := h (L[j]'(by simpa using hj)) (List.getElem_mem _)
  split
  · exact ⟨hq.1, hq.2.1, hq.2.2.1, hq.2.2.2.1, by simp, by simp; omega⟩
  · exact hq
theorem UsI.put {base D : Nat} {w : World} {m : Nat} {vc vl vu : Value} {tag : Nat → Nat} {r : Rd} {n k : Nat} {code' : List I5} {W : World} (h : UsI base D w m vc vl vu tag r n k code' W) (hbw : base = w.heap.size) (hvc : ∀ g, vc.ownBlock = some g → base + 7 ≤ g) {u : List UInt8 × Nat × Nat} (hu : r.uses[k]? = some u) (hat : u.2.1 < r.code.length) {p : Nat} (hp : r.labs.lookup u.1 = some p) (hpb : p < 18446744073709551616) :
    ∃ g cap x, vc = .slice (some ⟨g, 0, none⟩) r.code.length cap ∧ W.cell? ⟨g, u.2.1 * 5 + 4, none⟩ = some x ∧ W.frozen? ⟨g, u.2.1 * 5 + 4, none⟩ = false ∧ UsI base D w m vc vl vu tag r n (k + 1) (setN code' u.2.1 p) (W.setCell ⟨g, u.2.1 * 5 + 4, none⟩ (.int .u64 (p : Int))) := by
  obtain ⟨g, cap, x, h1, h2, h3, h4, h5⟩ := h.is.code.setN u.2.1 (by show u.2.1 < code'.length; rw [h.len]; exact hat) p
  have hg7 := hvc g h2
  obtain ⟨c, t, fr, hgc⟩ := own_cells h.is.code.own h2
  have ks : Keeps (fun k => k = g) W (W.setCell ⟨g, u.2.1 * 5 + 4, none⟩ (.int .u64 (p : Int))) := (Keeps.refl (fun k => k = g) W).setCell (p := ⟨g, u.2.1 * 5 + 4, none⟩) (.inr rfl) _
  have hDg : D ≠ g := fun e => by have := h.df; rw [e, hgc] at this; cases this
  have hne : ∀ q, (q = base + 4 ∨ q = m ∨ vl.ownBlock = some q ∨ vu.ownBlock = some q) → q ≠ g := fun q hq e => by
    subst e
    have a := h.is.tc _ h2
    rcases hq with e | e | e | e
    · rw [e, h.is.tp] at a; cases a
    · rw [e, h.is.tm] at a; cases a
    · rw [h.is.tl _ e] at a; cases a
    · rw [h.is.tu _ e] at a; cases a
  refine ⟨g, cap, x, by rw [h1]; show _ = Value.slice _ r.code.length _; rw [← h.len], h3, h4, ⟨⟨?_, h5, own_keeps h.is.labs ks (fun q e => hne q (.inr (.inr (.inl e)))), own_keeps h.is.uses ks (fun q e => hne q (.inr (.inr (.inr e)))), h.is.map.keeps ks (hne m (.inr (.inl rfl))), h.is.tp, h.is.tm, h.is.tc, h.is.tl, h.is.tu, setN_wf h.is.wf hpb, h.is.bp, h.is.bm, h.is.pm⟩, ?_, ?_, ?_, ?_, h.kw.transB ks (fun q hq e => by omega), (ks.block D (lt_of_block h.df) hDg).trans h.df, by rw [setN_len]; exact h.len, ?_⟩⟩
  · exact (ks.block _ (lt_of_block h.is.box) (hne _ (.inl rfl))).trans h.is.box
  · exact (ks.block _ (lt_of_block h.b0) (by omega)).trans h.b0
  · exact (ks.block _ (lt_of_block h.b1) (by omega)).trans h.b1
  · exact (ks.block _ (lt_of_block h.b2) (by omega)).trans h.b2
  · exact (ks.block _ (lt_of_block h.b5) (by omega)).trans h.b5
  · rw [← h.res]
    have hk := (List.getElem?_eq_some_iff.1 hu)
    rw [List.drop_eq_getElem_cons hk.1, hk.2]
    obtain ⟨a, b, c⟩ := u
    rw [resR]
    dsimp only at hp ⊢
    rw [hp]
/-- What read's result cells hold. -/
theorem res_read {tmps : Array Value} {W : World} {b : Nat} {v0 v1 v2 v3 : Value} {n e : Int} (h2 : tmps[2]? = some (.pointer (some ⟨b, 0, none⟩))) (h3 : tmps[3]? = some (.pointer (some ⟨b + 1, 0, none⟩))) (h4 : tmps[4]? = some (.pointer (some ⟨b + 2, 0, none⟩)))
    (d0 : W.heap[b]? = some (.cells #[v0, v1, v2, v3] 82 (0, 0))) (d1 : W.heap[b + 1]? = some (.cells #[.int .i64 n] 3 (0, 0))) (d2 : W.heap[b + 2]? = some (.cells #[.int .i64 e] 30 (0, 0))) :
    (results Tryz.f31 tmps).run Tryz.prog W = .ok (.tuple #[.agg #[v0, v1, v2, v3], .int .i64 n, .int .i64 e]) W := by
  have c1 : W.cell? ⟨b + 1, 0, none⟩ = some (.int .i64 n) := cell_of_block d1 0
  have c2 : W.cell? ⟨b + 2, 0, none⟩ = some (.int .i64 e) := cell_of_block d2 0
  have a0 : W.cell? ⟨b, 0, none⟩ = some v0 := cell_of_block d0 0
  have a1 : W.cell? ⟨b, 1, none⟩ = some v1 := cell_of_block d0 1
  have a2 : W.cell? ⟨b, 2, none⟩ = some v2 := cell_of_block d0 2
  have a3 : W.cell? ⟨b, 3, none⟩ = some v3 := cell_of_block d0 3
  simp [results, Tryz.f31, go_sem, h2, h3, h4, a0, a1, a2, a3, c1, c2]
theorem lookup_in : ∀ (L : List (List UInt8 × Nat)) (x : List UInt8) (p : Nat), L.lookup x = some p → (x, p) ∈ L
  | [], x, p, h => by simp at h
  | (a, b) :: L, x, p, h => by
    rw [List.lookup] at h
    split at h
    · rename_i hx
      simp only [beq_iff_eq] at hx
      subst hx
      simp only [Option.some.injEq] at h
      subst h
      simp
    · have := lookup_in L x p h; simp [this]
theorem lineR_labs (n : Nat) : ∀ (T : List (List UInt8)) (r r' : Rd), lineR r n T = some r' → (∀ q ∈ r.labs, q.2 ≤ r.code.length) → ∀ q ∈ r'.labs, q.2 ≤ r'.code.length
  | [], r, r', h, hu => by simp [lineR] at h; subst h; exact hu
  | t :: T, r, r', h, hu => by
    rw [lineR] at h
    split at h
    · cases hs : standR r t.dropLast with
      | none => rw [hs] at h; cases h
      | some r1 =>
        rw [hs] at h
        refine lineR_labs n T r1 r' h ?_
        unfold standR at hs
        split at hs
        · rw [← Option.some.inj hs]
          intro q hq
          rcases List.mem_append.1 hq with hq | hq
          · exact hu q hq
          · simp only [List.mem_singleton] at hq; subst hq; exact Nat.le_refl _
        · cases hs
    · unfold insR at h
      rw [Option.map_eq_some_iff] at h
      obtain ⟨i, _, rfl⟩ := h
      intro q hq
      dsimp only at hq ⊢
      rw [List.length_append]
      have := hu q hq
      omega
theorem readR_labs : ∀ (L : List (List UInt8)) (r0 r : Rd) (n m : Nat), readR r0 n L = (m, some r) → (∀ q ∈ r0.labs, q.2 ≤ r0.code.length) → ∀ q ∈ r.labs, q.2 ≤ r.code.length
  | [], r0, r, n, m, h, hu => by
    simp [readR] at h; obtain ⟨rfl, rfl⟩ := h; exact hu
  | l :: L, r0, r, n, m, h, hu => by
    rw [readR] at h
    cases hl : lineR r0 n (toks (bodyL l)) with
    | none => rw [hl] at h; simp at h
    | some r1 =>
      rw [hl] at h
      exact readR_labs L r1 r (n + 1) m h (lineR_labs n _ r0 r1 hl hu)
theorem linesL_len : ∀ l : List UInt8, (linesL l).length ≤ l.length
  | [] => by simp [linesL]
  | c :: t => by
    have := linesL_len t
    unfold linesL
    split
    · simp; omega
    · split
      · simp
      · rename_i h; rw [h] at this; simp at this ⊢; omega
/-- The three stores with which read ends. -/
structure Three (A : World) (base : Nat) (Z : Array Value) (n e : Int) (W1 W2 W3 : World) : Prop where
  e1 : A.setRow base Z = W1
  e2 : W1.setCell ⟨base + 1, 0, none⟩ (.int .i64 n) = W2
  e3 : W2.setCell ⟨base + 2, 0, none⟩ (.int .i64 e) = W3
  c1 : ∃ x, W1.cell? ⟨base + 1, 0, none⟩ = some x
  f1 : W1.frozen? ⟨base + 1, 0, none⟩ = false
  c2 : ∃ x, W2.cell? ⟨base + 2, 0, none⟩ = some x
  f2 : W2.frozen? ⟨base + 2, 0, none⟩ = false
  b0 : W3.heap[base]? = some (.cells Z 82 (0, 0))
  b1 : W3.heap[base + 1]? = some (.cells #[.int .i64 n] 3 (0, 0))
  b2 : W3.heap[base + 2]? = some (.cells #[.int .i64 e] 30 (0, 0))
  k1 : Keeps (fun k => base ≤ k ∧ k ≤ base + 2) A W1
  k2 : Keeps (fun k => base ≤ k ∧ k ≤ base + 2) A W2
  k3 : Keeps (fun k => base ≤ k ∧ k ≤ base + 2) A W3
theorem three {A : World} {base : Nat} {Y : Array Value} {a b : Int} (g0 : A.heap[base]? = some (.cells Y 82 (0, 0))) (g1 : A.heap[base + 1]? = some (.cells #[.int .i64 a] 3 (0, 0))) (g2 : A.heap[base + 2]? = some (.cells #[.int .i64 b] 30 (0, 0))) (Z : Array Value) (n e : Int) :
    ∃ W1 W2 W3, Three A base Z n e W1 W2 W3 := by
  have qo : ∀ k, k ≠ base → (A.setRow base Z).heap[k]? = A.heap[k]? := fun k hk => by simp [World.setRow, Array.getElem?_modify, Ne.symm hk]
  have q1 : (A.setRow base Z).heap[base + 1]? = some (.cells #[.int .i64 a] 3 (0, 0)) := (qo _ (by omega)).trans g1
  have q2 : (A.setRow base Z).heap[base + 2]? = some (.cells #[.int .i64 b] 30 (0, 0)) := (qo _ (by omega)).trans g2
  have q2b : ((A.setRow base Z).setCell ⟨base + 1, 0, none⟩ (.int .i64 n)).heap[base + 2]? = some (.cells #[.int .i64 b] 30 (0, 0)) := (Below.heap_setCell _ _ _ _ (by show base + 2 ≠ base + 1; omega)).trans q2
  have k1 : Keeps (fun k => base ≤ k ∧ k ≤ base + 2) A (A.setRow base Z) := ⟨rfl, rfl, rfl, by simp [World.setRow], fun k _ hs => qo k (fun e => hs (by omega))⟩
  have k2 := k1.setCell (p := ⟨base + 1, 0, none⟩) (.inr ⟨by show base ≤ base + 1; omega, by show base + 1 ≤ base + 2; omega⟩) (.int .i64 n)
  have k3 := k2.setCell (p := ⟨base + 2, 0, none⟩) (.inr ⟨by show base ≤ base + 2; omega, Nat.le_refl _⟩) (.int .i64 e)
  refine ⟨_, _, _, rfl, rfl, rfl, ⟨_, cell_of_block q1 0⟩, frozen_of_block q1 0, ⟨_, cell_of_block q2b 0⟩, frozen_of_block q2b 0, ?_, ?_, block_set q2b 0 _, k1, k2, k3⟩
  · exact (Below.heap_setCell _ _ _ _ (by show base ≠ base + 2; omega)).trans ((Below.heap_setCell _ _ _ _ (by show base ≠ base + 1; omega)).trans (setRow_heap _ _ _ _ _ _ g0))
  · exact (Below.heap_setCell _ _ _ _ (by show base + 1 ≠ base + 2; omega)).trans (block_set q1 0 _)
/-- What read answers. -/
def RdPost (s : List UInt8) (w : World) (e : Ending) (w' : World) : Prop := match readT s with
  | (n, some (code, labs)) => ∃ vc vl m ub un uc, e = .returned (.tuple #[.agg #[vc, vl, .map (some m), .slice ub un uc], .int .i64 (n : Int), .int .i64 0]) ∧ Irs w' w.heap.size vc code ∧ w'.ownsRow w.heap.size 157 2 vl labs.length (labV labs) ∧ (∀ g, vc.ownBlock = some g → vl.ownBlock ≠ some g) ∧ (∀ i ∈ code, i.wf)
  | (n, none) => e = .returned (.tuple #[.agg #[.slice none 0 0, .slice none 0 0, .map none, .slice none 0 0], .int .i64 (n : Int), .int .i64 190])

set_option maxRecDepth 100000 in
set_option maxHeartbeats 8000000 in
theorem read_any (s : List UInt8) (hs : s.length ≤ 268435456) (w : World) (hw : Gl w) : Calls Tryz.prog 31 #[.string ⟨s.toArray⟩] w fun e w' => RdPost s w e w' ∧ Keeps (fun _ => False) w w' := by
  have hmx : Tryz.prog.follows .mixedOrders = true := by kernel_rfl
  refine (callsIn_wide (n := 3)).1 ?_
  refine callsIn_of_wp_marks Tryz.func31 rfl trivial ?_ rfl
  simp only [Tryz.ntmps31, List.size_toArray, List.length_cons, List.length_nil, Nat.reduceAdd, Nat.reduceSub, Array.replicate_succ, Array.replicate_zero, List.push_toArray, List.append_toArray, List.nil_append, List.cons_append]
  gi_wp2_with fail
  refine ⟨trivial, (callsIn_wide.2 (lines_any s _)).mono ?_⟩
  rintro e w1 ⟨rfl, hw1⟩
  have hsz : w1.heap.size = w.heap.size + 7 := by rw [hw1]; simp
  have kA : Keeps (fun _ => False) w w1 := by rw [hw1]; exact (((((((Keeps.refl _ w).alloc _).alloc _).alloc _).alloc _).alloc _).alloc _).alloc _
  have b6 : w1.heap[w.heap.size + 6]? = some (.cells #[.string ⟨s.toArray⟩] 9 (0, 0)) := by rw [hw1]; exact alloc_at (by simp)
  have b5 : w1.heap[w.heap.size + 5]? = some (.cells #[.int .i64 0] 3 (0, 0)) := by rw [hw1]; exact alloc_old (alloc_at (by simp)) _
  have b4 : w1.heap[w.heap.size + 4]? = some (.cells #[.slice none 0 0, .slice none 0 0, .map (some (w.heap.size + 3)), .slice none 0 0] 82 (0, 0)) := by rw [hw1]; exact alloc_old (alloc_old (alloc_at (by simp)) _) _
  have b3 : w1.heap[w.heap.size + 3]? = some (.map #[] 0) := by rw [hw1]; exact alloc_old (alloc_old (alloc_old (alloc_at (by simp)) _) _) _
  have b2 : w1.heap[w.heap.size + 2]? = some (.cells #[.int .i64 0] 30 (0, 0)) := by rw [hw1]; exact alloc_old (alloc_old (alloc_old (alloc_old (alloc_at (by simp)) _) _) _) _
  have b1 : w1.heap[w.heap.size + 1]? = some (.cells #[.int .i64 0] 3 (0, 0)) := by rw [hw1]; exact alloc_old (alloc_old (alloc_old (alloc_old (alloc_old (alloc_at (by simp)) _) _) _) _) _
  have b0 : w1.heap[w.heap.size]? = some (.cells #[.slice none 0 0, .slice none 0 0, .map none, .slice none 0 0] 82 (0, 0)) := by rw [hw1]; exact alloc_old (alloc_old (alloc_old (alloc_old (alloc_old (alloc_old (alloc_at (by simp)) _) _) _) _) _) _
  have hgb : 0 < w.heap.size ∧ lays147_ren.g 1 < w.heap.size := by
    obtain ⟨m, hm⟩ := hw.max
    exact ⟨hw.nms.lt, World.block_lt_of_cell? _ _ hm⟩
  obtain ⟨base, hbase⟩ : ∃ base, base = w.heap.size := ⟨_, rfl⟩
  have hI0 : RdI s base w [] w1 := by
    refine ⟨by simp, ⟨⟨[], [], []⟩, rfl, ⟨base + 3, .slice none 0 0, .slice none 0 0, .slice none 0 0, fun k => if k = base + 3 then 1 else 0, ⟨by rw [hbase]; exact b4, ⟨⟨rfl, .inl ⟨rfl, rfl⟩⟩, by omega⟩, ⟨rfl, .inl ⟨rfl, rfl⟩⟩, ⟨rfl, .inl ⟨rfl, rfl⟩⟩, ⟨⟨#[], 0, by rw [hbase]; exact b3, rfl⟩, by simp⟩, by simp, by simp, fun g e => by simp [Value.ownBlock] at e, fun g e => by simp [Value.ownBlock] at e, fun g e => by simp [Value.ownBlock] at e, by simp, by omega, by omega, rfl⟩, fun k hk => ?_⟩, by simp⟩, by rw [hbase]; exact b0, by rw [hbase]; exact b1, by rw [hbase]; exact b2, by rw [hbase]; exact b5, kA, by omega⟩
    rcases hk with e | e | e | e | e
    · omega
    · omega
    · simp [Value.ownBlock] at e
    · simp [Value.ownBlock] at e
    · simp [Value.ownBlock] at e
  gi_wp2_with fail
  rw [← hw1]
  clear hw1 b0 b1 b2 b3 b4 b5 kA
  simp only [Nat.add_assoc, Nat.reduceAdd]
  rw [← hbase] at b6 hsz hgb ⊢
  have HB : Hid (base = w.heap.size) := hbase
  have hbw : w.heap.size ≤ base + 7 := by omega
  clear hbase
  refine' range_next rfl (by omega) (gf := 41) (lb := #[.pointer (some ⟨base + 6, 0, none⟩)]) rfl trivial (enters_of Tryz.func41 (by kernel_rfl) rfl)
    (lines_seq (3 - 1) (by omega) (base + 6) s (by omega) w1 b6) (Below.refl _ _) (fun _ _ => trivial) (fun _ _ _ _ => trivial) (fun _ => rfl)
    (RdI s base w) (fun c _ X => c = .ret ∧ RdX s base w X)
    (fun pre A B row hs hg hr => hs.grown hsz hg hr hbw) (fun c pre A B row hs hg hr => ⟨hs.1, hs.2.grown hsz hg hr hbw⟩) hI0 _ ?assign ?body ?done ?stop
  case assign =>
    intro l x W K hK
    gi_wp2
    exact hK
  case body =>
    rintro l pre x X hI hlen hnx
    obtain ⟨c5, LN⟩ := hI.line hs hw hgb HB.out hnx
    clear hI hI0 b6
    gi_wp2_with fail
    refine ⟨trivial, (CallsIn.inRound l (callsIn_wide.2 LN)).mono ?_⟩
    rintro e X2 ⟨kF, g0, g1, g2, g5, kw, hpl, ⟨rfl, hN⟩ | ⟨rfl, hI2⟩⟩
    · have d5 : X2.cell? ⟨base + 5, 0, none⟩ = some (.int .i64 (pre.length : Int)) := cell_of_block g5 0
      have S0 : X2.drew.cell? ⟨base + 5, 0, none⟩ = some (.int .i64 (pre.length : Int)) := d5
      obtain ⟨W1, hW1⟩ : ∃ W1, X2.drew.setRow base #[.slice none 0 0, .slice none 0 0, .map none, .slice none 0 0] = W1 := ⟨_, rfl⟩
      have q0 : W1.heap[base]? = some (.cells #[.slice none 0 0, .slice none 0 0, .map none, .slice none 0 0] 82 (0, 0)) := by rw [← hW1]; exact setRow_heap _ _ _ _ _ _ (show X2.drew.heap[base]? = _ from g0)
      have qo : ∀ k, k ≠ base → W1.heap[k]? = X2.heap[k]? := fun k hk => by
        rw [← hW1]
        simp [World.setRow, Array.getElem?_modify, Ne.symm hk]
        rfl
      have kR : Keeps (fun k => k = base ∨ k = base + 1 ∨ k = base + 2) X2 ((W1.setCell ⟨base + 1, 0, none⟩ (.int .i64 (pre.length : Int))).setCell ⟨base + 2, 0, none⟩ (.int .i64 190)) := by
        have k0 : Keeps (fun k => k = base ∨ k = base + 1 ∨ k = base + 2) X2 W1 := ⟨by rw [← hW1]; rfl, by rw [← hW1]; rfl, by rw [← hW1]; rfl, by rw [← hW1]; simp [World.setRow], fun k _ hs => qo k (fun e => hs (.inl e))⟩
        exact (k0.setCell (p := ⟨base + 1, 0, none⟩) (.inr (.inr (.inl rfl))) _).setCell (p := ⟨base + 2, 0, none⟩) (.inr (.inr (.inr rfl))) _
      have q1 : W1.heap[base + 1]? = some (.cells #[.int .i64 0] 3 (0, 0)) := (qo _ (by omega)).trans g1
      have q2 : W1.heap[base + 2]? = some (.cells #[.int .i64 0] 30 (0, 0)) := (qo _ (by omega)).trans g2
      have q5 : W1.cell? ⟨base + 5, 0, none⟩ = some (.int .i64 (pre.length : Int)) := cell_of_block ((qo _ (by omega)).trans g5) 0
      have q2b : (W1.setCell ⟨base + 1, 0, none⟩ (.int .i64 (pre.length : Int))).heap[base + 2]? = some (.cells #[.int .i64 0] 30 (0, 0)) := (Below.heap_setCell _ _ _ _ (by show base + 2 ≠ base + 1; omega)).trans q2
      have hEnd : Hid (KeepsFrom w1.heap.size X ((W1.setCell ⟨base + 1, 0, none⟩ (.int .i64 (pre.length : Int))).setCell ⟨base + 2, 0, none⟩ (.int .i64 190)) ∧ RdX s base w ((W1.setCell ⟨base + 1, 0, none⟩ (.int .i64 (pre.length : Int))).setCell ⟨base + 2, 0, none⟩ (.int .i64 190))) := by
        refine ⟨?_, pre.length, hN, ?_, ?_, ?_, ?_⟩
        · rw [hsz]
          exact kF.trans ⟨kR.size, fun k o hk ho _ => (kR.block k (lt_of_block ho) (by omega)).trans ho⟩
        · exact (Below.heap_setCell _ _ _ _ (by show base ≠ base + 2; omega)).trans ((Below.heap_setCell _ _ _ _ (by show base ≠ base + 1; omega)).trans q0)
        · exact (Below.heap_setCell _ _ _ _ (by show base + 1 ≠ base + 2; omega)).trans (block_set q1 0 _)
        · exact block_set q2b 0 _
        · exact kw.transB kR (fun q hq e => by have := HB.out; omega)
      have q1c : W1.cell? ⟨base + 1, 0, none⟩ = some (.int .i64 0) := cell_of_block q1 0
      have q1f : W1.frozen? ⟨base + 1, 0, none⟩ = false := frozen_of_block q1 0
      have q2c := cell_of_block q2b 0
      have q2f := frozen_of_block q2b 0
      have q5b : (W1.setCell ⟨base + 1, 0, none⟩ (.int .i64 (pre.length : Int))).cell? ⟨base + 5, 0, none⟩ = some (.int .i64 (pre.length : Int)) := by rw [World.cell?_setCell_other _ _ _ _ (by simp)]; exact q5
      have HW1 : Hid (X2.drew.setRow base #[.slice none 0 0, .slice none 0 0, .map none, .slice none 0 0] = W1) := hW1
      have HG0 : Hid (X2.drew.heap[base]? = some (.cells #[.slice none 0 0, .slice none 0 0, .map none, .slice none 0 0] 82 (0, 0))) := g0
      clear LN hW1 qo kR g0 g1 g2 g5 kw kF q0 q1 q2 q2b hN d5
      gi_wp2_with fail
      refine wpIn_round_held (S := fun W => W.cell? ⟨base + 5, 0, none⟩ = some (.int .i64 (pre.length : Int))) 5 rfl hmx (by kernel_rfl) ?_
      simp only [Array.replicate_succ, Array.replicate_zero, List.push_toArray, List.nil_append, List.cons_append]
      refine held_take (i := 0) (v := .agg #[.slice none 0 0, .slice none 0 0, .map none, .slice none 0 0]) 21 rfl rfl (by kernel_rfl) (by kernel_rfl) (by kernel_rfl) rfl (fun w' hw' => by go_simp) S0 ?_
      simp only [Act.put, List.setIfInBounds_toArray, List.set_cons_zero, List.set_cons_succ]
      refine held_take (i := 1) (v := .int .i64 (pre.length : Int)) 22 rfl rfl (by kernel_rfl) (by kernel_rfl) (by kernel_rfl) rfl (fun w' hw' => by go_simp) S0 ?_
      simp only [Act.put, List.setIfInBounds_toArray, List.set_cons_zero, List.set_cons_succ]
      refine held_none (i := 2) (w' := W1) (by kernel_rfl) rfl rfl rfl (by rw [← HW1.out]; exact run_store_op rfl base _ rfl rfl 82 _ HG0.out (by kernel_rfl) rfl (by kernel_rfl)) q5 ?_
      refine held_none (i := 3) (w' := W1.setCell ⟨base + 1, 0, none⟩ (.int .i64 (pre.length : Int))) (by kernel_rfl) rfl rfl rfl (by go_simp) q5b ?_
      refine held_none (i := 4) (w' := (W1.setCell ⟨base + 1, 0, none⟩ (.int .i64 (pre.length : Int))).setCell ⟨base + 2, 0, none⟩ (.int .i64 190)) (by kernel_rfl) rfl rfl rfl (by go_simp) (by rw [World.cell?_setCell_other _ _ _ _ (by simp)]; exact q5b) ?_
      refine held_end (by kernel_rfl) ?_ _
      gi_wp2_with fail
      exact ⟨hEnd.out.1, rfl, hEnd.out.2⟩
    · have d5 : X2.cell? ⟨base + 5, 0, none⟩ = some (.int .i64 (pre.length : Int)) := cell_of_block g5 0
      have f5 : X2.frozen? ⟨base + 5, 0, none⟩ = false := frozen_of_block g5 0
      have hpi : (pre.length : Int) < 268435456 := by omega
      clear LN
      gi_wp2_with fail
      refine ⟨?_, trivial, ?_⟩
      · rw [hsz]
        exact kF.trans ⟨by simp, fun k o hk ho _ => (Below.heap_setCell _ _ _ _ (by show k ≠ base + 5; omega)).trans ho⟩
      · rw [show ((pre.length : Int) + 1) = ((pre.length + 1 : Nat) : Int) by omega]
        exact hI2
  case stop =>
    rintro c pre X _ ⟨rfl, n, hN, g0, g1, g2, kw⟩ hK
    have hlt := lt_of_block hK
    rw [hsz] at hK hlt ⊢
    have kp : Keeps (fun k => k = base + 7) X (X.putObj (base + 7) (.deferred none)) := ⟨rfl, rfl, rfl, by simp [World.putObj], fun k _ hs => World.putObj_heap_other (fun e => hs e)⟩
    have d0 := (kp.block _ (lt_of_block g0) (by omega)).trans g0
    have d1 := (kp.block _ (lt_of_block g1) (by omega)).trans g1
    have d2 := (kp.block _ (lt_of_block g2) (by omega)).trans g2
    have kk := kw.transB kp (fun q hq e => by have := HB.out; omega)
    have hpost : RdPost s w (.returned (.tuple #[.agg #[.slice none 0 0, .slice none 0 0, .map none, .slice none 0 0], .int .i64 (n : Int), .int .i64 190])) (X.putObj (base + 7) (.deferred none)) := by
      unfold RdPost readT
      rw [hN]
    gi_wp2
    refine ⟨by simp, .inl ⟨_, _, rfl, run_takeDeferred hK, ?_⟩⟩
    exact ⟨_, res_read rfl rfl rfl d0 d1 d2, hpost, kk⟩
  case done =>
    rintro xs X rfl hIX hK
    obtain ⟨h0, ⟨r, h1, h2, h3⟩, h4, h5, h6, h7, h8, h9⟩ := hIX
    obtain ⟨m, vc, vl, vu, tag, hIs, hS⟩ := h2
    rw [hsz] at hK ⊢
    obtain ⟨huses, -⟩ := readR_uses _ _ r 0 _ h1 (by simp)
    have hvc : ∀ g, vc.ownBlock = some g → base + 7 ≤ g := fun g e => by
      have q := hS g (.inr (.inr (.inl e)))
      have t2 := hIs.tc g e
      have hm4 := hIs.pm
      have n1 : g ≠ base + 4 := fun e => by rw [e, hIs.tp] at t2; cases t2
      have n2 : g ≠ m := fun e => by rw [e, hIs.tm] at t2; cases t2
      omega
    have hrow : ∃ ub uc, vu = .slice ub r.uses.length uc := by
      rcases hIs.uses.2 with ⟨e, h2⟩ | ⟨g, cap, cur, e, _⟩
      · exact ⟨none, 0, by rw [e, h2]⟩
      · exact ⟨_, cap, e⟩
    obtain ⟨ub, uc, rfl⟩ := hrow
    have hfln : ((linesL s).flatten).length = s.length := by rw [linesL_flat]
    have hub : r.labs.length + r.code.length + r.uses.length ≤ 805306368 := by rw [hfln] at h3; omega
    have U0 : Hid (UsI base (base + 7) w m vc vl (.slice ub r.uses.length uc) tag r (linesL s).length 0 r.code X) := ⟨hIs, h4, h5, h6, h7, h8, hK, rfl, rfl⟩
    have hlabs : Hid (∀ x p, r.labs.lookup x = some p → p < 18446744073709551616) := fun x p hp => by
      have := readR_labs _ _ r 0 _ h1 (by simp) _ (lookup_in _ _ _ hp)
      dsimp only at this
      omega
    have hnl : (linesL s).length ≤ 268435456 := Nat.le_trans (linesL_len s) hs
    have c43 : X.cell? ⟨base + 4, 3, none⟩ = some (.slice ub r.uses.length uc) := cell_of_block hIs.box 3
    have hS2 : Hid (∀ g, ROwn (base + 4) m vc vl (.slice ub r.uses.length uc) g → base + 3 ≤ g) := fun g hg => (hS g hg).1
    have HR1 : Hid (readR ⟨[], [], []⟩ 0 (linesL s) = ((linesL s).length, some r)) := h1
    clear hIs hS h0 h1 h3 h4 h5 h6 h7 h8 h9 hK hI0 b6 hfln
    gi_wp2_with fail
    clear c43
    gi_loopw [28] (fun v wr => ∃ (k : Nat) (code' : List I5), v = .int .i64 k ∧ k ≤ r.uses.length ∧ Hid (UsI base (base + 7) w m vc vl (.slice ub r.uses.length uc) tag r (linesL s).length k code' wr)) (fun v _ => r.uses.length - (intOf v).toNat)
    case atStart => exact ⟨0, r.code, rfl, Nat.zero_le _, U0⟩
    case round =>
      obtain ⟨k, code', rfl, hk, HU⟩ := hrel
      clear U0
      by_cases hlt : k < r.uses.length
      · obtain ⟨u, hu⟩ : ∃ u, r.uses[k]? = some u := ⟨_, List.getElem?_eq_getElem hlt⟩
        have hum := huses u (List.mem_of_getElem? hu)
        obtain ⟨gu, rfl, x0, x1, x2⟩ : ∃ gu, ub = some ⟨gu, 0, none⟩ ∧ wr.cell? ⟨gu, k * 3, none⟩ = some (keyV u.1) ∧ wr.cell? ⟨gu, k * 3 + 1, none⟩ = some (.int .i64 (u.2.1 : Int)) ∧ wr.cell? ⟨gu, k * 3 + 2, none⟩ = some (.int .i64 (u.2.2 : Int)) := by
          rcases HU.out.is.uses.2 with ⟨_, h2⟩ | ⟨g, cap, cur, e, q1, q2, q3, q4, q5, q6⟩
          · dsimp only at h2; omega
          · simp only [Value.slice.injEq] at e
            obtain ⟨a0, a1, a2⟩ := useV_at r.uses k u hu
            have hc : ∀ j v, j < r.uses.length * 3 → (useV r.uses)[j]? = some v → wr.cell? ⟨g, j, none⟩ = some v := fun j v hj hv => by
              rw [cell_of_block q2]
              dsimp only at q6
              rw [← q6, List.getElem?_take_of_lt hj] at hv
              simpa using hv
            exact ⟨g, e.1, hc _ _ (by omega) a0, hc _ _ (by omega) a1, hc _ _ (by omega) a2⟩
        obtain ⟨name, at_, line⟩ := u
        dsimp only [keyV] at x0 x1 x2 hum
        have ka := (Keeps.refl (fun _ => False) wr).alloc (.cells #[.string ⟨name.toArray⟩, .int .i64 (at_ : Int), .int .i64 (line : Int)] 112)
        have Ua := HU.out.keeps ka
        have y40 := cell_of_block Ua.is.box 0
        have y42 : (wr.alloc (.cells #[.string ⟨name.toArray⟩, .int .i64 (at_ : Int), .int .i64 (line : Int)] 112)).cell? ⟨base + 4, 2, none⟩ = some (.map (some m)) := cell_of_block Ua.is.box 2
        have LK := Ua.is.map.look name
        have hki : (k : Int) < r.uses.length := by omega
        have hkb : (k : Int) < 805306368 := by omega
        have hblt : base + 4 < wr.heap.size := lt_of_block HU.out.is.box
        have yb := alloc_block wr (.cells #[.string ⟨name.toArray⟩, .int .i64 (at_ : Int), .int .i64 (line : Int)] 112)
        have z0 := cell_of_block yb 0
        have z1 := cell_of_block yb 1
        have z2 := cell_of_block yb 2
        cases hlk : r.labs.lookup name with
        | none =>
          unfold lookV at LK
          dsimp only at LK
          rw [hlk] at LK
          have hres : resR r.labs r.code r.uses = (some line, code') := by
            rw [← HU.out.res, List.drop_eq_getElem_cons hlt]
            rw [List.getElem?_eq_getElem hlt] at hu
            rw [Option.some.inj hu, resR, hlk]
          obtain ⟨W1, W2, W3, T⟩ := three (A := (wr.alloc (.cells #[.string ⟨name.toArray⟩, .int .i64 (at_ : Int), .int .i64 (line : Int)] 112)).drew) Ua.b0 Ua.b1 Ua.b2 #[.slice none 0 0, .slice none 0 0, .map none, .slice none 0 0] (line : Int) 190
          have HD : Hid (W3.heap[base + 7]? = some (.deferred (some []))) := (T.k3.block _ (lt_of_block Ua.df) (by omega)).trans Ua.df
          have kd : Keeps (fun k => base ≤ k ∧ k ≤ base + 2) (wr.alloc (.cells #[.string ⟨name.toArray⟩, .int .i64 (at_ : Int), .int .i64 (line : Int)] 112)) W3 := ((Keeps.refl _ _).drew).trans T.k3
          have kp : Keeps (fun k => k = base + 7) W3 (W3.putObj (base + 7) (.deferred none)) := ⟨rfl, rfl, rfl, by simp [World.putObj], fun k _ hs => World.putObj_heap_other (fun e => hs e)⟩
          have HFin : Hid ((W3.putObj (base + 7) (.deferred none)).heap[base]? = some (.cells #[.slice none 0 0, .slice none 0 0, .map none, .slice none 0 0] 82 (0, 0)) ∧ (W3.putObj (base + 7) (.deferred none)).heap[base + 1]? = some (.cells #[.int .i64 (line : Int)] 3 (0, 0)) ∧ (W3.putObj (base + 7) (.deferred none)).heap[base + 2]? = some (.cells #[.int .i64 190] 30 (0, 0)) ∧ Keeps (fun _ => False) w (W3.putObj (base + 7) (.deferred none))) :=
            ⟨(kp.block _ (lt_of_block T.b0) (by omega)).trans T.b0, (kp.block _ (lt_of_block T.b1) (by omega)).trans T.b1, (kp.block _ (lt_of_block T.b2) (by omega)).trans T.b2, (Ua.kw.transB kd (fun q hq e => by have := HB.out; omega)).transB kp (fun q hq e => by have := HB.out; omega)⟩
          have HPost : Hid (RdPost s w (.returned (.tuple #[.agg #[.slice none 0 0, .slice none 0 0, .map none, .slice none 0 0], .int .i64 (line : Int), .int .i64 190])) (W3.putObj (base + 7) (.deferred none))) := by
            unfold Hid RdPost readT
            rw [HR1.out]
            dsimp only
            rw [hres]
          obtain ⟨bu, hbu⟩ : ∃ bu, bu = wr.heap.size := ⟨_, rfl⟩
          have HBU : Hid (bu = wr.heap.size) := hbu
          obtain ⟨A, hA⟩ : ∃ A, A = wr.alloc (.cells #[.string ⟨name.toArray⟩, .int .i64 (at_ : Int), .int .i64 (line : Int)] 112) := ⟨_, rfl⟩
          have HA : Hid (A = wr.alloc (.cells #[.string ⟨name.toArray⟩, .int .i64 (at_ : Int), .int .i64 (line : Int)] 112)) := hA
          have hubig : base + 7 < bu := by rw [hbu]; exact lt_of_block HU.out.df
          have s0 : A.cell? ⟨bu, 2, none⟩ = some (.int .i64 (line : Int)) := by rw [hA, hbu]; exact z2
          rw [← hA] at T
          have s0d : A.drew.cell? ⟨bu, 2, none⟩ = some (.int .i64 (line : Int)) := s0
          have s1 : W1.cell? ⟨bu, 2, none⟩ = some (.int .i64 (line : Int)) := T.k1.cell (a := ⟨bu, 2, none⟩) (fun e => by have : bu ≤ base + 2 := e.2; omega) s0
          have s2 : W2.cell? ⟨bu, 2, none⟩ = some (.int .i64 (line : Int)) := T.k2.cell (a := ⟨bu, 2, none⟩) (fun e => by have : bu ≤ base + 2 := e.2; omega) s0
          have s3 : W3.cell? ⟨bu, 2, none⟩ = some (.int .i64 (line : Int)) := T.k3.cell (a := ⟨bu, 2, none⟩) (fun e => by have : bu ≤ base + 2 := e.2; omega) s0
          have HG0 : Hid (A.drew.heap[base]? = some (.cells #[.slice none 0 0, .slice none 0 0, .map none, .slice none 0 0] 82 (0, 0))) := by rw [hA]; exact Ua.b0
          obtain ⟨t1, t2, t3, ⟨tx1, t4⟩, t5, ⟨tx2, t6⟩, t7, -⟩ := T
          have HT1 : Hid (A.drew.setRow base #[.slice none 0 0, .slice none 0 0, .map none, .slice none 0 0] = W1) := t1
          have HT2 : Hid (W1.setCell ⟨base + 1, 0, none⟩ (.int .i64 (line : Int)) = W2) := t2
          have HT3 : Hid (W2.setCell ⟨base + 2, 0, none⟩ (.int .i64 190) = W3) := t3
          clear Ua HU ka yb y40 hlk hu HR1 t1 t2 t3 kd kp hA hbu hres hubig
          gi_wp2_with fail
          rw [← HBU.out, ← HA.out]
          refine wpIn_wide.2 ?_
          refine wp_held_end (S := fun W => W.cell? ⟨bu, 2, none⟩ = some (.int .i64 (line : Int))) 6 rfl hmx ?_
          simp only [Array.replicate_succ, Array.replicate_zero, List.push_toArray, List.nil_append, List.cons_append]
          refine held_take (i := 0) (v := .agg #[.slice none 0 0, .slice none 0 0, .map none, .slice none 0 0]) 42 rfl rfl (by kernel_rfl) (by kernel_rfl) (by kernel_rfl) rfl (fun w' hw' => by go_simp) s0d ?_
          simp only [Act.put, List.setIfInBounds_toArray, List.set_cons_zero, List.set_cons_succ]
          refine held_take (i := 1) (v := .pointer (some ⟨bu, 2, none⟩)) 43 rfl rfl (by kernel_rfl) (by kernel_rfl) (by kernel_rfl) rfl (fun w' hw' => by go_simp) s0d ?_
          simp only [Act.put, List.setIfInBounds_toArray, List.set_cons_zero, List.set_cons_succ]
          refine held_take (i := 2) (v := .int .i64 (line : Int)) 44 rfl rfl (by kernel_rfl) (by kernel_rfl) (by kernel_rfl) rfl (fun w' hw' => by go_simp) s0d ?_
          simp only [Act.put, List.setIfInBounds_toArray, List.set_cons_zero, List.set_cons_succ]
          refine held_none (i := 3) (w' := W1) (by kernel_rfl) rfl rfl rfl (by rw [← HT1.out]; exact run_store_op rfl base _ rfl rfl 82 _ HG0.out (by kernel_rfl) rfl (by kernel_rfl)) s1 ?_
          refine held_none (i := 4) (w' := W2) (by kernel_rfl) rfl rfl rfl (by rw [← HT2.out]; go_simp) s2 ?_
          refine held_none (i := 5) (w' := W3) (by kernel_rfl) rfl rfl rfl (by rw [← HT3.out]; go_simp) s3 ?_
          refine held_end (by kernel_rfl) ?_ _
          gi_wp2_with fail
          obtain ⟨d0, d1, d2, kk⟩ := HFin.out
          refine ⟨by simp, .inl ⟨_, _, rfl, run_takeDeferred HD.out, ?_⟩⟩
          exact ⟨_, res_read rfl rfl rfl d0 d1 d2, HPost.out, kk⟩
        | some pl =>
          unfold lookV at LK
          dsimp only at LK
          rw [hlk] at LK
          obtain ⟨gc, ccap, xo, hvcE, p1, p2, p3⟩ := Ua.put HB.out hvc hu (by dsimp only; omega) hlk (hlabs.out _ _ hlk)
          dsimp only at p1 p2 p3
          have y40' : (wr.alloc (.cells #[.string ⟨name.toArray⟩, .int .i64 (at_ : Int), .int .i64 (line : Int)] 112)).cell? ⟨base + 4, 0, none⟩ = some (.slice (some ⟨gc, 0, none⟩) r.code.length ccap) := by rw [← hvcE]; exact y40
          have hpl : (pl : Int) < 18446744073709551616 := by have := hlabs.out _ _ hlk; omega
          have hati : (at_ : Int) < r.code.length := by omega
          have HP3 : Hid (UsI base (base + 7) w m vc vl (.slice (some ⟨gu, 0, none⟩) r.uses.length uc) tag r (linesL s).length (k + 1) (setN code' at_ pl) ((wr.alloc (.cells #[.string ⟨name.toArray⟩, .int .i64 (at_ : Int), .int .i64 (line : Int)] 112)).setCell ⟨gc, at_ * 5 + 4, none⟩ (.int .u64 (pl : Int)))) := p3
          clear Ua HU ka yb y40 p3 hlk hu hvcE HR1
          gi_wp2_with fail
          go_roundw
          case rel => exact ⟨k + 1, _, by go_num, by omega, HP3⟩
          case measure => simp [intOf]; omega
      · obtain rfl : k = r.uses.length := by omega
        have U := HU.out
        have hres : resR r.labs r.code r.uses = (none, code') := by
          rw [← U.res, List.drop_length]
          rfl
        obtain ⟨W1, W2, W3, T⟩ := three (A := wr.drew) U.b0 U.b1 U.b2 #[vc, vl, .map (some m), .slice ub r.uses.length uc] ((linesL s).length : Int) 0
        have HD : Hid (W3.heap[base + 7]? = some (.deferred (some []))) := (T.k3.block _ (lt_of_block U.df) (by omega)).trans U.df
        have kd : Keeps (fun k => base ≤ k ∧ k ≤ base + 2) wr W3 := ((Keeps.refl _ _).drew).trans T.k3
        have kp : Keeps (fun k => k = base + 7) W3 (W3.putObj (base + 7) (.deferred none)) := ⟨rfl, rfl, rfl, by simp [World.putObj], fun k _ hs => World.putObj_heap_other (fun e => hs e)⟩
        have kdp : Keeps (fun k => (base ≤ k ∧ k ≤ base + 2) ∨ k = base + 7) wr (W3.putObj (base + 7) (.deferred none)) := (kd.mono (fun _ _ e => .inl e)).trans (kp.mono (fun _ _ e => .inr e))
        have HFin : Hid ((W3.putObj (base + 7) (.deferred none)).heap[base]? = some (.cells #[vc, vl, .map (some m), .slice ub r.uses.length uc] 82 (0, 0)) ∧ (W3.putObj (base + 7) (.deferred none)).heap[base + 1]? = some (.cells #[.int .i64 ((linesL s).length : Int)] 3 (0, 0)) ∧ (W3.putObj (base + 7) (.deferred none)).heap[base + 2]? = some (.cells #[.int .i64 0] 30 (0, 0)) ∧ Keeps (fun _ => False) w (W3.putObj (base + 7) (.deferred none))) :=
          ⟨(kp.block _ (lt_of_block T.b0) (by omega)).trans T.b0, (kp.block _ (lt_of_block T.b1) (by omega)).trans T.b1, (kp.block _ (lt_of_block T.b2) (by omega)).trans T.b2, U.kw.transB kdp (fun q hq e => by have := HB.out; omega)⟩
        have hown : ∀ v g, (v.ownBlock = some g) → (v = vc ∨ v = vl) → ¬ ((base ≤ g ∧ g ≤ base + 2) ∨ g = base + 7) := fun v g e hv => by
          have hk2 : ROwn (base + 4) m vc vl (.slice ub r.uses.length uc) g := by
            rcases hv with rfl | rfl
            · exact .inr (.inr (.inl e))
            · exact .inr (.inr (.inr (.inl e)))
          intro hq
          have hcc : ∃ c t fr, wr.heap[g]? = some (.cells c t fr) := by
            rcases hv with rfl | rfl
            · exact own_cells U.is.code.own e
            · exact own_cells U.is.labs e
          obtain ⟨c, t, fr, hc⟩ := hcc
          rcases hq with hq | hq
          · have : g = base ∨ g = base + 1 ∨ g = base + 2 := by omega
            have hge := hS2.out g hk2
            omega
          · rw [hq, U.df] at hc; cases hc
        have HPost : Hid (RdPost s w (.returned (.tuple #[.agg #[vc, vl, .map (some m), .slice ub r.uses.length uc], .int .i64 ((linesL s).length : Int), .int .i64 0])) (W3.putObj (base + 7) (.deferred none))) := by
          unfold Hid RdPost readT
          rw [HR1.out]
          dsimp only
          rw [hres]
          refine ⟨vc, vl, m, ub, _, uc, rfl, ?_, ?_, ?_, U.is.wf⟩
          · rw [← HB.out]; exact U.is.code.keeps kdp (fun g e => hown vc g e (.inl rfl))
          · rw [← HB.out]; exact own_keeps U.is.labs kdp (fun g e => hown vl g e (.inr rfl))
          · intro g e f
            have a := U.is.tc g e
            rw [U.is.tl g f] at a
            cases a
        have b40 := cell_of_block U.is.box 0
        have b41 := cell_of_block U.is.box 1
        have b42 := cell_of_block U.is.box 2
        have b43 := cell_of_block U.is.box 3
        have b50 := cell_of_block U.b5 0
        have SW : ∀ W, Keeps (fun k => base ≤ k ∧ k ≤ base + 2) wr W → (W.cell? ⟨base + 4, 0, none⟩ = some vc ∧ W.cell? ⟨base + 4, 1, none⟩ = some vl ∧ W.cell? ⟨base + 4, 2, none⟩ = some (.map (some m)) ∧ W.cell? ⟨base + 4, 3, none⟩ = some (.slice ub r.uses.length uc) ∧ W.cell? ⟨base + 5, 0, none⟩ = some (.int .i64 ((linesL s).length : Int))) := fun W k =>
          ⟨k.cell (fun e => by have : base + 4 ≤ base + 2 := e.2; omega) b40, k.cell (fun e => by have : base + 4 ≤ base + 2 := e.2; omega) b41, k.cell (fun e => by have : base + 4 ≤ base + 2 := e.2; omega) b42, k.cell (fun e => by have : base + 4 ≤ base + 2 := e.2; omega) b43, k.cell (fun e => by have : base + 5 ≤ base + 2 := e.2; omega) b50⟩
        have s0 := SW wr.drew ((Keeps.refl _ wr).drew)
        have s1 := SW W1 (((Keeps.refl _ wr).drew).trans T.k1)
        have s2 := SW W2 (((Keeps.refl _ wr).drew).trans T.k2)
        have s3 := SW W3 kd
        have HG0 : Hid (wr.drew.heap[base]? = some (.cells #[.slice none 0 0, .slice none 0 0, .map none, .slice none 0 0] 82 (0, 0))) := U.b0
        obtain ⟨cb, cc, hvcf⟩ := U.is.code.form
        obtain ⟨lb, ln, lc, hvlf⟩ := own_form U.is.labs
        obtain ⟨t1, t2, t3, ⟨tx1, t4⟩, t5, ⟨tx2, t6⟩, t7, -⟩ := T
        have HT1 : Hid (wr.drew.setRow base #[vc, vl, .map (some m), .slice ub r.uses.length uc] = W1) := t1
        have HT2 : Hid (W1.setCell ⟨base + 1, 0, none⟩ (.int .i64 ((linesL s).length : Int)) = W2) := t2
        have HT3 : Hid (W2.setCell ⟨base + 2, 0, none⟩ (.int .i64 0) = W3) := t3
        have h1c : (#[vc, vl, .map (some m), .slice ub r.uses.length uc] : Array Value).all (·.oneCell') = true := by rw [hvcf, hvlf]; simp [Value.oneCell']
        clear U HU SW hown hres kd kp kdp t1 t2 t3 HR1 b40 b41 b42 b43 b50 hvcf hvlf
        gi_wp2_with fail
        refine wpIn_wide.2 ?_
        refine wp_held_end (S := fun W => W.cell? ⟨base + 4, 0, none⟩ = some vc ∧ W.cell? ⟨base + 4, 1, none⟩ = some vl ∧ W.cell? ⟨base + 4, 2, none⟩ = some (.map (some m)) ∧ W.cell? ⟨base + 4, 3, none⟩ = some (.slice ub r.uses.length uc) ∧ W.cell? ⟨base + 5, 0, none⟩ = some (.int .i64 ((linesL s).length : Int))) 5 rfl hmx ?_
        simp only [Array.replicate_succ, Array.replicate_zero, List.push_toArray, List.nil_append, List.cons_append]
        refine held_take (i := 0) (v := .agg #[vc, vl, .map (some m), .slice ub r.uses.length uc]) 54 rfl rfl (by kernel_rfl) (by kernel_rfl) (by kernel_rfl) rfl (fun w' hw' => by obtain ⟨q0, q1, q2, q3, q4⟩ := hw'; go_simp) s0 ?_
        simp only [Act.put, List.setIfInBounds_toArray, List.set_cons_zero, List.set_cons_succ]
        refine held_take (i := 1) (v := .int .i64 ((linesL s).length : Int)) 55 rfl rfl (by kernel_rfl) (by kernel_rfl) (by kernel_rfl) rfl (fun w' hw' => by obtain ⟨q0, q1, q2, q3, q4⟩ := hw'; go_simp) s0 ?_
        simp only [Act.put, List.setIfInBounds_toArray, List.set_cons_zero, List.set_cons_succ]
        refine held_none (i := 2) (w' := W1) (by kernel_rfl) rfl rfl rfl (by rw [← HT1.out]; exact run_store_op rfl base _ rfl rfl 82 _ HG0.out (by kernel_rfl) rfl h1c) s1 ?_
        refine held_none (i := 3) (w' := W2) (by kernel_rfl) rfl rfl rfl (by rw [← HT2.out]; go_simp) s2 ?_
        refine held_none (i := 4) (w' := W3) (by kernel_rfl) rfl rfl rfl (by rw [← HT3.out]; go_simp) s3 ?_
        refine held_end (by kernel_rfl) ?_ _
        gi_wp2_with fail
        obtain ⟨d0, d1, d2, kk⟩ := HFin.out
        refine ⟨by simp, .inl ⟨_, _, rfl, run_takeDeferred HD.out, ?_⟩⟩
        exact ⟨_, res_read rfl rfl rfl d0 d1 d2, HPost.out, kk⟩
end Go.Proofs.YtppejcfghlpbjaaGreatDoor


/- Walks of Parse and Labels (package asm). No statement of the seat is proved here. -/
namespace Go.Proofs.YtppejcfghlpbjaaGreatDoor
open Go.RowKit Go.Shelf

/-- What Parse answers. -/
def PrPost (s : List UInt8) (w : World) (e : Ending) (w' : World) : Prop := match readT s with
  | (n, some (code, _)) => ∃ vc, e = .returned (.tuple #[vc, .int .i64 (n : Int), .int .i64 0]) ∧ Irs w' w.heap.size vc code ∧ (∀ i ∈ code, i.wf)
  | (n, none) => e = .returned (.tuple #[.slice none 0 0, .int .i64 (n : Int), .int .i64 190])
/-- What Labels answers. -/
def LbPost (s : List UInt8) (w : World) (e : Ending) (w' : World) : Prop := match readT s with
  | (n, some (_, labs)) => ∃ vl, e = .returned (.tuple #[vl, .int .i64 (n : Int), .int .i64 0]) ∧ w'.ownsRow w.heap.size 157 2 vl labs.length (labV labs)
  | (n, none) => e = .returned (.tuple #[.slice none 0 0, .int .i64 (n : Int), .int .i64 190])

set_option maxRecDepth 100000 in
set_option maxHeartbeats 2000000 in
theorem aparse_any (s : List UInt8) (hs : s.length ≤ 268435456) (w : World) (hw : Gl w) : Calls Tryz.prog 14 #[.string ⟨s.toArray⟩] w fun e w' => PrPost s w e w' ∧ Keeps (fun _ => False) w w' := by
  have RD := read_any s hs w hw
  unfold PrPost
  unfold RdPost at RD
  generalize readT s = q at *
  obtain ⟨n, o⟩ := q
  cases o with
  | none =>
    dsimp only at RD ⊢
    go_enter Tryz.func14, Tryz.ntmps14
    go_wp2_with fail
    refine RD.mono ?_
    rintro e w1 ⟨rfl, k1⟩
    have kk := k1.alloc (.cells #[.slice none 0 0, .slice none 0 0, .map none, .slice none 0 0] 82)
    go_wp2_with fail
    go_ret3
    exact ⟨rfl, kk⟩
  | some q =>
    obtain ⟨code, labs⟩ := q
    dsimp only at RD ⊢
    go_enter Tryz.func14, Tryz.ntmps14
    go_wp2_with fail
    refine RD.mono ?_
    rintro e w1 ⟨⟨vc, vl, m, ub, un, uc, rfl, h1, h2, h3, h4⟩, k1⟩
    obtain ⟨cb, cc, rfl⟩ := h1.form
    obtain ⟨lb, ln, lc, rfl⟩ := own_form h2
    have kk := k1.alloc (.cells #[.slice cb code.length cc, .slice lb ln lc, .map (some m), .slice ub un uc] 82)
    have h1' := h1.keeps ((Keeps.refl (fun _ => False) w1).alloc (.cells #[.slice cb code.length cc, .slice lb ln lc, .map (some m), .slice ub un uc] 82)) (fun _ _ f => f)
    clear h1 h2
    go_wp2_with fail
    go_ret3
    exact ⟨⟨_, rfl, h1', h4⟩, kk⟩
end Go.Proofs.YtppejcfghlpbjaaGreatDoor


/- Walks of aims, placeName, named, targets (package asm); a builder of strings. No statement of the seat is proved here. -/
namespace Go.Proofs.YtppejcfghlpbjaaGreatDoor
open Go.RowKit Go.Shelf

/-- A builder, and what was written into it. -/
def Bld (w : World) (B b : Nat) (l : List UInt8) : Prop := Lib.IsBuilderF 54 5 B b (Lib.byteCells l) w ∧ B ≤ w.heap.size
theorem Bld.new (w : World) : Bld (w.alloc (.cells #[.pointer none, .slice none 0 0] 54)) w.heap.size w.heap.size [] :=
  ⟨.inl ⟨Nat.le_refl _, _, alloc_block _ _, World.ownsRowF_nil _ _ _ _, by simp [Value.ownBlock]⟩, by simp⟩
theorem rowF_keeps {w w' : World} {S : Nat → Prop} (k : Keeps S w w') {base size : Nat} {e : TypeId} {v : Value} {n : Nat} {xs : List Value} (hs : ∀ g, v.ownBlock = some g → ¬ S g) (h : w.ownsRowF base e size v n xs) : w'.ownsRowF base e size v n xs := by
  refine ⟨h.1, ?_⟩
  rcases h.2 with q | ⟨g, cap, cur, fz, q1, q2, q3, q4⟩
  · exact .inl q
  · exact .inr ⟨g, cap, cur, fz, q1, q2, (k.block g (lt_of_block q3) (hs g (by rw [q1]; rfl))).trans q3, q4⟩
theorem Bld.keeps {w w' : World} {B b : Nat} {l : List UInt8} (h : Bld w B b l) (k : Keeps (fun _ => False) w w') : Bld w' B b l := by
  obtain ⟨h1, h2⟩ := h
  refine ⟨?_, Nat.le_trans h2 k.size⟩
  rcases h1 with ⟨q1, v, q2, q3, q4⟩ | ⟨q1, v, q2, q3, q4⟩
  · exact .inl ⟨q1, v, (k.block b (lt_of_block q2) (fun f => f)).trans q2, rowF_keeps k (fun _ _ f => f) q3, q4⟩
  · exact .inr ⟨q1, v, (k.block b (lt_of_block q2) (fun f => f)).trans q2, rowF_keeps k (fun _ _ f => f) q3, q4⟩
theorem write_any (x : List UInt8) (l : List UInt8) (B b : Nat) (w : World) (h : Bld w B b l) (hb : l.length + x.length ≤ 140737488355328) :
    Calls Tryz.prog 19 #[.pointer (some ⟨b, 0, none⟩), .string ⟨x.toArray⟩] w fun e w' => (∃ n, e = .returned (.tuple #[.int .i64 n, .nilIface])) ∧ Bld w' B b (l ++ x) ∧ Below B w w' ∧ Lib.OthersKept 5 (some b) w w' := by
  have C := Any.Builder_WriteString_k { lays156 with } bx156 B b (Lib.byteCells l) ⟨x.toArray⟩ w h.1 (by rw [Lib.byteCells_length, size_of]; exact hb) h.2
  refine C.mono fun e w' ⟨h1, h2, h3, h4⟩ => ⟨⟨_, h1⟩, ⟨.inr ?_, Nat.le_trans h.2 h3.size⟩, h3, h4⟩
  have e1 : Lib.byteCells l ++ Lib.strCells ⟨x.toArray⟩ = Lib.byteCells (l ++ x) := by simp [Lib.byteCells, Lib.strCells]
  rw [e1] at h2
  exact h2
theorem bstring_any (l : List UInt8) (B b : Nat) (w : World) (h : Bld w B b l) :
    Calls Tryz.prog 22 #[.pointer (some ⟨b, 0, none⟩)] w fun e w' => e = .returned (.string ⟨l.toArray⟩) ∧ Below B w w' :=
  (Any.Builder_String_any_k { lays156 with } bx156 B b l w h.1 h.2).mono fun _ _ ⟨h1, _, h3, _⟩ => ⟨h1, h3⟩

/-- Has an instruction a target, and that among so many places and one? -/
def aimB (i : I5) (n : Nat) : Bool := decide (1 ≤ i.op ∧ i.op ≤ 17) && tgtB i.op && decide (i.n ≤ n)
set_option maxRecDepth 100000 in
set_option maxHeartbeats 2000000 in
theorem aims_any (i : I5) (n : Nat) (hn : n ≤ 1152921504606846976) (w : World) : Calls Tryz.prog 35 #[.agg i.cells, .int .i64 (n : Int)] w fun e w' => e = .returned (.bool (aimB i n)) ∧ Keeps (fun _ => False) w w' := by
  obtain ⟨op, a, b, c, N⟩ := i
  have k0 := (Keeps.refl (fun _ => False) w).alloc (.cells #[.int .i64 op, .int .i64 a, .int .i64 b, .int .i64 c, .int .u64 N] 45)
  have bb := alloc_block w (.cells #[.int .i64 op, .int .i64 a, .int .i64 b, .int .i64 c, .int .u64 N] 45)
  by_cases ho : 1 ≤ op ∧ op ≤ 17
  · have I := info_yes op ho.1 ho.2
    have hA : aimB ⟨op, a, b, c, N⟩ n = (tgtB op && decide (N ≤ n)) := by simp [aimB, ho]
    rw [hA]
    clear hA ho
    generalize ((regsN op : Nat) : Int) = r at *
    generalize numB op = nb at *
    generalize tgtB op = tb at *
    generalize outB op = ob at *
    generalize insB op = ib at *
    go_enter Tryz.func35, Tryz.ntmps35
    go_wp2_with fail
    refine (I _).mono ?_
    rintro e w1 ⟨rfl, k1⟩
    have hb1 := (k1.block _ (lt_of_block bb) (fun f => f)).trans bb
    have hlt := lt_of_block hb1
    have c4 : (w1.alloc (.cells #[.int .i64 r, .bool nb, .bool tb, .bool ob, .bool ib] 117)).cell? ⟨w.heap.size, 4, none⟩ = some (.int .u64 N) := by rw [World.cell?_alloc_old _ _ _ (Nat.ne_of_lt hlt), cell_of_block hb1]; rfl
    have kk := (k0.trans k1).alloc (.cells #[.int .i64 r, .bool nb, .bool tb, .bool ob, .bool ib] 117)
    clear I k1 hb1 bb k0
    cases tb
    · go_wp2_with fail
      go_ret
      exact ⟨by simp, kk⟩
    · by_cases hN : N ≤ n
      · go_wp2_with fail
        go_ret
        exact ⟨by simp [hN], kk⟩
      · go_wp2_with fail
        go_ret
        exact ⟨by simp, kk⟩
  · have I := info_no op (by omega)
    have hA : aimB ⟨op, a, b, c, N⟩ n = false := by unfold aimB; rw [decide_eq_false ho]; rfl
    rw [hA]
    go_enter Tryz.func35, Tryz.ntmps35
    go_wp2_with fail
    refine (I _).mono ?_
    rintro e w1 ⟨rfl, k1⟩
    have kk := (k0.trans k1).alloc (.cells #[.int .i64 0, .bool false, .bool false, .bool false, .bool false] 117)
    clear I k1 bb k0
    go_wp2_with fail
    go_ret
    exact ⟨rfl, kk⟩

/-- What the calls read of the program's variables, the powers of ten among it. -/
structure Gp (w : World) : Prop where
  gl : Gl w
  tab : Lib.TabIs Tryz.prog w "internal/strconv.uint64pow10" .u64 Lib.pow10Tab
theorem gPow : Tryz.prog.globalNamed "internal/strconv.uint64pow10" = some 2 := by kernel_rfl
theorem tab_keeps {w w' : World} (h : Lib.TabIs Tryz.prog w "internal/strconv.uint64pow10" .u64 Lib.pow10Tab) (k : Keeps (fun _ => False) w w') : Lib.TabIs Tryz.prog w' "internal/strconv.uint64pow10" .u64 Lib.pow10Tab := by
  have hc := h.cell gPow 0 (by rw [Lib.pow10Tab_length]; decide)
  have hb := k.block _ (World.block_lt_of_cell? _ _ hc) (fun f => f)
  unfold Lib.TabIs World.var? at *
  rw [gPow] at *
  simp only [Option.bind_some] at *
  simp only [hb]
  exact h
theorem Gp.keeps {w w' : World} (h : Gp w) (k : Keeps (fun _ => False) w w') : Gp w' := ⟨h.gl.keeps k, tab_keeps h.tab k⟩
theorem itoa_any (n : Nat) (hn : n ≤ 9223372036854775807) (w : World) (hw : Gp w) : Calls Tryz.prog 57 #[.int .i64 (n : Int)] w fun e w' => e = .returned (.string ⟨(Lib.decDigits n).toArray⟩) ∧ Keeps (fun _ => False) w w' := by
  refine (Any.strconv_Itoa lays171 (n : Int) (by omega) (by omega) w hw.tab).mono fun e w' ⟨h1, k, os, h2⟩ => ⟨?_, ?_⟩
  · have e1 : Lib.itoa (n : Int) = Lib.decDigits n := by simp [Lib.itoa]
    rw [h1, e1]
  · rw [h2]
    refine ⟨rfl, rfl, rfl, ?_, fun q hq _ => ?_⟩
    · simp [Go.Sort.grow, World.drewN]
    · simp only [Go.Sort.grow, World.drewN]
      exact Array.getElem?_append_left hq
def placeL (k : Nat) : List UInt8 := 112 :: Lib.decDigits k
theorem placeName_any (n : Nat) (hn : n ≤ 9223372036854775807) (w : World) (hw : Gp w) : Calls Tryz.prog 34 #[.int .i64 (n : Int)] w fun e w' => e = .returned (.string ⟨(placeL n).toArray⟩) ∧ Keeps (fun _ => False) w w' := by
  have IT := itoa_any n hn w hw
  have h20 : (Lib.decDigits n).length ≤ 20 := by rw [Lib.decDigits_length]; exact Lib.nDigits_le20 _ (by omega)
  have hq : ¬ 9223372036854775807 < 1 + (Lib.decDigits n).length := by omega
  go_enter Tryz.func34, Tryz.ntmps34
  go_wp2_with fail
  refine IT.mono ?_
  rintro e w1 ⟨rfl, k1⟩
  go_wp2_with fail
  go_ret
  exact ⟨rfl, k1⟩

/-- Behind the last blank. -/
def cutAt (l : List UInt8) : Nat := (Lib.lastIndexByte ⟨l.toArray⟩ 32 + 1).toNat
theorem cutAt_spec (l : List UInt8) : Lib.lastIndexByte ⟨l.toArray⟩ 32 + 1 = (cutAt l : Int) ∧ cutAt l ≤ l.length := by
  unfold cutAt
  rcases Lib.lastIndexByte_spec ⟨l.toArray⟩ 32 with ⟨h, _⟩ | ⟨i, hi, h, _⟩
  · rw [h]; simp
  · rw [h]
    rw [size_of] at hi
    simp only [Int.toNat_natCast_add_one]
    omega
def namedL (l : List UInt8) : List UInt8 := l.take (cutAt l) ++ 112 :: l.drop (cutAt l)
set_option maxRecDepth 100000 in
theorem named_line (l : List UInt8) (hl : l.length ≤ 1048576) (w : World) : Calls Tryz.prog 36 #[.string ⟨l.toArray⟩] w fun e w' => e = .returned (.string ⟨(namedL l).toArray⟩) ∧ Keeps (fun _ => False) w w' := by
  have LI := Any.strings_LastIndexByte lays149 ⟨l.toArray⟩ 32 (by rw [size_of]; omega) w
  obtain ⟨h1, h2⟩ := cutAt_spec l
  have e1 := extract_take l (cutAt l)
  have e2 := extract_drop l (cutAt l)
  have hsz := size_of l
  have hn : namedL l = l.take (cutAt l) ++ [112] ++ l.drop (cutAt l) := by simp [namedL]
  rw [hn]
  generalize cutAt l = k at *
  have hL : Lib.lastIndexByte ⟨l.toArray⟩ 32 = (k : Int) - 1 := by omega
  rw [hL] at LI
  have hki : (k : Int) ≤ l.length := by omega
  have hk0 : (0 : Int) ≤ k := by omega
  have q1 : ¬ 9223372036854775807 < (l.take k).length + 1 := by rw [List.length_take]; omega
  have q2 : ¬ 9223372036854775807 < (l.take k ++ [112]).length + (l.drop k).length := by simp; omega
  have a1 := str_app (l.take k) [112]
  have a2 := str_app (l.take k ++ [112]) (l.drop k)
  clear h1 hn hL
  go_enter Tryz.func36, Tryz.ntmps36
  go_wp2_with fail
  refine LI.mono ?_
  rintro e w1 ⟨rfl, rfl⟩
  go_wp2_with fail
  go_quiet (fail)
  go_wp2_with fail
  go_ret
  exact ⟨by simp, (Keeps.refl _ _).drewN _⟩
end Go.Proofs.YtppejcfghlpbjaaGreatDoor


/- Walk of targets (package asm). No statement of the seat is proved here. -/
namespace Go.Proofs.YtppejcfghlpbjaaGreatDoor
open Go.RowKit Go.Shelf

def boolsV (f : Nat → Bool) (n : Nat) : Array Value := ((List.range n).map fun k => Value.bool (f k)).toArray
theorem boolsV_get (f : Nat → Bool) {n k : Nat} (h : k < n) : (boolsV f n)[k]? = some (.bool (f k)) := by simp [boolsV, h]
theorem boolsV_set (f : Nat → Bool) (n k : Nat) : (boolsV f n).setIfInBounds k (.bool true) = boolsV (fun j => f j || decide (j = k)) n := by
  apply Array.ext
  · simp [boolsV]
  · intro i h1 h2
    simp [boolsV] at h2
    rw [Array.getElem_setIfInBounds (by simp [boolsV]; omega)]
    split
    · rename_i h; subst h; simp [boolsV]
    · rename_i h
      have : ¬ i = k := fun e => h e.symm
      simp [boolsV, this]
theorem madeCells_bool (n : Nat) : madeCells #[Value.bool false] n = boolsV (fun _ => false) n := by
  apply Array.ext
  · simp [size_madeCells, boolsV]
  · intro i h1 h2
    simp [madeCells, boolsV, Nat.mod_one]
theorem info_bool : (Tryz.prog.info? 4).map (fun i => (i.zero, i.size, i.bytes)) = some (some (.bool false), 1, 1) := by kernel_rfl
/-- Is a place a target of one of these? -/
def markB (L : List I5) (n k : Nat) : Bool := L.any fun i => aimB i n && decide (i.n = (k : Int))
theorem markB_snoc (L : List I5) (i : I5) (n k : Nat) : markB (L ++ [i]) n k = (markB L n k || (aimB i n && decide (i.n = (k : Int)))) := by simp [markB]

theorem InsAt.at {w : World} {v : Value} {L : List I5} (h : InsAt w v L) (k : Nat) (hk : k < L.length) : ∃ g off cap, v = .slice (some ⟨g, off, none⟩) L.length cap ∧ w.cell? ⟨g, off + k * 5, none⟩ = some (.int .i64 (L[k]).op) ∧ w.cell? ⟨g, off + k * 5 + 1, none⟩ = some (.int .i64 (L[k]).a) ∧ w.cell? ⟨g, off + k * 5 + 2, none⟩ = some (.int .i64 (L[k]).b) ∧ w.cell? ⟨g, off + k * 5 + 3, none⟩ = some (.int .i64 (L[k]).c) ∧ w.cell? ⟨g, off + k * 5 + 4, none⟩ = some (.int .u64 (L[k]).n) := by
  obtain ⟨⟨a, cap, rfl, hc⟩, _, _⟩ := h
  obtain ⟨g, off, rfl, q⟩ := hc k hk
  exact ⟨g, off, cap, rfl, q⟩

set_option maxRecDepth 100000 in
set_option maxHeartbeats 4000000 in
theorem targets_any (v : Value) (L : List I5) (hL : L.length ≤ 1048576) (w : World) (h : InsAt w v L) :
    Calls Tryz.prog 32 #[v] w fun e w' => ∃ g, e = .returned (.slice (some ⟨g, 0, none⟩) (L.length + 1) (L.length + 1)) ∧ w.heap.size ≤ g ∧ w'.heap[g]? = some (.cells (boolsV (markB L L.length) (L.length + 1)) 4 (0, 0)) ∧ Keeps (fun _ => False) w w' := by
  have HI : Hid (∀ X, Keeps (fun _ => False) w X → InsAt X v L) := fun X k => h.keeps k
  have AM := fun i => aims_any i L.length (by omega)
  obtain ⟨⟨a0, c0, rfl, _⟩, hwf, _⟩ := h
  have hLi : (L.length : Int) ≤ 1048576 := by omega
  have hb0 := alloc_block w (.cells (boolsV (fun _ => false) (L.length + 1)) 4)
  have k0 := (Keeps.refl (fun _ => False) w).alloc (.cells (boolsV (fun _ => false) (L.length + 1)) 4)
  have hmk := run_make_row' (P := Tryz.prog) 85 4 (.bool false) 1 Tryz.underlying85 info_bool rfl .i64 .i64 (L.length + 1) (by omega) (by omega)
  rw [madeCells_bool, show ((L.length + 1 : Nat) : Int) = (L.length : Int) + 1 by omega] at hmk
  have hP0 : Hid (Keeps (fun _ => False) w (w.alloc (.cells (boolsV (fun _ => false) (L.length + 1)) 4)) ∧ (w.alloc (.cells (boolsV (fun _ => false) (L.length + 1)) 4)).heap[w.heap.size]? = some (.cells (boolsV (markB (L.take 0) L.length) (L.length + 1)) 4 (0, 0))) := ⟨k0, hb0⟩
  clear hb0 k0
  go_enter Tryz.func32, Tryz.ntmps32
  go_wp2_with fail
  obtain ⟨g, hg⟩ : ∃ g, g = w.heap.size := ⟨_, rfl⟩
  rw [← hg] at hP0 ⊢
  have HG : Hid (g = w.heap.size) := hg
  clear hmk hg
  go_loopw [12] (fun u wr => ∃ k : Nat, u = .int .i64 k ∧ k ≤ L.length ∧ Hid (Keeps (fun _ => False) w wr ∧ wr.heap[g]? = some (.cells (boolsV (markB (L.take k) L.length) (L.length + 1)) 4 (0, 0)))) (fun u _ => L.length - (intOf u).toNat)
  case atStart => exact ⟨0, rfl, Nat.zero_le _, hP0⟩
  case round =>
    obtain ⟨k, rfl, hk, hP⟩ := hrel
    clear hP0
    by_cases hlt : k < L.length
    · obtain ⟨ga, off, cap, hv, x0, x1, x2, x3, x4⟩ := (HI.out wr hP.out.1).at k hlt
      simp only [Value.slice.injEq] at hv
      obtain ⟨rfl, -, rfl⟩ := hv
      have hki : (k : Int) < L.length := by omega
      have htk : L.take (k + 1) = L.take k ++ [L[k]] := List.take_succ_eq_append_getElem hlt
      have hw5 := hwf (L[k]) (List.getElem_mem hlt)
      have AK := AM (L[k])
      generalize L[k]'hlt = i at *
      obtain ⟨op, a, b, c, N⟩ := i
      dsimp only at x0 x1 x2 x3 x4
      have hNb : 0 ≤ N ∧ N < 18446744073709551616 := hw5.2.2.2.2
      have ka := (Keeps.refl (fun _ => False) wr).alloc (.cells #[.int .i64 op, .int .i64 a, .int .i64 b, .int .i64 c, .int .u64 N] 45)
      have hbi := alloc_block wr (.cells #[.int .i64 op, .int .i64 a, .int .i64 b, .int .i64 c, .int .u64 N] 45)
      have hgb := (ka.block _ (lt_of_block hP.out.2) (fun f => f)).trans hP.out.2
      have hsn : ∀ j, markB (L.take (k + 1)) L.length j = (markB (L.take k) L.length j || (aimB ⟨op, a, b, c, N⟩ L.length && decide (N = (j : Int)))) := fun j => by rw [htk, markB_snoc]
      cases haim : aimB ⟨op, a, b, c, N⟩ L.length
      · rw [haim] at AK
        have hres : Hid (∀ X, Keeps (fun _ => False) (wr.alloc (.cells #[.int .i64 op, .int .i64 a, .int .i64 b, .int .i64 c, .int .u64 N] 45)) X → Keeps (fun _ => False) w X ∧ X.heap[g]? = some (.cells (boolsV (markB (L.take (k + 1)) L.length) (L.length + 1)) 4 (0, 0))) := fun X kX => by
          refine ⟨(hP.out.1.trans ka).trans kX, ?_⟩
          rw [show (markB (L.take (k + 1)) L.length) = markB (L.take k) L.length from funext fun j => by rw [hsn j, haim]; simp]
          exact (kX.block _ (lt_of_block hgb) (fun f => f)).trans hgb
        clear hsn haim hgb hP ka hbi htk hw5
        go_wp2_with fail
        refine (AK _).mono ?_
        rintro e X ⟨rfl, kX⟩
        have hr := hres.out X kX
        clear AK hres
        go_wp2_with fail
        go_roundw
        · exact ⟨k + 1, by simp, by omega, hr⟩
        · simp [intOf]; omega
      · rw [haim] at AK
        have hNle : N ≤ L.length := by
          unfold aimB at haim
          simp only [Bool.and_eq_true, decide_eq_true_eq] at haim
          exact haim.2
        obtain ⟨q, rfl⟩ : ∃ q : Nat, N = q := ⟨N.toNat, by omega⟩
        obtain ⟨bi, hbie⟩ : ∃ bi, bi = wr.heap.size := ⟨_, rfl⟩
        have hres : Hid (∀ X, Keeps (fun _ => False) (wr.alloc (.cells #[.int .i64 op, .int .i64 a, .int .i64 b, .int .i64 c, .int .u64 (q : Int)] 45)) X → X.cell? ⟨bi, 4, none⟩ = some (.int .u64 (q : Int)) ∧ X.cell? ⟨g, q, none⟩ = some (.bool (markB (L.take k) L.length q)) ∧ X.frozen? ⟨g, q, none⟩ = false ∧ Keeps (fun _ => False) w (X.setCell ⟨g, q, none⟩ (.bool true)) ∧ (X.setCell ⟨g, q, none⟩ (.bool true)).heap[g]? = some (.cells (boolsV (markB (L.take (k + 1)) L.length) (L.length + 1)) 4 (0, 0))) := fun X kX => by
          have hX := (kX.block _ (lt_of_block hgb) (fun f => f)).trans hgb
          have hXi := (kX.block _ (lt_of_block hbi) (fun f => f)).trans hbi
          refine ⟨by rw [hbie]; exact cell_of_block hXi 4, (cell_of_block hX q).trans (boolsV_get _ (by omega)), frozen_of_block hX q, ?_, ?_⟩
          · exact ((hP.out.1.trans ka).trans kX).setCell (p := ⟨g, q, none⟩) (.inl (by show w.heap.size ≤ g; rw [HG.out]; exact Nat.le_refl _)) _
          · have := block_set hX q (.bool true)
            rw [boolsV_set] at this
            rw [this, show (markB (L.take (k + 1)) L.length) = (fun j => markB (L.take k) L.length j || decide (j = q)) from funext fun j => by
              rw [hsn j, haim]
              have : decide ((q : Int) = (j : Int)) = decide (j = q) := by congr 1; simp only [eq_iff_iff]; omega
              simp [this]]
        have HBI : Hid (bi = wr.heap.size) := hbie
        have hqi : (q : Int) < (L.length : Int) + 1 := by omega
        clear hsn haim hgb hP ka hbi htk hw5 hbie
        go_wp2_with fail
        refine (AK _).mono ?_
        rintro e X ⟨rfl, kX⟩
        obtain ⟨r1, r2, r3, r4, r5⟩ := hres.out X kX
        rw [← HBI.out]
        clear AK hres kX
        go_wp2_with fail
        go_roundw
        · exact ⟨k + 1, by simp, by omega, ⟨r4, r5⟩⟩
        · simp [intOf]; omega
    · obtain rfl : k = L.length := by omega
      have h1 := hP.out.1
      have h2 := hP.out.2
      rw [List.take_length] at h2
      have hgs : w.heap.size ≤ g := by rw [HG.out]; exact Nat.le_refl _
      clear hP HI
      go_wp2_with fail
      go_ret
      exact ⟨g, rfl, hgs, h2, h1⟩
end Go.Proofs.YtppejcfghlpbjaaGreatDoor


/- Walk of List (package asm). No statement of the seat is proved here. -/
namespace Go.Proofs.YtppejcfghlpbjaaGreatDoor
open Go.RowKit Go.Shelf

/-- An instruction's line in a list. -/
def pieceL (L : List I5) (k : Nat) (i : I5) : List UInt8 := (if markB L L.length k then placeL k ++ [58, 32] else []) ++ ((if aimB i L.length then namedL (textL i) else textL i) ++ [10])
def listK (L : List I5) : Nat → List UInt8
  | 0 => []
  | k + 1 => listK L k ++ pieceL L k ((L[k]?).getD ⟨0, 0, 0, 0, 0⟩)
def listL (L : List I5) : List UInt8 := listK L L.length ++ (if markB L L.length L.length then placeL L.length ++ [58, 10] else [])
theorem placeL_len (k : Nat) (hk : k < 18446744073709551616) : (placeL k).length ≤ 21 := by
  have : (Lib.decDigits k).length ≤ 20 := by rw [Lib.decDigits_length]; exact Lib.nDigits_le20 _ hk
  simp [placeL]; omega
theorem namedL_len (l : List UInt8) : (namedL l).length = l.length + 1 := by
  have := (cutAt_spec l).2
  simp [namedL]; omega
/-- The builder and the marks while a program is listed. -/
structure LsI (w : World) (b g bi : Nat) (M I : Array Value) (X : World) (l : List UInt8) : Prop where
  bld : Bld X w.heap.size b l
  mks : X.heap[g]? = some (.cells M 4 (0, 0))
  ins : X.heap[bi]? = some (.cells I 45 (0, 0))
  kw : Keeps (fun _ => False) w X
  gb : g ≠ b
  ib : bi ≠ b
theorem LsI.keeps {w : World} {b g bi : Nat} {M I : Array Value} {X X' : World} {l : List UInt8} (h : LsI w b g bi M I X l) (k : Keeps (fun _ => False) X X') : LsI w b g bi M I X' l :=
  ⟨h.bld.keeps k, (k.block _ (lt_of_block h.mks) (fun f => f)).trans h.mks, (k.block _ (lt_of_block h.ins) (fun f => f)).trans h.ins, h.kw.trans k, h.gb, h.ib⟩
theorem keeps_upon {w X X' : World} (k : Keeps (fun _ => False) w X) (h : Below w.heap.size X X') : Keeps (fun _ => False) w X' :=
  ⟨h.os.trans k.os, h.tape.trans k.tape, h.output.trans k.output, Nat.le_trans k.size h.size, fun q hq hs => (h.block q hq).trans (k.block q hq hs)⟩
theorem LsI.write {w : World} {b g bi : Nat} {M I : Array Value} {X : World} {l : List UInt8} (h : LsI w b g bi M I X l) (x : List UInt8) (hb : l.length + x.length ≤ 140737488355328) :
    Calls Tryz.prog 19 #[.pointer (some ⟨b, 0, none⟩), .string ⟨x.toArray⟩] X fun e X' => (∃ n, e = .returned (.tuple #[.int .i64 n, .nilIface])) ∧ LsI w b g bi M I X' (l ++ x) := by
  refine (write_any x l _ b X h.bld hb).mono fun e X' ⟨h1, h2, h3, h4⟩ => ⟨h1, h2, ?_, ?_, keeps_upon h.kw h3, h.gb, h.ib⟩
  · exact h4 g _ h.mks (fun e => h.gb (Option.some.inj e)) (fun c fz e => by cases e)
  · exact h4 bi _ h.ins (fun e => h.ib (Option.some.inj e)) (fun c fz e => by cases e)

/-- What List answers. -/
def LsPost (L : List I5) (e : Ending) : Prop := (L.all formedB = true → e = .returned (.tuple #[.string ⟨(listL L).toArray⟩, .int .i64 0])) ∧ (L.all formedB = false → e = .returned (.tuple #[.string ⟨#[]⟩, .int .i64 180]))

set_option maxRecDepth 100000 in
set_option maxHeartbeats 8000000 in
theorem list_any (v : Value) (L : List I5) (hL : L.length ≤ 65536) (w : World) (hw : Gp w) (h : InsAt w v L) : Calls Tryz.prog 15 #[v] w fun e w' => LsPost L e ∧ Keeps (fun _ => False) w w' := by
  have HI : Hid (∀ X, Keeps (fun _ => False) w X → InsAt X v L) := fun X k => h.keeps k
  have hLi : (L.length : Int) ≤ 65536 := by omega
  have k0 := (Keeps.refl (fun _ => False) w).alloc (.cells #[.pointer none, .slice none 0 0] 54)
  have TG := targets_any v L (by omega) _ (h.keeps k0)
  have B0 := Bld.new w
  obtain ⟨⟨a0, c0, rfl, _⟩, hwf, _⟩ := h
  have HW : Hid (∀ i ∈ L, i.wf) := hwf
  have PN := fun n hn X (hX : Keeps (fun _ => False) w X) => placeName_any n hn X (hw.keeps hX)
  have TXY := fun i hf h0 h1 X (hX : Keeps (fun _ => False) w X) => text_yes i hf h0 h1 X (hw.keeps hX).gl.nms
  have TXN := fun i hf (X : World) => text_no i hf X
  have AM := fun i => aims_any i L.length (by omega)
  obtain ⟨b, hb⟩ : ∃ b, b = w.heap.size := ⟨_, rfl⟩
  have HB : Hid (b = w.heap.size) := hb
  go_enter Tryz.func15, Tryz.ntmps15
  go_wp2_with fail
  refine TG.mono ?_
  rintro e w1 ⟨g, rfl, hg0, hg1, kg⟩
  rw [← hb]
  have hgb : g ≠ b := by rw [World.size_alloc] at hg0; omega
  have S0 : Hid (Bld w1 w.heap.size b [] ∧ w1.heap[g]? = some (.cells (boolsV (markB L L.length) (L.length + 1)) 4 (0, 0)) ∧ Keeps (fun _ => False) w w1) := ⟨by rw [hb]; exact B0.keeps kg, hg1, k0.trans kg⟩
  clear TG B0 k0 kg hg0 hg1 hwf hb
  go_wp2_with fail
  go_loopw [14] (fun u wr => ∃ k : Nat, u = .int .i64 k ∧ k ≤ L.length ∧ Hid ((L.take k).all formedB = true ∧ (listK L k).length ≤ 128 * k ∧ Bld wr w.heap.size b (listK L k) ∧ wr.heap[g]? = some (.cells (boolsV (markB L L.length) (L.length + 1)) 4 (0, 0)) ∧ Keeps (fun _ => False) w wr)) (fun u _ => L.length - (intOf u).toNat)
  case atStart => exact ⟨0, rfl, Nat.zero_le _, ⟨by simp, by simp [listK], S0.out⟩⟩
  case round =>
    obtain ⟨k, rfl, hk, hP⟩ := hrel
    clear S0
    by_cases hlt : k < L.length
    · obtain ⟨ga, off, cap, hv, x0, x1, x2, x3, x4⟩ := (HI.out wr hP.out.2.2.2.2).at k hlt
      simp only [Value.slice.injEq] at hv
      obtain ⟨rfl, -, rfl⟩ := hv
      have hki : (k : Int) < L.length := by omega
      have htk : L.take (k + 1) = L.take k ++ [L[k]] := List.take_succ_eq_append_getElem hlt
      have hw5 := HW.out (L[k]) (List.getElem_mem hlt)
      have hpc : Hid (listK L (k + 1) = listK L k ++ pieceL L k (L[k])) := by
        unfold Hid
        rw [listK, List.getElem?_eq_getElem hlt]; rfl
      have hmem : Hid (formedB (L[k]) = false → L.all formedB = false) := fun hf => by
        rw [List.all_eq_false]
        exact ⟨L[k], List.getElem_mem hlt, by rw [hf]; simp⟩
      have AK := AM (L[k])
      generalize L[k]'hlt = i at *
      have ka := (Keeps.refl (fun _ => False) wr).alloc (.cells i.cells 45)
      have hbi := alloc_block wr (.cells i.cells 45)
      obtain ⟨bi, hbie⟩ : ∃ bi, bi = wr.heap.size := ⟨_, rfl⟩
      have HBI : Hid (bi = wr.heap.size) := hbie
      have HS : Hid (LsI w b g bi (boolsV (markB L L.length) (L.length + 1)) i.cells (wr.alloc (.cells i.cells 45)) (listK L k)) :=
        ⟨hP.out.2.2.1.keeps ka, (ka.block _ (lt_of_block hP.out.2.2.2.1) (fun f => f)).trans hP.out.2.2.2.1, by rw [hbie]; exact hbi, hP.out.2.2.2.2.trans ka, hgb, by
          have : b < wr.heap.size := by
            rcases hP.out.2.2.1.1 with q | q
            · exact q.lt
            · exact q.lt
          omega⟩
      have hall : Hid (formedB i = true → (L.take (k + 1)).all formedB = true) := fun hf => by rw [htk, List.all_append, hP.out.1]; simp [hf]
      have hln := hP.out.2.1
      have hn0 := hw5.2.2.2.2.1
      have hn1 := hw5.2.2.2.2.2
      cases hform : formedB i
      · have hF := hmem.out hform
        have TX := TXN i hform
        have kk := hP.out.2.2.2.2.trans ka
        obtain ⟨op, a, bb, c, N⟩ := i
        dsimp only at x0 x1 x2 x3 x4
        clear hP HS hall hpc hmem hbi ka htk TXY TXN AM AK PN hbie
        go_wp2_with fail
        refine (TX _).mono ?_
        rintro e X ⟨rfl, kX⟩
        have kkX := kk.trans kX
        clear TX
        go_wp2_with fail
        go_ret2
        exact ⟨⟨fun hq => (by rw [hF] at hq; cases hq), fun _ => rfl⟩, kkX⟩
      · have hal := hall.out hform
        have htl := text_len hform hn0 hn1
        have TX := TXY i hform hn0 hn1 _ HS.out.kw
        have hmkc : ∀ X l, LsI w b g bi (boolsV (markB L L.length) (L.length + 1)) i.cells X l → X.cell? ⟨g, k, none⟩ = some (.bool (markB L L.length k)) := fun X l hX => (cell_of_block hX.mks k).trans (boolsV_get _ (by omega))
        have hpl := placeL_len k (by omega)
        have hnl := namedL_len (textL i)
        have hpiece : Hid (pieceL L k i = (if markB L L.length k then placeL k ++ [58, 32] else []) ++ ((if aimB i L.length then namedL (textL i) else textL i) ++ [10])) := rfl
        have NL := named_line (textL i) (by omega)
        have HWR : Hid (∀ (x : List UInt8) X l, LsI w b g bi (boolsV (markB L L.length) (L.length + 1)) i.cells X l → l.length + x.length ≤ 140737488355328 → Calls Tryz.prog 19 #[.pointer (some ⟨b, 0, none⟩), .string ⟨x.toArray⟩] X fun e X' => (∃ n, e = .returned (.tuple #[.int .i64 n, .nilIface])) ∧ LsI w b g bi (boolsV (markB L L.length) (L.length + 1)) i.cells X' (l ++ x)) := fun x X l hX hb => hX.write x hb
        have HMK : Hid (∀ X l, LsI w b g bi (boolsV (markB L L.length) (L.length + 1)) i.cells X l → X.cell? ⟨g, k, none⟩ = some (.bool (markB L L.length k))) := hmkc
        have HIN : Hid (∀ X l, LsI w b g bi (boolsV (markB L L.length) (L.length + 1)) i.cells X l → X.cell? ⟨bi, 0, none⟩ = some (.int .i64 i.op) ∧ X.cell? ⟨bi, 1, none⟩ = some (.int .i64 i.a) ∧ X.cell? ⟨bi, 2, none⟩ = some (.int .i64 i.b) ∧ X.cell? ⟨bi, 3, none⟩ = some (.int .i64 i.c) ∧ X.cell? ⟨bi, 4, none⟩ = some (.int .u64 i.n)) := fun X l hX => ⟨cell_of_block hX.ins 0, cell_of_block hX.ins 1, cell_of_block hX.ins 2, cell_of_block hX.ins 3, cell_of_block hX.ins 4⟩
        have HKP : Hid (∀ X l, LsI w b g bi (boolsV (markB L L.length) (L.length + 1)) i.cells X l → Bld X w.heap.size b l ∧ X.heap[g]? = some (.cells (boolsV (markB L L.length) (L.length + 1)) 4 (0, 0)) ∧ Keeps (fun _ => False) w X) := fun X l hX => ⟨hX.bld, hX.mks, hX.kw⟩
        have HKE : Hid (∀ X X' l, LsI w b g bi (boolsV (markB L L.length) (L.length + 1)) i.cells X l → Keeps (fun _ => False) X X' → LsI w b g bi (boolsV (markB L L.length) (L.length + 1)) i.cells X' l) := fun X X' l hX kX => hX.keeps kX
        have HPN := PN k (by omega)
        have tm1 : ¬ 9223372036854775807 < (placeL k).length + 2 := by omega
        have tm2 : ¬ 9223372036854775807 < (textL i).length + 1 := by omega
        have tm3 : ¬ 9223372036854775807 < (namedL (textL i)).length + 1 := by omega
        clear hmkc hP hall hmem hbi ka htk TXY TXN AM PN hbie
        generalize textL i = tx at *
        obtain ⟨op, a, bb, c, N⟩ := i
        dsimp only at x0 x1 x2 x3 x4
        have hLc : Hid (listK L (k + 1) = listK L k ++ pieceL L k ⟨op, a, bb, c, N⟩) := hpc
        clear hpc
        generalize listK L k = lk at *
        generalize placeL k = pk at *
        generalize namedL tx = nx at *
        have HWZ : Hid (∀ (x y : List UInt8) X l, LsI w b g bi (boolsV (markB L L.length) (L.length + 1)) #[.int .i64 op, .int .i64 a, .int .i64 bb, .int .i64 c, .int .u64 N] X l → l.length + (x ++ y).length ≤ 140737488355328 → Calls Tryz.prog 19 #[.pointer (some ⟨b, 0, none⟩), .string (⟨x.toArray⟩ ++ ⟨y.toArray⟩)] X fun e X' => (∃ n, e = .returned (.tuple #[.int .i64 n, .nilIface])) ∧ LsI w b g bi (boolsV (markB L L.length) (L.length + 1)) #[.int .i64 op, .int .i64 a, .int .i64 bb, .int .i64 c, .int .u64 N] X' (l ++ (x ++ y))) := fun x y X l hX hb => by
          rw [str_app]
          exact HWR.out (x ++ y) X l hX hb
        have HFI : Hid (∀ X l, LsI w b g bi (boolsV (markB L L.length) (L.length + 1)) #[.int .i64 op, .int .i64 a, .int .i64 bb, .int .i64 c, .int .u64 N] X l → l = listK L (k + 1) → l.length ≤ 128 * (k + 1) → Hid ((L.take (k + 1)).all formedB = true ∧ (listK L (k + 1)).length ≤ 128 * (k + 1) ∧ Bld X w.heap.size b (listK L (k + 1)) ∧ X.heap[g]? = some (.cells (boolsV (markB L L.length) (L.length + 1)) 4 (0, 0)) ∧ Keeps (fun _ => False) w X)) := fun X l hX he hl => by
          subst he
          exact ⟨hal, hl, HKP.out X _ hX⟩
        clear HWR HKP hal
        go_wp2_with fail
        refine TX.mono ?_
        rintro e X1 ⟨rfl, kX1⟩
        rw [← HBI.out]
        have I1 := HKE.out _ X1 _ HS.out kX1
        have m1 := HMK.out _ _ I1
        clear TX
        cases hmark : markB L L.length k
        · rw [hmark] at m1 hpiece
          obtain ⟨j0, j1, j2, j3, j4⟩ := HIN.out _ _ I1
          have HI1 : Hid (LsI w b g bi (boolsV (markB L L.length) (L.length + 1)) #[.int .i64 op, .int .i64 a, .int .i64 bb, .int .i64 c, .int .u64 N] X1 lk) := I1
          clear I1
          go_wp2_with fail
          refine (AK _).mono ?_
          rintro e X2 ⟨rfl, kX2⟩
          have I2 := HKE.out _ X2 _ HI1.out kX2
          clear AK HI1 j0 j1 j2 j3 j4 m1
          cases haim : aimB ⟨op, a, bb, c, N⟩ L.length
          · rw [haim] at hpiece
            go_wp2_with fail
            refine (HWZ.out tx [10] _ _ I2 ?_).mono ?_
            · simp only [List.length_append, List.length_cons, List.length_nil]; omega
            rintro e XF ⟨⟨n, rfl⟩, IF⟩
            have FI := HFI.out XF _ IF (by rw [hLc.out, hpiece.out]; simp) (by simp only [List.length_append, List.length_cons, List.length_nil]; omega)
            clear IF HWZ HFI
            go_wp2_with fail
            go_roundw
            · exact ⟨k + 1, by simp, by omega, FI⟩
            · simp [intOf]; omega
          · rw [haim] at hpiece
            go_wp2_with fail
            refine (NL _).mono ?_
            rintro e X3 ⟨rfl, kX3⟩
            have I3 := HKE.out _ X3 _ I2 kX3
            clear I2
            go_wp2_with fail
            refine (HWZ.out nx [10] _ _ I3 ?_).mono ?_
            · simp only [List.length_append, List.length_cons, List.length_nil]; omega
            rintro e XF ⟨⟨n, rfl⟩, IF⟩
            have FI := HFI.out XF _ IF (by rw [hLc.out, hpiece.out]; simp) (by simp only [List.length_append, List.length_cons, List.length_nil]; omega)
            clear IF HWZ HFI
            go_wp2_with fail
            go_roundw
            · exact ⟨k + 1, by simp, by omega, FI⟩
            · simp [intOf]; omega
        · rw [hmark] at m1 hpiece
          go_wp2_with fail
          refine (HPN _ ?_).mono ?_
          · exact I1.kw
          rintro e X1a ⟨rfl, kX1a⟩
          have I1a := HKE.out _ X1a _ I1 kX1a
          clear I1
          go_wp2_with fail
          refine (HWZ.out pk [58, 32] _ _ I1a ?_).mono ?_
          · simp only [List.length_append, List.length_cons, List.length_nil]; omega
          rintro e X1b ⟨⟨n1, rfl⟩, I1b⟩
          clear I1a
          obtain ⟨j0, j1, j2, j3, j4⟩ := HIN.out _ _ I1b
          have HI1 : Hid (LsI w b g bi (boolsV (markB L L.length) (L.length + 1)) #[.int .i64 op, .int .i64 a, .int .i64 bb, .int .i64 c, .int .u64 N] X1b (lk ++ (pk ++ [58, 32]))) := I1b
          clear I1b
          go_wp2_with fail
          refine (AK _).mono ?_
          rintro e X2 ⟨rfl, kX2⟩
          have I2 := HKE.out _ X2 _ HI1.out kX2
          clear AK HI1 j0 j1 j2 j3 j4 m1
          cases haim : aimB ⟨op, a, bb, c, N⟩ L.length
          · rw [haim] at hpiece
            go_wp2_with fail
            refine (HWZ.out tx [10] _ _ I2 ?_).mono ?_
            · simp only [List.length_append, List.length_cons, List.length_nil]; omega
            rintro e XF ⟨⟨n, rfl⟩, IF⟩
            have FI := HFI.out XF _ IF (by rw [hLc.out, hpiece.out]; simp) (by simp only [List.length_append, List.length_cons, List.length_nil]; omega)
            clear IF HWZ HFI
            go_wp2_with fail
            go_roundw
            · exact ⟨k + 1, by simp, by omega, FI⟩
            · simp [intOf]; omega
          · rw [haim] at hpiece
            go_wp2_with fail
            refine (NL _).mono ?_
            rintro e X3 ⟨rfl, kX3⟩
            have I3 := HKE.out _ X3 _ I2 kX3
            clear I2
            go_wp2_with fail
            refine (HWZ.out nx [10] _ _ I3 ?_).mono ?_
            · simp only [List.length_append, List.length_cons, List.length_nil]; omega
            rintro e XF ⟨⟨n, rfl⟩, IF⟩
            have FI := HFI.out XF _ IF (by rw [hLc.out, hpiece.out]; simp) (by simp only [List.length_append, List.length_cons, List.length_nil]; omega)
            clear IF HWZ HFI
            go_wp2_with fail
            go_roundw
            · exact ⟨k + 1, by simp, by omega, FI⟩
            · simp [intOf]; omega
    · obtain rfl : k = L.length := by omega
      have hP1 := hP.out.1
      rw [List.take_length] at hP1
      have hm := (cell_of_block hP.out.2.2.2.1 L.length).trans (boolsV_get (markB L L.length) (Nat.lt_succ_self _))
      have hpl := placeL_len L.length (by omega)
      have tm1 : ¬ 9223372036854775807 < (placeL L.length).length + 2 := by omega
      have hli : Hid (listL L = listK L L.length ++ (if markB L L.length L.length then placeL L.length ++ [58, 10] else [])) := rfl
      cases hmark : markB L L.length L.length
      · rw [hmark] at hm hli
        have BS := bstring_any _ _ _ _ hP.out.2.2.1
        have hkw := hP.out.2.2.2.2
        clear hP HI PN TXY TXN AM
        go_wp2_with fail
        refine BS.mono ?_
        rintro e X ⟨rfl, hX⟩
        have kk := keeps_upon hkw hX
        clear BS
        go_wp2_with fail
        go_ret2
        exact ⟨⟨fun _ => by rw [hli.out]; simp, fun hq => (by rw [hP1] at hq; cases hq)⟩, kk⟩
      · rw [hmark] at hm hli
        have hkw := hP.out.2.2.2.2
        have hbl := hP.out.2.2.1
        have hlen := hP.out.2.1
        have PK := PN L.length (by omega)
        have HWE : Hid (∀ X, Keeps (fun _ => False) wr X → Calls Tryz.prog 19 #[.pointer (some ⟨b, 0, none⟩), .string (⟨(placeL L.length).toArray⟩ ++ ⟨#[58, 10]⟩)] X fun e X' => (∃ n, e = .returned (.tuple #[.int .i64 n, .nilIface])) ∧ Bld X' w.heap.size b (listK L L.length ++ (placeL L.length ++ [58, 10])) ∧ Keeps (fun _ => False) w X') := fun X kX => by
          have := str_app (placeL L.length) [58, 10]
          rw [this]
          exact (write_any _ _ _ b X (hbl.keeps kX) (by simp only [List.length_append, List.length_cons, List.length_nil]; omega)).mono fun e X' ⟨h1, h2, h3, _⟩ => ⟨h1, h2, keeps_upon (hkw.trans kX) h3⟩
        clear hP HI PN TXY TXN AM
        go_wp2_with fail
        refine (PK _ ?_).mono ?_
        · exact hkw
        rintro e X ⟨rfl, hX⟩
        have WE := HWE.out X hX
        clear PK HWE
        go_wp2_with fail
        refine WE.mono ?_
        rintro e X' ⟨⟨n, rfl⟩, hb', kX'⟩
        have BS := bstring_any _ _ _ _ hb'
        clear WE
        go_wp2_with fail
        refine BS.mono ?_
        rintro e X'' ⟨rfl, hX''⟩
        have kk := keeps_upon kX' hX''
        clear BS
        go_wp2_with fail
        go_ret2
        exact ⟨⟨fun _ => by rw [hli.out]; simp, fun hq => (by rw [hP1] at hq; cases hq)⟩, kk⟩
end Go.Proofs.YtppejcfghlpbjaaGreatDoor


/- Walk of known (the law's small text). No statement of the seat is proved here. -/
namespace Go.Proofs.YtppejcfghlpbjaaGreatDoor
open Go.RowKit Go.Shelf

def knownS : List UInt8 := [97, 58, 32, 103, 101, 116, 32, 48, 32, 49, 32, 59, 32, 120, 10, 32, 106, 117, 109, 112, 32, 97]
def knownL : List UInt8 := [112, 48, 58, 32, 103, 101, 116, 32, 48, 32, 49, 10, 106, 117, 109, 112, 32, 112, 48, 10]
def knownC : List I5 := (((readT knownS).2).getD ([], [])).1
def knownB : List (List UInt8 × Nat) := (((readT knownS).2).getD ([], [])).2
theorem known_read : readT knownS = (2, some (knownC, knownB)) := by kernel_rfl
theorem known_len : knownC.length = 2 := by kernel_rfl
theorem known_all : knownC.all formedB = true := by kernel_rfl
theorem known_list : listL knownC = knownL := by kernel_rfl
theorem known_one : knownC[1]'(by rw [known_len]; decide) = ⟨8, 0, 0, 0, 0⟩ := by kernel_rfl

set_option maxRecDepth 100000 in
set_option maxHeartbeats 2000000 in
theorem known_any (w : World) (hw : Gp w) : Calls Tryz.prog 6 #[] w fun e w' => e = .returned (.bool true) ∧ Keeps (fun _ => False) w w' := by
  have AP := aparse_any knownS (by decide) w hw.gl
  unfold PrPost at AP
  rw [known_read] at AP
  dsimp only at AP
  have HLS : Hid (∀ X v, Keeps (fun _ => False) w X → InsAt X v knownC → Calls Tryz.prog 15 #[v] X fun e X' => e = .returned (.tuple #[.string ⟨#[112, 48, 58, 32, 103, 101, 116, 32, 48, 32, 49, 10, 106, 117, 109, 112, 32, 112, 48, 10]⟩, .int .i64 0]) ∧ Keeps (fun _ => False) X X') := fun X v hX hi =>
    (list_any v knownC (by rw [known_len]; decide) X (hw.keeps hX) hi).mono fun e X' ⟨h1, h2⟩ => ⟨(h1.1 known_all).trans (by rw [known_list]; rfl), h2⟩
  go_enter Tryz.func6, Tryz.ntmps6
  go_wp2_with fail
  refine AP.mono ?_
  rintro e w1 ⟨⟨vc, rfl, hi, hwf⟩, k1⟩
  have hin := hi.insAt hwf (by rw [known_len]; decide)
  obtain ⟨cb, cc, rfl⟩ := hi.form
  have LS := HLS.out w1 _ k1 hin
  rw [known_len] at LS hin
  clear AP HLS hi hwf
  rw [known_len]
  go_wp2_with fail
  refine LS.mono ?_
  rintro e w2 ⟨rfl, k2⟩
  obtain ⟨g, off, cap, hv, x0, x1, x2, x3, x4⟩ := (hin.keeps k2).at 1 (by rw [known_len]; decide)
  simp only [Value.slice.injEq] at hv
  obtain ⟨rfl, -, rfl⟩ := hv
  rw [known_one] at x0 x1 x2 x3 x4
  dsimp only at x0 x1 x2 x3 x4
  have kk := k1.trans k2
  clear LS hin
  go_wp2_with fail
  go_ret
  exact ⟨rfl, kk⟩
end Go.Proofs.YtppejcfghlpbjaaGreatDoor
