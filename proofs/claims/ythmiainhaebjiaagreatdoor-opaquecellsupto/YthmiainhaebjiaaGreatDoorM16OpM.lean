/-
  No statement of the seat is proved here. (Several texts in one: OpM, OpN, OpNs.)
-/
import Derived.Test.YthmiainhaebjiaaGreatDoorM15OrC
import Derived.WalkMore

/- The library's walk over a row of stands, the last one first, as an iterator. No statement of the seat is proved here. -/
namespace Go.Proofs.YthmiainhaebjiaaGreatDoor
open Go.RowKit Go.Shelf
attribute [local go_sem] Oper.semAt_some

/-- The cells of S are as they were. -/
structure KeptOn (S : Nat → Prop) (W W' : World) : Prop where
  size : W.heap.size ≤ W'.heap.size
  block : ∀ (k : Nat) (c : Array Value) (t : TypeId) (fr : Nat × Nat), S k → W.heap[k]? = some (.cells c t fr) → W'.heap[k]? = some (.cells c t fr)
theorem KeptOn.trans {S : Nat → Prop} {X Y Z : World} (h : KeptOn S X Y) (k : KeptOn S Y Z) : KeptOn S X Z := ⟨Nat.le_trans h.size k.size, fun i c t fr hS hi => k.block i c t fr hS (h.block i c t fr hS hi)⟩
theorem KeptOn.putObj {S : Nat → Prop} (W : World) (l : Nat) (o o' : Obj) (hl : W.heap[l]? = some o) (ho : o.isCells = false) : KeptOn S W (W.putObj l o') :=
  ⟨by simp, fun k c t fr _ hk => (World.putObj_heap_other (fun e => by
    subst e
    rw [hk] at hl
    cases hl
    simp [Obj.isCells] at ho)).trans hk⟩
theorem KeptOn.keeps {S T : Nat → Prop} {W W' : World} (h : Keeps T W W') (hS : ∀ k, S k → ¬ T k) : KeptOn S W W' :=
  ⟨h.size, fun k _ _ _ hs hk => (h.block k (lt_of_block hk) (hS _ hs)).trans hk⟩
theorem block_kept {A B : World} {row : Option Nat} {k : Nat} {c : Array Value} {t : TypeId} {fr : Nat × Nat} (h : A.heap[k]? = some (.cells c t fr)) (hg : A.grownBy B row) (hr : ∀ r, row = some r → ∃ o : Obj, A.heap[r]? = some o ∧ o.isCells = false) : B.heap[k]? = some (.cells c t fr) :=
  (hg.block k (lt_of_block h) (fun e => by
    obtain ⟨o, ho, hc⟩ := hr k e.symm
    rw [h] at ho
    cases ho
    simp [Obj.isCells] at hc)).trans h
theorem keeps_grown {w w' : World} {row : Option Nat} (h : w.grownBy w' row) : Keeps (fun k => row = some k) w w' :=
  ⟨h.os, h.tape, h.output, h.size, fun k hk hs => h.block k hk (fun e => hs e.symm)⟩
theorem ownFrom_keeps {β : Type} {S : Nat → Prop} {a : World} {B : Nat} (hB : a.heap.size ≤ B) : OwnFrom B (fun (_ : β) W => Keeps S a W) :=
  fun _ A C row hs hg hr => ⟨hg.os.trans hs.os, hg.tape.trans hs.tape, hg.output.trans hs.output, Nat.le_trans hs.size hg.size, fun k hk hns => (hg.block k (Nat.lt_of_lt_of_le hk hs.size) (fun e => by have := (hr k e.symm).1; omega)).trans (hs.block k hk hns)⟩
/-- A cell lies in a block of cells. -/
theorem cells_of_cell {w : World} {g o : Nat} {v : Value} (h : w.cell? ⟨g, o, none⟩ = some v) : ∃ c t fr, w.heap[g]? = some (.cells c t fr) := by
  unfold World.cell? at h
  dsimp only at h
  split at h
  · exact ⟨_, _, _, by assumption⟩
  · cases h
theorem KeptOn.cell {S : Nat → Prop} {W W' : World} (k : KeptOn S W W') {g o : Nat} {v : Value} (hs : S g) (h : W.cell? ⟨g, o, none⟩ = some v) : W'.cell? ⟨g, o, none⟩ = some v := by
  obtain ⟨c, t, fr, hb⟩ := cells_of_cell h
  rw [cell_of_block (k.block g c t fr hs hb), ← h, cell_of_block hb]
theorem ElsAt.on {α : Type} {c : α → List Value} {sz : Nat} {w w' : World} {a : Option Addr} {n cap : Nat} {L : List α} {S : Nat → Prop} (h : ElsAt c sz w (.slice a n cap) L) (k : KeptOn S w w') (hs : ∀ g off, a = some ⟨g, off, none⟩ → S g) : ElsAt c sz w' (.slice a n cap) L := by
  obtain ⟨a', cap', hv, hcap⟩ := h.shape
  injection hv with e1 e2 e3
  subst e1 e2 e3
  refine ⟨a, cap, rfl, hcap, fun j hj => ?_⟩
  obtain ⟨g, off, ha, hc⟩ := h.at j hj
  exact ⟨g, off, ha, fun f x hx => k.cell (hs g off ha) (hc f x hx)⟩
/-- The stands that are walked over: the walk's own variable, and their cells. -/
structure BkAt (W : World) (bx : Nat) (a : Option Addr) (c : Nat) (l : List (Int × Int)) : Prop where
  box : W.heap[bx]? = some (.cells #[.slice a l.length c] 109 (0, 0))
  els : ElsAt stC 2 W (.slice a l.length c) l
def BkOn (bx : Nat) (a : Option Addr) (k : Nat) : Prop := k = bx ∨ ∃ off, a = some ⟨k, off, none⟩
theorem BkAt.kept {W W' : World} {bx : Nat} {a : Option Addr} {c : Nat} {l : List (Int × Int)} (h : BkAt W bx a c l) (k : KeptOn (BkOn bx a) W W') : BkAt W' bx a c l :=
  ⟨k.block _ _ _ _ (.inl rfl) h.box, h.els.on k fun _ off e => .inr ⟨off, e⟩⟩
theorem BkAt.below {W W' : World} {bx : Nat} {a : Option Addr} {c : Nat} {l : List (Int × Int)} (h : BkAt W bx a c l) (k : Below W.heap.size W W') : BkAt W' bx a c l :=
  h.kept ⟨k.size, fun i _ _ _ _ hi => (k.block i (lt_of_block hi)).trans hi⟩
def bkE (x : Nat × (Int × Int)) : Array Value := #[.int .i64 (x.1 : Nat), .agg #[.int .i64 x.2.1, .int .u64 x.2.2]]
def bkX (l : List (Int × Int)) (k : Nat) : Nat × (Int × Int) := (l.length - 1 - k, (l[l.length - 1 - k]?).getD (0, 0))
set_option maxRecDepth 100000 in
set_option maxHeartbeats 2000000 in
theorem bk1_in (n : Nat) (hn : 1 ≤ n) (l bx c : Nat) (a : Option Addr) (L : List (Int × Int)) (hm : L.length ≤ 4398046511104) (J Jx : List (Nat × (Int × Int)) → World → Prop) (W : World)
    (hY : ∀ pre x W1, J pre W1 → pre.length < L.length → x = bkX L pre.length → YieldAt Fence.wide (n - 1) Tryz.prog l (bkE x) W1 fun e W' =>
      (e = .returned (.bool true) ∧ J (pre ++ [x]) W' ∧ KeptOn (BkOn bx a) W1 W') ∨ (e = .returned (.bool false) ∧ Jx (pre ++ [x]) W'))
    (hR : BkAt W bx a c L) (h0 : J [] W) :
    CallsIn Fence.wide n Tryz.prog 69 #[.func (.yield l) #[] #[], .pointer (some ⟨bx, 0, none⟩)] W fun e W' => (∃ v, e = .returned v) ∧
      ((∃ ys, ys.length = L.length ∧ J ys W') ∨ (∃ pre, True ∧ Jx pre W')) := by
  have b0 : W.cell? ⟨bx, 0, none⟩ = some (.slice a L.length c) := cell_of_block hR.box 0
  refine callsIn_of_wp Tryz.func69 rfl trivial ?_ rfl
  simp only [Tryz.ntmps69, List.size_toArray, List.length_cons, List.length_nil, Nat.reduceAdd, Nat.reduceSub, Array.replicate_succ, Array.replicate_zero, List.push_toArray, List.append_toArray, List.nil_append, List.cons_append]
  gi_wp2
  clear b0
  gi_loopw [3] (fun v wr => ∃ q : Nat, q ≤ L.length ∧ v = .int .i64 ((q : Int) - 1) ∧ ∃ pre, pre.length + q = L.length ∧ J pre wr ∧ BkAt wr bx a c L)
    (fun v _ => (intOf v + 1).toNat)
  case atStart => exact ⟨L.length, Nat.le_refl _, rfl, [], by simp, h0, hR⟩
  case round =>
    obtain ⟨q, hq, rfl, pre, hpre, hJs, hR1⟩ := hrel
    clear hR h0
    have b0 : wr.cell? ⟨bx, 0, none⟩ = some (.slice a L.length c) := cell_of_block hR1.box 0
    cases q with
    | zero =>
      gi_wp2
      go_end0
      exact ⟨⟨_, rfl⟩, .inl ⟨pre, by omega, hJs⟩⟩
    | succ q =>
      have hq1 : ((q + 1 : Nat) : Int) - 1 = (q : Int) := by omega
      rw [hq1]
      have hqL : q < L.length := by omega
      obtain ⟨g, off, rfl, hc⟩ := hR1.els.at q hqL
      have hx : bkX L pre.length = (q, L[q]) := by
        unfold bkX
        rw [show L.length - 1 - pre.length = q by omega, List.getElem?_eq_getElem hqL]; rfl
      obtain ⟨fn, tmps, assign, body, hy, hRR⟩ := hY pre (q, L[q]) wr hJs (by omega) hx.symm
      have e0 := hc 0 _ rfl
      have e1 := hc 1 _ rfl
      simp only [Nat.add_zero] at e0
      generalize hz : L[q]'hqL = z at *
      clear hz hx
      obtain ⟨s0, s1⟩ := z
      dsimp only at e0 e1
      have hql : (q : Int) < (L.length : Int) := by omega
      have hq0 : (0 : Int) ≤ (q : Int) := by omega
      dsimp only [bkE] at hy hRR
      clear hY hc
      gi_wp2
      refine hRR.mono ?_
      rintro e W3 (⟨rfl, hJ3, hk3⟩ | ⟨rfl, hJx3⟩)
      · have hR3 := hR1.kept hk3
        clear b0 e0 e1
        gi_wp2
        go_roundw
        case rel => exact ⟨q, by omega, by go_num, pre ++ [(q, (s0, s1))], by simp; omega, hJ3, hR3⟩
        case measure => simp [intOf]
      · gi_wp2
        refine bodyPost_ret (results_none rfl _ _ _) rfl ?_
        exact ⟨⟨_, rfl⟩, .inr ⟨_, trivial, hJx3⟩⟩
/-- The library's walk, as an iterator. -/
theorem bk_next (n : Nat) (hn : 1 ≤ n) (bx c : Nat) (a : Option Addr) (L : List (Int × Int)) (hm : L.length ≤ 4398046511104) (w : World) (hR : BkAt w bx a c L) :
    SeqNext Fence.wide n Tryz.prog 69 #[.pointer (some ⟨bx, 0, none⟩)] bkE (KeptOn (BkOn bx a)) (fun ys => ys.length = L.length) (fun _ => True) L.length (fun pre x => x = bkX L pre.length) w :=
  fun l J Jx W hW _ _ hY h0 => bk1_in n hn l bx c a L hm J Jx W (fun pre x W1 h1 h2 h3 => by
    obtain ⟨fn, tmps, assign, body, hy, hRR⟩ := hY pre x W1 h1 h2 h3
    exact ⟨fn, tmps, assign, body, hy, hRR.mono (fun e W' h => h.imp id (fun ⟨q1, q2, _⟩ => ⟨q1, q2⟩))⟩) (hR.below hW) h0
theorem bkward_any (a : Option Addr) (n c : Nat) (w : World) : Calls Tryz.prog 49 #[.slice a n c] w fun e w' => e = .returned (.func (.func 69) #[] #[.pointer (some ⟨w.heap.size, 0, none⟩)]) ∧ w' = w.alloc (.cells #[.slice a n c] 109) := by
  go_enter Tryz.func49, Tryz.ntmps49
  go_wp2
  go_ret
  exact ⟨rfl, rfl⟩
end Go.Proofs.YthmiainhaebjiaaGreatDoor


/- Numbers that are struck (pure); a function that leaves with marks. No statement of the seat is proved here. -/
namespace Go.Proofs.YthmiainhaebjiaaGreatDoor
open Go.RowKit Go.Shelf

theorem preL_str {D : List Int} {b e : Nat} (hb : b < D.length) (he : e < D.length) (k : Nat) : preL (strD D b e) k = preL D k + (if b < k then 1 else 0) - (if e < k then 1 else 0) := by
  unfold preL strD
  have h1 := sum_take_set D b 1 k hb
  rw [List.getElem?_eq_getElem hb, Option.getD_some]
  have he2 : e < (D.set b (D[b] + 1)).length := by simpa using he
  have h2 := sum_take_set (D.set b (D[b] + 1)) e (-1) k he2
  rw [List.getElem?_eq_getElem he2, Option.getD_some]
  rw [show (D.set b (D[b] + 1))[e] - 1 = (D.set b (D[b] + 1))[e] + -1 by omega, h2, h1]
  split <;> split <;> omega
theorem preL_get {D : List Int} {k : Nat} (h : k < D.length) : D[k] = preL D (k + 1) - preL D k := by
  rw [preL_succ D k h]; omega
theorem preL_rep (n k : Nat) : preL (List.replicate n 0) k = 0 := by
  unfold preL
  rw [List.take_replicate]
  generalize min k n = m
  induction m with
  | zero => rfl
  | succ m ih => rw [List.replicate_succ, List.sum_cons, ih]; rfl
/-- How often numbers are struck while a course is gone along, down to E. -/
def Str (D : List Int) (c0 : Nat → Int) (l : List (Int × Int)) (fr up : Nat) (wd E : Int) : Prop := ∀ j, j < D.length → preL D (j + 1) = c0 j + (if E ≤ (fr : Int) + j ∧ (fr : Int) + j ≤ up ∧ valF l ((fr : Int) + j) 0 ≠ wd then 1 else 0)
theorem str_start {D : List Int} {c0 : Nat → Int} {l : List (Int × Int)} {fr up : Nat} {wd : Int} (h : ∀ j, j < D.length → preL D (j + 1) = c0 j) : Str D c0 l fr up wd ((up : Int) + 1) := fun j hj => by
  rw [h j hj, if_neg (by omega)]; omega
theorem str_same {D : List Int} {c0 : Nat → Int} {l : List (Int × Int)} {fr up : Nat} {wd E B : Int} (h : Str D c0 l fr up wd E) (hv : ∀ n : Int, B ≤ n → n < E → valF l n 0 = wd) (hB : B ≤ E) : Str D c0 l fr up wd B := fun j hj => by
  rw [h j hj]
  congr 1
  by_cases h1 : E ≤ (fr : Int) + j
  · simp only [h1, true_and, show B ≤ (fr : Int) + j by omega]
  · rw [if_neg (fun q => h1 q.1)]
    by_cases h2 : B ≤ (fr : Int) + j
    · rw [if_neg (fun q => q.2.2 (hv _ h2 (by omega)))]
    · rw [if_neg (fun q => h2 q.1)]
theorem str_strike {D : List Int} {c0 : Nat → Int} {l : List (Int × Int)} {fr up b e : Nat} {wd : Int} (h : Str D c0 l fr up wd ((fr : Int) + e)) (hD : D.length = up - fr + 2) (hfu : fr ≤ up) (hbe : b < e) (heu : (fr : Int) + e ≤ (up : Int) + 1) (hv : ∀ n : Int, (fr : Int) + b ≤ n → n < (fr : Int) + e → valF l n 0 ≠ wd) : Str (strD D b e) c0 l fr up wd ((fr : Int) + b) := fun j hj => by
  rw [strD_len] at hj
  rw [preL_str (by omega) (by omega), h j hj]
  by_cases h1 : e ≤ j
  · rw [if_pos (show b < j + 1 by omega), if_pos (show e < j + 1 by omega)]
    simp only [show (fr : Int) + e ≤ (fr : Int) + j by omega, show (fr : Int) + b ≤ (fr : Int) + j by omega, true_and]
    omega
  · rw [if_neg (show ¬ e < j + 1 by omega), if_neg (fun q => by omega)]
    by_cases h2 : b ≤ j
    · rw [if_pos (show b < j + 1 by omega), if_pos ⟨by omega, by omega, hv _ (by omega) (by omega)⟩]; omega
    · rw [if_neg (show ¬ b < j + 1 by omega), if_neg (fun q => by omega)]; omega
/-- Marks among the deferred calls. -/
def Marks : List Deferred → World → Prop
  | [], _ => True
  | d :: ds, W => (∃ r, d = { target := .collected r, args := #[] } ∧ W.heap[r]? = some (.deferred (some [])) ∧ ∀ d' ∈ ds, ∃ r', d' = { target := .collected r', args := #[] } ∧ r' < r) ∧ Marks ds W
theorem Marks.keeps {W W' : World} {S : Nat → Prop} (k : Keeps S W W') (hs : ∀ q, S q → W.heap[q]? ≠ some (.deferred (some []))) : ∀ {ds : List Deferred}, Marks ds W → Marks ds W'
  | [], _ => trivial
  | d :: ds, ⟨⟨r, h1, h2, h3⟩, h4⟩ => by
    refine ⟨⟨r, h1, ?_, h3⟩, Marks.keeps k hs h4⟩
    exact (k.block r (lt_of_block h2) (fun hS => hs r hS h2)).trans h2
theorem Marks.lt {W : World} : ∀ {ds : List Deferred}, Marks ds W → ∀ d ∈ ds, ∃ r, d = { target := .collected r, args := #[] } ∧ r < W.heap.size
  | [], _, d, hd => by simp at hd
  | e :: ds, ⟨⟨r, h1, h2, h3⟩, h4⟩, d, hd => by
    rcases List.mem_cons.1 hd with rfl | hd
    · exact ⟨r, h1, lt_of_block h2⟩
    · exact Marks.lt h4 d hd
theorem Marks.push {W : World} {ds : List Deferred} {b : Nat} (h : Marks ds W) (hb : W.heap[b]? = some (.deferred (some []))) (hl : ∀ d ∈ ds, ∃ r, d = { target := .collected r, args := #[] } ∧ r < b) : Marks ({ target := .collected b, args := #[] } :: ds) W := ⟨⟨b, rfl, hb, hl⟩, h⟩
/-- Where only marks are left, the function leaves; blocks that are no cells may be shut. -/
theorem leaves_marks {F : Fence} {n : Nat} {fn : Func} {tmps : Array Value} {R : Ending → World → Prop} : ∀ (ds : List Deferred) (W : World), Marks ds W →
    (∀ W', Keeps (fun q => ({ target := .collected q, args := #[] } : Deferred) ∈ ds) W W' → LeavesInM F n Tryz.prog fn tmps R [] .returning W') → LeavesInM F n Tryz.prog fn tmps R ds .returning W
  | [], W, _, h => h W (Keeps.refl _ _)
  | d :: ds, W, ⟨⟨r, h1, h2, h3⟩, h4⟩, h => by
    subst h1
    refine ⟨by simp, .inl ⟨r, _, rfl, run_takeDeferred h2, ?_⟩⟩
    have hk : Keeps (fun q => q = r) W (W.putObj r (.deferred none)) := (keeps_grown (grownBy_putObj' W r (.deferred none))).mono fun q _ e => by injection e with e; exact e.symm
    refine leaves_marks ds _ ?_ fun W' k => h W' ?_
    · clear h
      revert h4
      have : ∀ ds' : List Deferred, (∀ d' ∈ ds', ∃ r', d' = { target := .collected r', args := #[] } ∧ r' < r) → Marks ds' W → Marks ds' (W.putObj r (.deferred none)) := by
        intro ds'
        induction ds' with
        | nil => intro _ _; trivial
        | cons e es ih =>
          rintro hlt ⟨⟨r', q1, q2, q3⟩, q4⟩
          obtain ⟨r2, e1, e2⟩ := hlt e (by simp)
          have : r' = r2 := by rw [q1] at e1; injection e1 with e1; injection e1
          refine ⟨⟨r', q1, (hk.block r' (lt_of_block q2) (by omega)).trans q2, q3⟩, ih (fun d hd => hlt d (by simp [hd])) q4⟩
      exact this ds h3
    · exact (hk.mono fun q _ e => by rw [e]; simp).trans (k.mono fun q _ e => by simp [e])
end Go.Proofs.YthmiainhaebjiaaGreatDoor


/- A scope without a jump, a label: within a fence. No statement of the seat is proved here. -/
namespace Go.Proofs.YthmiainhaebjiaaGreatDoor
open Go.RowKit Go.Shelf

section
variable {P : Program} {F : Fence} {n : Nat} {b : Frame} {a : Act} {k : List Item} {cs : List Frame} {w : World} {Q : Exit → Act → World → Prop}
theorem stepR_scope {c : Code} : step P (lone (b.atR a (.code (.scope c) :: k)) cs w) = .next (lone (b.atR a (.code c :: .inScope c :: k)) cs w) :=
  step_lone_go (by simp [stepG, stepG.exec, Frame.atR])
theorem stepR_inScope {c : Code} : step P (lone (b.atR a (.inScope c :: k)) cs w) = .next (lone (b.atR a k) cs w) :=
  step_lone_go (by simp [stepG, stepG.exec, Frame.atR])
theorem wpIn_scope_straight {c : Code} (h : c.wpIn F n P (Exit.noGoto Q) a w) : (Code.scope c).wpIn F n P Q a w := by
  intro b k cs hro hb hr
  have h0 : (lone (b.atR a (.code (.scope c) :: k)) cs w).fenced P F := fenced_calm hb hr rfl
  obtain ⟨e, a₁, w₁, hq, harr⟩ := h b (.inScope c :: k) cs hro hb hr
  cases e with
  | normal => exact ⟨.normal, a₁, w₁, hq, .head h0 stepR_scope (StepsIn.trans harr (.one (fenced_calm hb hr rfl) stepR_inScope))⟩
  | exit id' =>
    have hx : exitTo id' (.inScope c :: k) = exitTo id' k := by simp [exitTo]
    exact ⟨.exit id', a₁, w₁, hq, fun k' hk => .head h0 stepR_scope (harr.1 k' (by rw [hx]; exact hk)),
      fun hr' hk => let ⟨k₁, h1, h2⟩ := harr.2 hr' (by rw [hx]; exact hk); ⟨k₁, h1, .head h0 stepR_scope h2⟩⟩
  | goto l => exact hq.elim
  | ret => exact ⟨_, a₁, w₁, hq, .of_steps (.one h0 stepR_scope) harr⟩
  | panic ch => exact ⟨_, a₁, w₁, hq, .of_steps (.one h0 stepR_scope) harr⟩
  | outgrown => exact ⟨_, a₁, w₁, hq, .of_steps (.one h0 stepR_scope) harr⟩
theorem wpIn_labelS {l : Nat} (h : Q .normal a w) : (Code.label l).wpIn F n P Q a w := fun _ _ _ _ hb hr => ⟨.normal, a, w, h, .one (fenced_calm hb hr rfl) stepR_label⟩
end
end Go.Proofs.YthmiainhaebjiaaGreatDoor
