/-
  No statement of the seat is proved here. (Several texts in one: OpN, OpNs.)
-/
import Derived.Test.YthgkbmfnidehbaaDoorOpM
import Derived.WalkMore

/- Numbers that are struck (pure); a function that leaves with marks. No statement of the seat is proved here. -/
namespace Go.Proofs.YthgkbmfnidehbaaDoor
open Go.RowKit Go.Shelf

theorem preL_str {D : List Int} {b e : Nat} (hb : b < D.length) (he : e < D.length) (k : Nat) : preL (strD D b e) k = preL D k + (if b < k then 1 else 0) - (if e < k then 1 else 0) := by
  unfold preL strD
  have h1 := sum_take_set D b 1 k hb
  rw [List.getElem?_eq_getElem hb, Option.getD_some]
  have he2 : e < (D.set b (D[b] + 1)).length := by simpa using he
  have h2 := sum_take_set (D.set b (D[b] + 1)) e (-1) k he2
  rw [List.getElem?_eq_getElem he2, Option.getD_some]
  rw [show (D.set b (D[b] + 1))[e] - 1 = (D.set b (D[b] + 1))[e] + -1 by omega, h2, h1]
  split <;> split <;> omega
theorem preL_get {D : List Int} {k : Nat} (h : k < D.length) : D[k] = preL D (k + 1) - preL D k := by
  rw [preL_succ D k h]; omega
theorem preL_rep (n k : Nat) : preL (List.replicate n 0) k = 0 := by
  unfold preL
  rw [List.take_replicate]
  generalize min k n = m
  induction m with
  | zero => rfl
  | succ m ih => rw [List.replicate_succ, List.sum_cons, ih]; rfl
/-- How often numbers are struck while a course is gone along, down to E. -/
def Str (D : List Int) (c0 : Nat → Int) (l : List (Int × Int)) (fr up : Nat) (wd E : Int) : Prop := ∀ j, j < D.length → preL D (j + 1) = c0 j + (if E ≤ (fr : Int) + j ∧ (fr : Int) + j ≤ up ∧ valF l ((fr : Int) + j) 0 ≠ wd then 1 else 0)
theorem str_start {D : List Int} {c0 : Nat → Int} {l : List (Int × Int)} {fr up : Nat} {wd : Int} (h : ∀ j, j < D.length → preL D (j + 1) = c0 j) : Str D c0 l fr up wd ((up : Int) + 1) := fun j hj => by
  rw [h j hj, if_neg (by omega)]; omega
theorem str_same {D : List Int} {c0 : Nat → Int} {l : List (Int × Int)} {fr up : Nat} {wd E B : Int} (h : Str D c0 l fr up wd E) (hv : ∀ n : Int, B ≤ n → n < E → valF l n 0 = wd) (hB : B ≤ E) : Str D c0 l fr up wd B := fun j hj => by
  rw [h j hj]
  congr 1
  by_cases h1 : E ≤ (fr : Int) + j
  · simp only [h1, true_and, show B ≤ (fr : Int) + j by omega]
  · rw [if_neg (fun q => h1 q.1)]
    by_cases h2 : B ≤ (fr : Int) + j
    · rw [if_neg (fun q => q.2.2 (hv _ h2 (by omega)))]
    · rw [if_neg (fun q => h2 q.1)]
theorem str_strike {D : List Int} {c0 : Nat → Int} {l : List (Int × Int)} {fr up b e : Nat} {wd : Int} (h : Str D c0 l fr up wd ((fr : Int) + e)) (hD : D.length = up - fr + 2) (hfu : fr ≤ up) (hbe : b < e) (heu : (fr : Int) + e ≤ (up : Int) + 1) (hv : ∀ n : Int, (fr : Int) + b ≤ n → n < (fr : Int) + e → valF l n 0 ≠ wd) : Str (strD D b e) c0 l fr up wd ((fr : Int) + b) := fun j hj => by
  rw [strD_len] at hj
  rw [preL_str (by omega) (by omega), h j hj]
  by_cases h1 : e ≤ j
  · rw [if_pos (show b < j + 1 by omega), if_pos (show e < j + 1 by omega)]
    simp only [show (fr : Int) + e ≤ (fr : Int) + j by omega, show (fr : Int) + b ≤ (fr : Int) + j by omega, true_and]
    omega
  · rw [if_neg (show ¬ e < j + 1 by omega), if_neg (fun q => by omega)]
    by_cases h2 : b ≤ j
    · rw [if_pos (show b < j + 1 by omega), if_pos ⟨by omega, by omega, hv _ (by omega) (by omega)⟩]; omega
    · rw [if_neg (show ¬ b < j + 1 by omega), if_neg (fun q => by omega)]; omega
/-- Marks among the deferred calls. -/
def Marks : List Deferred → World → Prop
  | [], _ => True
  | d :: ds, W => (∃ r, d = { target := .collected r, args := #[] } ∧ W.heap[r]? = some (.deferred (some [])) ∧ ∀ d' ∈ ds, ∃ r', d' = { target := .collected r', args := #[] } ∧ r' < r) ∧ Marks ds W
theorem Marks.keeps {W W' : World} {S : Nat → Prop} (k : Keeps S W W') (hs : ∀ q, S q → W.heap[q]? ≠ some (.deferred (some []))) : ∀ {ds : List Deferred}, Marks ds W → Marks ds W'
  | [], _ => trivial
  | d :: ds, ⟨⟨r, h1, h2, h3⟩, h4⟩ => by
    refine ⟨⟨r, h1, ?_, h3⟩, Marks.keeps k hs h4⟩
    exact (k.block r (lt_of_block h2) (fun hS => hs r hS h2)).trans h2
theorem Marks.lt {W : World} : ∀ {ds : List Deferred}, Marks ds W → ∀ d ∈ ds, ∃ r, d = { target := .collected r, args := #[] } ∧ r < W.heap.size
  | [], _, d, hd => by simp at hd
  | e :: ds, ⟨⟨r, h1, h2, h3⟩, h4⟩, d, hd => by
    rcases List.mem_cons.1 hd with rfl | hd
    · exact ⟨r, h1, lt_of_block h2⟩
    · exact Marks.lt h4 d hd
theorem Marks.push {W : World} {ds : List Deferred} {b : Nat} (h : Marks ds W) (hb : W.heap[b]? = some (.deferred (some []))) (hl : ∀ d ∈ ds, ∃ r, d = { target := .collected r, args := #[] } ∧ r < b) : Marks ({ target := .collected b, args := #[] } :: ds) W := ⟨⟨b, rfl, hb, hl⟩, h⟩
/-- Where only marks are left, the function leaves; blocks that are no cells may be shut. -/
theorem leaves_marks {F : Fence} {n : Nat} {fn : Func} {tmps : Array Value} {R : Ending → World → Prop} : ∀ (ds : List Deferred) (W : World), Marks ds W →
    (∀ W', Keeps (fun q => ({ target := .collected q, args := #[] } : Deferred) ∈ ds) W W' → LeavesInM F n Tryd.prog fn tmps R [] .returning W') → LeavesInM F n Tryd.prog fn tmps R ds .returning W
  | [], W, _, h => h W (Keeps.refl _ _)
  | d :: ds, W, ⟨⟨r, h1, h2, h3⟩, h4⟩, h => by
    subst h1
    refine ⟨by simp, .inl ⟨r, _, rfl, run_takeDeferred h2, ?_⟩⟩
    have hk : Keeps (fun q => q = r) W (W.putObj r (.deferred none)) := (keeps_grown (grownBy_putObj' W r (.deferred none))).mono fun q _ e => by injection e with e; exact e.symm
    refine leaves_marks ds _ ?_ fun W' k => h W' ?_
    · clear h
      revert h4
      have : ∀ ds' : List Deferred, (∀ d' ∈ ds', ∃ r', d' = { target := .collected r', args := #[] } ∧ r' < r) → Marks ds' W → Marks ds' (W.putObj r (.deferred none)) := by
        intro ds'
        induction ds' with
        | nil => intro _ _; trivial
        | cons e es ih =>
          rintro hlt ⟨⟨r', q1, q2, q3⟩, q4⟩
          obtain ⟨r2, e1, e2⟩ := hlt e (by simp)
          have : r' = r2 := by rw [q1] at e1; injection e1 with e1; injection e1
          refine ⟨⟨r', q1, (hk.block r' (lt_of_block q2) (by omega)).trans q2, q3⟩, ih (fun d hd => hlt d (by simp [hd])) q4⟩
      exact this ds h3
    · exact (hk.mono fun q _ e => by rw [e]; simp).trans (k.mono fun q _ e => by simp [e])
end Go.Proofs.YthgkbmfnidehbaaDoor


/- A scope without a jump, a label: within a fence. No statement of the seat is proved here. -/
namespace Go.Proofs.YthgkbmfnidehbaaDoor
open Go.RowKit Go.Shelf

section
variable {P : Program} {F : Fence} {n : Nat} {b : Frame} {a : Act} {k : List Item} {cs : List Frame} {w : World} {Q : Exit → Act → World → Prop}
theorem stepR_scope {c : Code} : step P (lone (b.atR a (.code (.scope c) :: k)) cs w) = .next (lone (b.atR a (.code c :: .inScope c :: k)) cs w) :=
  step_lone_go (by simp [stepG, stepG.exec, Frame.atR])
theorem stepR_inScope {c : Code} : step P (lone (b.atR a (.inScope c :: k)) cs w) = .next (lone (b.atR a k) cs w) :=
  step_lone_go (by simp [stepG, stepG.exec, Frame.atR])
theorem wpIn_scope_straight {c : Code} (h : c.wpIn F n P (Exit.noGoto Q) a w) : (Code.scope c).wpIn F n P Q a w := by
  intro b k cs hro hb hr
  have h0 : (lone (b.atR a (.code (.scope c) :: k)) cs w).fenced P F := fenced_calm hb hr rfl
  obtain ⟨e, a₁, w₁, hq, harr⟩ := h b (.inScope c :: k) cs hro hb hr
  cases e with
  | normal => exact ⟨.normal, a₁, w₁, hq, .head h0 stepR_scope (StepsIn.trans harr (.one (fenced_calm hb hr rfl) stepR_inScope))⟩
  | exit id' =>
    have hx : exitTo id' (.inScope c :: k) = exitTo id' k := by simp [exitTo]
    exact ⟨.exit id', a₁, w₁, hq, fun k' hk => .head h0 stepR_scope (harr.1 k' (by rw [hx]; exact hk)),
      fun hr' hk => let ⟨k₁, h1, h2⟩ := harr.2 hr' (by rw [hx]; exact hk); ⟨k₁, h1, .head h0 stepR_scope h2⟩⟩
  | goto l => exact hq.elim
  | ret => exact ⟨_, a₁, w₁, hq, .of_steps (.one h0 stepR_scope) harr⟩
  | panic ch => exact ⟨_, a₁, w₁, hq, .of_steps (.one h0 stepR_scope) harr⟩
  | outgrown => exact ⟨_, a₁, w₁, hq, .of_steps (.one h0 stepR_scope) harr⟩
theorem wpIn_labelS {l : Nat} (h : Q .normal a w) : (Code.label l).wpIn F n P Q a w := fun _ _ _ _ hb hr => ⟨.normal, a, w, h, .one (fenced_calm hb hr rfl) stepR_label⟩
end
end Go.Proofs.YthgkbmfnidehbaaDoor
