
/- A scope with several labels. No statement of the seat is proved here. -/
import Derived.Test.YtkkmkfldldglgaaGreatDoorAsJ
import Derived.ScopeJumps
namespace Go.Proofs.YtkkmkfldldglgaaGreatDoor
open Go.RowKit Go.Shelf

/-- By a goto to a label: what is asked there; else as Q. -/
def jumps (J : Nat → Act → World → Prop) (Q : Exit → Act → World → Prop) : Exit → Act → World → Prop
  | .goto l, a, w => J l a w
  | e, a, w => Q e a w

section
variable {P : Program} {a : Act} {w : World} {Q : Exit → Act → World → Prop}
/-- A scope in which the run jumps to labels: what holds at each of them, and a measure that every pass lowers. -/
theorem wp_scope_many {c : Code} (J : Nat → Act → World → Prop) (μ : Nat → Act → World → Nat) (rest : Nat → Code) (hf : ∀ l a w, J l a w → findLabel c l = some (rest l))
    (first : c.wp P (jumps J Q) a w)
    (pass : ∀ l a w, J l a w → (rest l).wp P (jumps (fun l' a' w' => J l' a' w' ∧ μ l' a' w' < μ l a w) Q) a w) : (Code.scope c).wp P Q a w := by
  intro b k cs
  have hg : ∀ l a w, J l a w → gotoIn l (.inScope c :: k) = some (.code (rest l) :: .inScope c :: k) := fun l a w h => by simp [gotoIn, hf l a w h]
  have key : ∀ n l a w, μ l a w = n → J l a w → ∃ e a' w', Q e a' w' ∧ Arrives P (lone (b.at a (.code (rest l) :: .inScope c :: k)) cs w) b k cs e a' w' := by
    intro n
    induction n using Nat.strongRecOn with
    | _ n ih =>
      intro l a w hn hJ
      obtain ⟨e, a₁, w₁, hq, harr⟩ := pass l a w hJ b (.inScope c :: k) cs
      cases e with
      | normal => exact ⟨.normal, a₁, w₁, hq, Steps.trans harr (.one step_inScope)⟩
      | exit id => exact ⟨.exit id, a₁, w₁, hq, fun k' hk => harr k' (by simp [exitTo, hk])⟩
      | goto l' =>
        obtain ⟨hJ', hlt⟩ := hq
        obtain ⟨e₂, a₂, w₂, hq₂, harr₂⟩ := ih _ (by omega) l' a₁ w₁ rfl hJ'
        exact ⟨e₂, a₂, w₂, hq₂, .of_steps (harr _ (hg l' a₁ w₁ hJ')) harr₂⟩
      | ret => exact ⟨_, a₁, w₁, hq, harr⟩
      | panic ch => exact ⟨_, a₁, w₁, hq, harr⟩
      | outgrown => exact ⟨_, a₁, w₁, hq, harr⟩
  obtain ⟨e, a₁, w₁, hq, harr⟩ := first b (.inScope c :: k) cs
  cases e with
  | normal => exact ⟨.normal, a₁, w₁, hq, .head step_scope (Steps.trans harr (.one step_inScope))⟩
  | exit id => exact ⟨.exit id, a₁, w₁, hq, fun k' hk => .head step_scope (harr k' (by simp [exitTo, hk]))⟩
  | goto l' =>
    obtain ⟨e₂, a₂, w₂, hq₂, harr₂⟩ := key _ l' a₁ w₁ rfl hq
    exact ⟨e₂, a₂, w₂, hq₂, .of_steps (.head step_scope (harr _ (hg l' a₁ w₁ hq))) harr₂⟩
  | ret => exact ⟨_, a₁, w₁, hq, .of_steps (.one step_scope) harr⟩
  | panic ch => exact ⟨_, a₁, w₁, hq, .of_steps (.one step_scope) harr⟩
  | outgrown => exact ⟨_, a₁, w₁, hq, .of_steps (.one step_scope) harr⟩
/-- Code that runs on to a label: what holds there is all that is asked. -/
theorem fall4 {A B C D R : Code} {l : Nat} {J : Act → World → Prop} (h : ∀ K : Code, Hid (∀ a w, J a w → K.wp P Q a w) → (A.seq (B.seq (C.seq (D.seq ((Code.label l).seq K))))).wp P Q a w) (hR : ∀ a w, J a w → R.wp P Q a w) :
    (A.seq (B.seq (C.seq (D.seq ((Code.label l).seq R))))).wp P Q a w := h R hR
theorem fall2 {A B R : Code} {l : Nat} {J : Act → World → Prop} (h : ∀ K : Code, Hid (∀ a w, J a w → K.wp P Q a w) → (A.seq (B.seq ((Code.label l).seq K))).wp P Q a w) (hR : ∀ a w, J a w → R.wp P Q a w) :
    (A.seq (B.seq ((Code.label l).seq R))).wp P Q a w := h R hR
/-- A measure is lowered by more than enough. -/
theorem jumps_mono {J : Nat → Act → World → Prop} {μ : Nat → Act → World → Nat} {n m : Nat} (hnm : n ≤ m) {c : Code} (h : c.wp P (jumps (fun l' a' w' => J l' a' w' ∧ μ l' a' w' < n) Q) a w) : c.wp P (jumps (fun l' a' w' => J l' a' w' ∧ μ l' a' w' < m) Q) a w :=
  Code.wp_mono (fun e a w h => by
    cases e with
    | goto l => exact ⟨h.1, Nat.lt_of_lt_of_le h.2 hnm⟩
    | normal => exact h
    | exit id => exact h
    | ret => exact h
    | panic ch => exact h
    | outgrown => exact h) h
theorem jumps_weak {J : Nat → Act → World → Prop} {μ : Nat → Act → World → Nat} {n : Nat} {c : Code} (h : c.wp P (jumps (fun l' a' w' => J l' a' w' ∧ μ l' a' w' < n) Q) a w) : c.wp P (jumps J Q) a w :=
  Code.wp_mono (fun e a w h => by
    cases e with
    | goto l => exact h.1
    | normal => exact h
    | exit id => exact h
    | ret => exact h
    | panic ch => exact h
    | outgrown => exact h) h
end
section
variable {P : Program} {a : Act} {w : World} {Q : Exit → Act → World → Prop}
/-- The scope of line: three labels, one behind the other. -/
theorem scope_line {A B C D E K2 K1 c : Code} {Y Z V : Code} (J : Nat → Act → World → Prop) (μ : Nat → Act → World → Nat)
    (hc : c = A.seq (B.seq (C.seq ((Code.label 0).seq (D.seq (E.seq ((Code.label 2).seq K2))))))) (hk : K2 = Y.seq (Z.seq (V.seq ((Code.label 1).seq K1))))
    (hf0 : findLabel c 0 = some (Code.skip.seq (D.seq (E.seq ((Code.label 2).seq K2))))) (hf1 : findLabel c 1 = some (Code.skip.seq K1)) (hf2 : findLabel c 2 = some (Code.skip.seq K2))
    (hJ : ∀ l a w, J l a w → l = 0 ∨ l = 1 ∨ l = 2)
    (hfirst : ∀ K : Code, Hid (∀ a w, J 0 a w → K.wp P (jumps J Q) a w) → (A.seq (B.seq (C.seq ((Code.label 0).seq K)))).wp P (jumps J Q) a w)
    (h0 : ∀ a w, J 0 a w → ∀ K : Code, Hid (∀ a' w', J 2 a' w' → μ 2 a' w' ≤ μ 0 a w → K.wp P (jumps (fun l' a' w' => J l' a' w' ∧ μ l' a' w' < μ 0 a w) Q) a' w') → (D.seq (E.seq ((Code.label 2).seq K))).wp P (jumps (fun l' a' w' => J l' a' w' ∧ μ l' a' w' < μ 0 a w) Q) a w)
    (h2 : ∀ a w, J 2 a w → (Y.seq (Z.seq (V.seq ((Code.label 1).seq K1)))).wp P (jumps (fun l' a' w' => J l' a' w' ∧ μ l' a' w' < μ 2 a w) Q) a w)
    (h1 : ∀ a w, J 1 a w → K1.wp P (jumps (fun l' a' w' => J l' a' w' ∧ μ l' a' w' < μ 1 a w) Q) a w) : (Code.scope c).wp P Q a w := by
  have h2' : ∀ a w, J 2 a w → K2.wp P (jumps (fun l' a' w' => J l' a' w' ∧ μ l' a' w' < μ 2 a w) Q) a w := fun a w h => by rw [hk]; exact h2 a w h
  have h0' : ∀ a w, J 0 a w → (D.seq (E.seq ((Code.label 2).seq K2))).wp P (jumps (fun l' a' w' => J l' a' w' ∧ μ l' a' w' < μ 0 a w) Q) a w := fun a w h => h0 a w h K2 (fun a' w' hj hle => jumps_mono hle (h2' a' w' hj))
  refine wp_scope_many J μ (fun l => (findLabel c l).getD Code.skip) (fun l a w h => ?_) ?_ (fun l a w h => ?_)
  · rcases hJ l a w h with rfl | rfl | rfl
    · rw [hf0]; rfl
    · rw [hf1]; rfl
    · rw [hf2]; rfl
  · rw [hc]
    exact hfirst _ (fun a w h => jumps_weak (h0' a w h))
  · rcases hJ l a w h with rfl | rfl | rfl
    · rw [hf0]; exact wp_seq (wp_skip (h0' a w h))
    · rw [hf1]; exact wp_seq (wp_skip (h1 a w h))
    · rw [hf2]; exact wp_seq (wp_skip (h2' a w h))
end
theorem own_mono {w : World} {b0 base size : Nat} {e : TypeId} {v : Value} {n : Nat} {xs : List Value} (h : w.ownsRow base e size v n xs) (hb : b0 ≤ base) : w.ownsRow b0 e size v n xs := by
  refine ⟨h.1, ?_⟩
  rcases h.2 with q | ⟨g, cap, cur, q1, q2, q3⟩
  · exact .inl q
  · exact .inr ⟨g, cap, cur, q1, Nat.le_trans hb q2, q3⟩
/-- The record's blocks are there. -/
theorem RdIs.lt {w : World} {base p m : Nat} {vc vl vu : Value} {tag : Nat → Nat} {r : Rd} (h : RdIs w base p m vc vl vu tag r) {k : Nat} (hk : ROwn p m vc vl vu k) : k < w.heap.size := by
  rcases hk with e | e | e | e | e
  · subst e; exact lt_of_block h.box
  · subst e; obtain ⟨es, cl, hm, _⟩ := h.map.ex; exact lt_of_block hm
  · exact ownBlock_lt h.code.own e
  · exact ownBlock_lt h.labs e
  · exact ownBlock_lt h.uses e
theorem RdAt.below {w : World} {S : Nat → Prop} {base p : Nat} {r : Rd} (h : RdAt w S base p r) : RdAt w (fun k => S k ∧ k < w.heap.size) base p r := by
  obtain ⟨m, vc, vl, vu, tag, h1, h2⟩ := h
  exact ⟨m, vc, vl, vu, tag, h1, fun k hk => ⟨h2 k hk, h1.lt hk⟩⟩
theorem RdAt.base_le {w : World} {S : Nat → Prop} {base p : Nat} {r : Rd} (h : RdAt w S base p r) : base ≤ w.heap.size := by
  obtain ⟨m, vc, vl, vu, tag, h1, h2⟩ := h
  exact h1.code.base

/-- The words of a word and what stands behind it. -/
def tk (wd l : List UInt8) : List (List UInt8) := if wd = [] then [] else wd :: toks l
theorem tk_next (l : List UInt8) : toks l = tk (nextW l).1 (nextW l).2 := by
  unfold tk
  split
  · rename_i h; exact toks_nil h
  · rename_i h; exact toks_cons h
/-- The end of a line: an instruction of all words, or none. -/
def finR (r : Rd) (n : Nat) (T : List (List UInt8)) : Option Rd := if T = [] then some r else insR r T n
theorem fin_line {r : Rd} {n : Nat} {wd l : List UInt8} (h : wd.getLast? ≠ some 58) : lineR r n (tk wd l) = finR r n (tk wd l) := by
  unfold tk
  split
  · rfl
  · rw [lineR, if_neg h]; rfl
def flatL (ws : List (List UInt8)) : Nat := (ws.flatMap fun x => 32 :: x).length
theorem flatL_app (ws : List (List UInt8)) (x : List UInt8) : flatL (ws ++ [x]) = flatL ws + x.length + 1 := by simp [flatL]; omega
theorem flatL_cons (x : List UInt8) (ws : List (List UInt8)) : flatL (x :: ws) = x.length + 1 + flatL ws := by simp [flatL]; omega
theorem flatL_len : ∀ ws : List (List UInt8), ws.length ≤ flatL ws
  | [] => by simp
  | x :: t => by have := flatL_len t; rw [flatL_cons, List.length_cons]; omega
theorem flatL_set : ∀ (ws : List (List UInt8)) (k : Nat), flatL (ws.set k [48]) ≤ flatL ws + 1
  | [], k => by simp
  | x :: t, 0 => by rw [List.set_cons_zero, flatL_cons, flatL_cons, List.length_singleton]; omega
  | x :: t, k + 1 => by have := flatL_set t k; rw [List.set_cons_succ, flatL_cons, flatL_cons]; omega
theorem joinB_flat (ws : List (List UInt8)) : (joinB ws).length ≤ flatL ws := by
  cases ws with
  | nil => simp [joinB]
  | cons h t => rw [flatL_cons]; simp [joinB, flatL]
theorem joinB_zeroed (ws : List (List UInt8)) : (joinB (zeroed ws)).length ≤ flatL ws + 1 := by
  have h1 := joinB_flat (zeroed ws)
  have h2 : flatL (zeroed ws) ≤ flatL ws + 1 := by
    unfold zeroed
    split
    · exact flatL_set ws (ws.length - 1)
    · omega
  omega
end Go.Proofs.YtkkmkfldldglgaaGreatDoor
