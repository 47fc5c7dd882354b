import Derived.Test.YthmiainhaebjiaaGreatDoorM33OqL
import Derived.Test.YthmiainhaebjiaaGreatDoorM32OqB
import Derived.Test.YthmiainhaebjiaaGreatDoorM20OrD

/- A walk of the document's put (layer 16). No statement of the seat is proved here. -/
namespace Go.Proofs.YthmiainhaebjiaaGreatDoor
open Go.RowKit Go.Shelf

/-- Does a cell stand ahead of another one? -/
def ltP (p c : Int × Int) : Bool := decide (p.1 < c.1 ∨ p.1 = c.1 ∧ p.2 < c.2)
/-- A cell in a list that rises, once. -/
def insS : List (Int × Int) → Int × Int → List (Int × Int)
  | [], c => [c]
  | p :: l, c => if ltP p c = true then p :: insS l c else if p = c then p :: l else c :: p :: l
theorem insS_at : ∀ (l : List (Int × Int)) (c : Int × Int) (i : Nat), i ≤ l.length → (∀ j (hj : j < l.length), j < i → ltP (l[j]) c = true) → (∀ h : i < l.length, ltP (l[i]) c = false) → insS l c = if l[i]? = some c then l else l.take i ++ c :: l.drop i
  | [], c, i, hi, _, _ => by
    obtain rfl : i = 0 := by simpa using hi
    simp [insS]
  | p :: l, c, 0, _, _, h2 => by
    have := h2 (by simp)
    simp only [List.getElem_cons_zero] at this
    rw [insS, if_neg (by rw [this]; decide)]
    by_cases hp : p = c
    · rw [if_pos hp, if_pos (by simp [hp])]
    · rw [if_neg hp, if_neg (by simpa using hp)]; rfl
  | p :: l, c, i + 1, hi, h1, h2 => by
    have hp := h1 0 (by simp) (by omega)
    simp only [List.getElem_cons_zero] at hp
    rw [insS, if_pos hp, insS_at l c i (by simpa using hi) (fun j hj hji => h1 (j + 1) (by simpa using hj) (by omega)) (fun h => h2 (by simpa using h))]
    simp only [List.getElem?_cons_succ, List.take_succ_cons, List.drop_succ_cons]
    split <;> rfl
theorem insS_mem (p : Int × Int) : ∀ (l : List (Int × Int)) (c : Int × Int), p ∈ insS l c ↔ p ∈ l ∨ p = c
  | [], c => by simp [insS]
  | q :: l, c => by
    rw [insS]
    split
    · rw [List.mem_cons, insS_mem p l c, List.mem_cons]
      constructor
      · rintro (h | h | h)
        · exact .inl (.inl h)
        · exact .inl (.inr h)
        · exact .inr h
      · rintro ((h | h) | h)
        · exact .inl h
        · exact .inr (.inl h)
        · exact .inr (.inr h)
    · split
      · rename_i h
        subst h
        simp only [List.mem_cons]
        constructor
        · intro h; exact .inl h
        · rintro (h | h)
          · exact h
          · exact .inl h
      · simp only [List.mem_cons]
        constructor
        · rintro (h | h | h)
          · exact .inr h
          · exact .inl (.inl h)
          · exact .inl (.inr h)
        · rintro ((h | h) | h)
          · exact .inr (.inl h)
          · exact .inr (.inr h)
          · exact .inl h
theorem insS_up : ∀ (l : List (Int × Int)) (c : Int × Int), l.Pairwise (fun p q => ltP p q = true) → (insS l c).Pairwise (fun p q => ltP p q = true)
  | [], c, _ => by simp [insS]
  | q :: l, c, h => by
    have hq := List.pairwise_cons.1 h
    rw [insS]
    split
    · rename_i hqc
      refine List.pairwise_cons.2 ⟨fun p hp => ?_, insS_up l c hq.2⟩
      rcases (insS_mem p l c).1 hp with h1 | rfl
      · exact hq.1 p h1
      · exact hqc
    · split
      · exact h
      · rename_i h1 h2
        have hcq : ltP c q = true := by
          unfold ltP at h1 ⊢
          rw [decide_eq_true_eq] at h1 ⊢
          have : ¬ (q.1 = c.1 ∧ q.2 = c.2) := fun e => h2 (Prod.ext e.1 e.2)
          omega
        refine List.pairwise_cons.2 ⟨fun p hp => ?_, h⟩
        rcases List.mem_cons.1 hp with rfl | hp
        · exact hcq
        · have h3 := hq.1 p hp
          unfold ltP at h3 hcq ⊢
          rw [decide_eq_true_eq] at h3 hcq ⊢
          omega
theorem insS_len (l : List (Int × Int)) (c : Int × Int) : (insS l c).length ≤ l.length + 1 := by
  induction l with
  | nil => simp [insS]
  | cons q l ih =>
    rw [insS]
    split
    · simp; exact ih
    · split <;> simp
/-- While a list is pushed along. -/
structure Shf (l : List (Int × Int)) (n k : Nat) (M : List (Int × Int)) : Prop where
  len : M.length = n + 1
  lo : ∀ i, i < k → i < n → M[i]? = l[i]?
  hi : ∀ i, k < i → i ≤ n → M[i]? = l[i - 1]?
theorem Shf.done {l : List (Int × Int)} {n k : Nat} {M : List (Int × Int)} (h : Shf l n k M) (hn : n = l.length) (hk : k ≤ n) (c : Int × Int) : M.set k c = l.take k ++ c :: l.drop k := by
  apply List.ext_getElem?
  intro i
  rw [List.getElem?_set]
  by_cases h1 : k = i
  · subst h1
    have e1 : (l.take k).length = k := by simp; omega
    rw [if_pos rfl, if_pos (by rw [h.len]; omega), List.getElem?_append_right (by omega), e1, Nat.sub_self]
    rfl
  · rw [if_neg h1]
    by_cases h2 : i < k
    · rw [h.lo i h2 (by omega), List.getElem?_append_left (by simp; omega), List.getElem?_take_of_lt h2]
    · have h3 : k < i := by omega
      rw [List.getElem?_append_right (by simp; omega)]
      have e1 : (l.take k).length = k := by simp; omega
      rw [e1]
      obtain ⟨d, hd⟩ : ∃ d, i - k = d + 1 := ⟨i - k - 1, by omega⟩
      rw [hd, List.getElem?_cons_succ, List.getElem?_drop]
      by_cases h4 : i ≤ n
      · rw [h.hi i h3 h4]
        congr 1
        omega
      · rw [List.getElem?_eq_none (by rw [h.len]; omega), List.getElem?_eq_none (by omega)]
set_option maxRecDepth 100000 in
set_option maxHeartbeats 8000000 in
theorem rputC_any {w : World} {base : Nat} {v : Value} (l : List (Int × Int)) (a x : Int) (hl : l.length ≤ 1100000) (h : OwnR clC 2 28 w base v l) :
    Calls Tryz.prog 32 #[v, .agg #[.int .u64 a, .int .u64 x]] w fun ex w' => ∃ u, ex = .returned u ∧ OwnR clC 2 28 w' base u (insS l (a, x)) ∧ (∀ g, u.ownBlock = some g → v.ownBlock = some g ∨ w.heap.size ≤ g) ∧ Keeps (fun q => v.ownBlock = some q) w w' := by
  obtain ⟨oa, cp, rfl⟩ := h.form
  obtain ⟨n, hn⟩ : ∃ n, n = l.length := ⟨_, rfl⟩
  rw [← hn] at h hl ⊢
  have HN : Hid (n = l.length) := hn
  have kC := (Keeps.refl (fun q => (Value.slice oa n cp).ownBlock = some q) w).alloc (.cells #[.int .u64 a, .int .u64 x] 28)
  have bC := (MapKept.heap_alloc w (.cells #[.int .u64 a, .int .u64 x] 28)).1
  have HO : Hid (∀ X, Keeps (fun _ => False) (w.alloc (.cells #[.int .u64 a, .int .u64 x] 28)) X → OwnR clC 2 28 X base (.slice oa n cp) l) := fun X k => (h.keeps ((Keeps.refl (fun _ => False) w).alloc _) (fun _ _ f => f)).keeps k (fun _ _ f => f)
  have hown : ∀ g, (Value.slice oa n cp).ownBlock = some g → g < w.heap.size := fun g hg => (own_block h.own hg).1
  have HOW : Hid (∀ g, (Value.slice oa n cp).ownBlock = some g → g < w.heap.size) := hown
  obtain ⟨cb, hcb⟩ : ∃ cb, cb = w.heap.size := ⟨_, rfl⟩
  rw [← hcb] at bC
  obtain ⟨A, hA⟩ : ∃ A, A = w.alloc (.cells #[.int .u64 a, .int .u64 x] 28) := ⟨_, rfl⟩
  rw [← hA] at kC bC HO
  have HAA : Hid (A = _) := hA
  have HCB : Hid (cb = w.heap.size) := hcb
  have HBC : Hid (∀ X, Keeps (fun _ => False) A X → X.cell? ⟨cb, 0, none⟩ = some (.int .u64 a) ∧ X.cell? ⟨cb, 1, none⟩ = some (.int .u64 x)) := fun X k => by
    have b := (k.block _ (lt_of_block bC) (fun f => f)).trans bC
    exact ⟨by rw [cell_of_block b]; rfl, by rw [cell_of_block b]; rfl⟩
  have HBK : Hid (_ = _) := bC
  have HKC : Hid (Keeps (fun q => (Value.slice oa n cp).ownBlock = some q) w A) := kC
  have hwn1 : IntKind.i64.wrap (((n + 1 : Nat) : Int) - 1) = (n : Int) := by rw [IntKind.wrap_i64]; omega
  have hwn2 : IntKind.i64.wrap ((n : Int) + 1 - 1) = (n : Int) := by rw [IntKind.wrap_i64]; omega
  have hwn3 : IntKind.i64.wrap (n : Int) = (n : Int) := by rw [IntKind.wrap_i64]; omega
  have EQ := eq_cellW
  clear h hn bC hown hA hcb kC
  go_enter Tryz.func32, Tryz.ntmps32
  go_wp2_with fail
  rw [← HAA.out]
  try rw [← HCB.out]
  go_loopw [5] (fun u wr => ∃ at_ : Nat, u = .int .i64 (at_ : Int) ∧ at_ ≤ n ∧ Hid (∀ j (hj : j < l.length), j < at_ → ltP (l[j]) (a, x) = true) ∧ Keeps (fun _ => False) A wr) (fun u _ => n - (intOf u).toNat)
  case atStart => exact ⟨0, rfl, Nat.zero_le _, fun j hj h => by omega, Keeps.refl _ _⟩
  case round =>
    obtain ⟨at_, rfl, hat, hlt, kr⟩ := hrel
    generalize wr = Wo at *
    have hw1 : IntKind.i64.wrap ((at_ : Int) + 1) = (at_ : Int) + 1 := by rw [IntKind.wrap_i64]; omega
    have hat0 : (0 : Int) ≤ (at_ : Int) := by omega
    obtain ⟨z0, z1⟩ := HBC.out Wo kr
    by_cases hln : at_ < n
    · have hani : (at_ : Int) < (n : Int) := by omega
      have hal : at_ < l.length := by rw [← HN.out]; exact hln
      have hO := HO.out Wo kr
      obtain ⟨g, cap, cur, hv, hbg, hgb, -⟩ := hO.at (by omega)
      simp only [Value.slice.injEq] at hv
      obtain ⟨rfl, -, rfl⟩ := hv
      obtain ⟨y0, y1, fz⟩ := own_cellC hO at_ hal
      have hsame : ∀ (q : Int × Int), l[at_]'hal = q → l[at_]? = some q := fun q e => by rw [List.getElem?_eq_getElem hal, e]
      have hL : Hid (∀ j (hj : j < l.length), j < at_ + 1 → (j = at_ → ltP (l[j]) (a, x) = true) → ltP (l[j]) (a, x) = true) := fun j hj h1 h2 => by
        by_cases hji : j = at_
        · exact h2 hji
        · exact hlt.out j hj (by omega)
      generalize hq : l[at_]'hal = q at *
      obtain ⟨a1, x1⟩ := q
      dsimp only at y0 y1
      have hS0 : (Wo.drew).cell? ⟨cb, 0, none⟩ = some (.int .u64 a) ∧ (Wo.drew).cell? ⟨cb, 1, none⟩ = some (.int .u64 x) ∧ (Wo.drew).cell? ⟨g, at_ * 2, none⟩ = some (.int .u64 a1) ∧ (Wo.drew).cell? ⟨g, at_ * 2 + 1, none⟩ = some (.int .u64 x1) := ⟨z0, z1, y0, y1⟩
      have kd := kr.drew
      by_cases hc1 : a1 < a
      · have HF : Hid (∀ j (hj : j < l.length), j < at_ + 1 → ltP (l[j]) (a, x) = true) := fun j hj h1 => hL.out j hj h1 (fun e => by subst e; rw [hq]; unfold ltP; rw [decide_eq_true_eq]; exact .inl hc1)
        clear hL hlt hsame hq hO
        go_wp2_with fail
        refine wp_held_end (S := fun W : World => W.cell? ⟨cb, 0, none⟩ = some (.int .u64 a) ∧ W.cell? ⟨cb, 1, none⟩ = some (.int .u64 x) ∧ W.cell? ⟨g, at_ * 2, none⟩ = some (.int .u64 a1) ∧ W.cell? ⟨g, at_ * 2 + 1, none⟩ = some (.int .u64 x1)) 34 rfl hmxp ?_
        simp only [Array.replicate_succ, Array.replicate_zero, List.push_toArray, List.nil_append, List.cons_append]
        refine held_take (i := 0) (v := (.int .i64 (at_ : Int))) 7 rfl rfl (by kernel_rfl) (by kernel_rfl) (by kernel_rfl) rfl (fun w' hw' => by obtain ⟨q0, q1, q2, q3⟩ := hw'; go_simp) hS0 ?_
        simp only [Act.put, List.setIfInBounds_toArray, List.set_cons_zero, List.set_cons_succ]
        refine held_take (i := 1) (v := (.slice (some ⟨g, 0, none⟩) n cp)) 8 rfl rfl (by kernel_rfl) (by kernel_rfl) (by kernel_rfl) rfl (fun w' hw' => by obtain ⟨q0, q1, q2, q3⟩ := hw'; go_simp) hS0 ?_
        simp only [Act.put, List.setIfInBounds_toArray, List.set_cons_zero, List.set_cons_succ]
        refine held_take (i := 2) (v := (.int .i64 (n : Int))) 9 rfl rfl (by kernel_rfl) (by kernel_rfl) (by kernel_rfl) rfl (fun w' hw' => by obtain ⟨q0, q1, q2, q3⟩ := hw'; go_simp) hS0 ?_
        simp only [Act.put, List.setIfInBounds_toArray, List.set_cons_zero, List.set_cons_succ]
        refine held_take (i := 3) (v := (.bool true)) 10 rfl rfl (by kernel_rfl) (by kernel_rfl) (by kernel_rfl) rfl (fun w' hw' => by obtain ⟨q0, q1, q2, q3⟩ := hw'; go_simp) hS0 ?_
        simp only [Act.put, List.setIfInBounds_toArray, List.set_cons_zero, List.set_cons_succ]
        refine held_take (i := 4) (v := (.bool true)) 11 rfl rfl (by kernel_rfl) (by kernel_rfl) (by kernel_rfl) rfl (fun w' hw' => by obtain ⟨q0, q1, q2, q3⟩ := hw'; go_simp) hS0 ?_
        simp only [Act.put, List.setIfInBounds_toArray, List.set_cons_zero, List.set_cons_succ]
        refine held_take (i := 5) (v := (.slice (some ⟨g, 0, none⟩) n cp)) 12 rfl rfl (by kernel_rfl) (by kernel_rfl) (by kernel_rfl) rfl (fun w' hw' => by obtain ⟨q0, q1, q2, q3⟩ := hw'; go_simp) hS0 ?_
        simp only [Act.put, List.setIfInBounds_toArray, List.set_cons_zero, List.set_cons_succ]
        refine held_take (i := 6) (v := (.int .i64 (at_ : Int))) 13 rfl rfl (by kernel_rfl) (by kernel_rfl) (by kernel_rfl) rfl (fun w' hw' => by obtain ⟨q0, q1, q2, q3⟩ := hw'; go_simp) hS0 ?_
        simp only [Act.put, List.setIfInBounds_toArray, List.set_cons_zero, List.set_cons_succ]
        refine held_take (i := 7) (v := (.pointer (some ⟨g, at_ * 2, none⟩))) 14 rfl rfl (by kernel_rfl) (by kernel_rfl) (by kernel_rfl) rfl (fun w' hw' => by obtain ⟨q0, q1, q2, q3⟩ := hw'; go_simp) hS0 ?_
        simp only [Act.put, List.setIfInBounds_toArray, List.set_cons_zero, List.set_cons_succ]
        refine held_take (i := 8) (v := (.pointer (some ⟨g, at_ * 2, none⟩))) 15 rfl rfl (by kernel_rfl) (by kernel_rfl) (by kernel_rfl) rfl (fun w' hw' => by obtain ⟨q0, q1, q2, q3⟩ := hw'; go_simp) hS0 ?_
        simp only [Act.put, List.setIfInBounds_toArray, List.set_cons_zero, List.set_cons_succ]
        refine held_take (i := 9) (v := (.int .u64 a1)) 16 rfl rfl (by kernel_rfl) (by kernel_rfl) (by kernel_rfl) rfl (fun w' hw' => by obtain ⟨q0, q1, q2, q3⟩ := hw'; go_simp) hS0 ?_
        simp only [Act.put, List.setIfInBounds_toArray, List.set_cons_zero, List.set_cons_succ]
        refine held_take (i := 10) (v := (.pointer (some ⟨cb, 0, none⟩))) 17 rfl rfl (by kernel_rfl) (by kernel_rfl) (by kernel_rfl) rfl (fun w' hw' => by obtain ⟨q0, q1, q2, q3⟩ := hw'; go_simp) hS0 ?_
        simp only [Act.put, List.setIfInBounds_toArray, List.set_cons_zero, List.set_cons_succ]
        refine held_take (i := 11) (v := (.int .u64 a)) 18 rfl rfl (by kernel_rfl) (by kernel_rfl) (by kernel_rfl) rfl (fun w' hw' => by obtain ⟨q0, q1, q2, q3⟩ := hw'; go_simp) hS0 ?_
        simp only [Act.put, List.setIfInBounds_toArray, List.set_cons_zero, List.set_cons_succ]
        refine held_take (i := 12) (v := (.bool true)) 19 rfl rfl (by kernel_rfl) (by kernel_rfl) (by kernel_rfl) rfl (fun w' hw' => by obtain ⟨q0, q1, q2, q3⟩ := hw'; go_simp) hS0 ?_
        simp only [Act.put, List.setIfInBounds_toArray, List.set_cons_zero, List.set_cons_succ]
        refine held_take (i := 13) (v := (.bool true)) 20 rfl rfl (by kernel_rfl) (by kernel_rfl) (by kernel_rfl) rfl (fun w' hw' => by obtain ⟨q0, q1, q2, q3⟩ := hw'; go_simp) hS0 ?_
        simp only [Act.put, List.setIfInBounds_toArray, List.set_cons_zero, List.set_cons_succ]
        refine held_skipO (i := 14) 21 rfl rfl (by kernel_rfl) (by kernel_rfl) (by kernel_rfl) rfl hS0 ?_
        simp only [Act.put, List.setIfInBounds_toArray, List.set_cons_zero, List.set_cons_succ]
        refine held_skipO (i := 15) 22 rfl rfl (by kernel_rfl) (by kernel_rfl) (by kernel_rfl) rfl hS0 ?_
        simp only [Act.put, List.setIfInBounds_toArray, List.set_cons_zero, List.set_cons_succ]
        refine held_skipO (i := 16) 23 rfl rfl (by kernel_rfl) (by kernel_rfl) (by kernel_rfl) rfl hS0 ?_
        simp only [Act.put, List.setIfInBounds_toArray, List.set_cons_zero, List.set_cons_succ]
        refine held_skipO (i := 17) 24 rfl rfl (by kernel_rfl) (by kernel_rfl) (by kernel_rfl) rfl hS0 ?_
        simp only [Act.put, List.setIfInBounds_toArray, List.set_cons_zero, List.set_cons_succ]
        refine held_skipO (i := 18) 25 rfl rfl (by kernel_rfl) (by kernel_rfl) (by kernel_rfl) rfl hS0 ?_
        simp only [Act.put, List.setIfInBounds_toArray, List.set_cons_zero, List.set_cons_succ]
        refine held_skipO (i := 19) 26 rfl rfl (by kernel_rfl) (by kernel_rfl) (by kernel_rfl) rfl hS0 ?_
        simp only [Act.put, List.setIfInBounds_toArray, List.set_cons_zero, List.set_cons_succ]
        refine held_skipO (i := 20) 27 rfl rfl (by kernel_rfl) (by kernel_rfl) (by kernel_rfl) rfl hS0 ?_
        simp only [Act.put, List.setIfInBounds_toArray, List.set_cons_zero, List.set_cons_succ]
        refine held_skipO (i := 21) 28 rfl rfl (by kernel_rfl) (by kernel_rfl) (by kernel_rfl) rfl hS0 ?_
        simp only [Act.put, List.setIfInBounds_toArray, List.set_cons_zero, List.set_cons_succ]
        refine held_skipO (i := 22) 29 rfl rfl (by kernel_rfl) (by kernel_rfl) (by kernel_rfl) rfl hS0 ?_
        simp only [Act.put, List.setIfInBounds_toArray, List.set_cons_zero, List.set_cons_succ]
        refine held_skipO (i := 23) 30 rfl rfl (by kernel_rfl) (by kernel_rfl) (by kernel_rfl) rfl hS0 ?_
        simp only [Act.put, List.setIfInBounds_toArray, List.set_cons_zero, List.set_cons_succ]
        refine held_skipO (i := 24) 31 rfl rfl (by kernel_rfl) (by kernel_rfl) (by kernel_rfl) rfl hS0 ?_
        simp only [Act.put, List.setIfInBounds_toArray, List.set_cons_zero, List.set_cons_succ]
        refine held_skipO (i := 25) 32 rfl rfl (by kernel_rfl) (by kernel_rfl) (by kernel_rfl) rfl hS0 ?_
        simp only [Act.put, List.setIfInBounds_toArray, List.set_cons_zero, List.set_cons_succ]
        refine held_skipO (i := 26) 33 rfl rfl (by kernel_rfl) (by kernel_rfl) (by kernel_rfl) rfl hS0 ?_
        simp only [Act.put, List.setIfInBounds_toArray, List.set_cons_zero, List.set_cons_succ]
        refine held_skipO (i := 27) 34 rfl rfl (by kernel_rfl) (by kernel_rfl) (by kernel_rfl) rfl hS0 ?_
        simp only [Act.put, List.setIfInBounds_toArray, List.set_cons_zero, List.set_cons_succ]
        refine held_skipO (i := 28) 35 rfl rfl (by kernel_rfl) (by kernel_rfl) (by kernel_rfl) rfl hS0 ?_
        simp only [Act.put, List.setIfInBounds_toArray, List.set_cons_zero, List.set_cons_succ]
        refine held_skipO (i := 29) 36 rfl rfl (by kernel_rfl) (by kernel_rfl) (by kernel_rfl) rfl hS0 ?_
        simp only [Act.put, List.setIfInBounds_toArray, List.set_cons_zero, List.set_cons_succ]
        refine held_skipO (i := 30) 37 rfl rfl (by kernel_rfl) (by kernel_rfl) (by kernel_rfl) rfl hS0 ?_
        simp only [Act.put, List.setIfInBounds_toArray, List.set_cons_zero, List.set_cons_succ]
        refine held_skipO (i := 31) 38 rfl rfl (by kernel_rfl) (by kernel_rfl) (by kernel_rfl) rfl hS0 ?_
        simp only [Act.put, List.setIfInBounds_toArray, List.set_cons_zero, List.set_cons_succ]
        refine held_take (i := 32) (v := (.bool true)) 39 rfl rfl (by kernel_rfl) (by kernel_rfl) (by kernel_rfl) rfl (fun w' hw' => by obtain ⟨q0, q1, q2, q3⟩ := hw'; go_simp) hS0 ?_
        simp only [Act.put, List.setIfInBounds_toArray, List.set_cons_zero, List.set_cons_succ]
        refine held_take (i := 33) (v := (.bool true)) 40 rfl rfl (by kernel_rfl) (by kernel_rfl) (by kernel_rfl) rfl (fun w' hw' => by obtain ⟨q0, q1, q2, q3⟩ := hw'; go_simp) hS0 ?_
        simp only [Act.put, List.setIfInBounds_toArray, List.set_cons_zero, List.set_cons_succ]
        refine held_end (by kernel_rfl) ?_ _
        go_wp2_with fail
        go_roundw
        · exact ⟨at_ + 1, by simp, by omega, HF, kd⟩
        · simp [intOf]; omega
      · by_cases hc2 : a1 = a ∧ x1 < x
        · obtain ⟨rfl, hc3⟩ := hc2
          have heq : (a1 == a1) = true := by simp
          have HF : Hid (∀ j (hj : j < l.length), j < at_ + 1 → ltP (l[j]) (a1, x) = true) := fun j hj h1 => hL.out j hj h1 (fun e => by subst e; rw [hq]; unfold ltP; rw [decide_eq_true_eq]; exact .inr ⟨rfl, hc3⟩)
          clear hL hlt hsame hq hO
          go_wp2_with fail
          refine wp_held_end (S := fun W : World => W.cell? ⟨cb, 0, none⟩ = some (.int .u64 a1) ∧ W.cell? ⟨cb, 1, none⟩ = some (.int .u64 x) ∧ W.cell? ⟨g, at_ * 2, none⟩ = some (.int .u64 a1) ∧ W.cell? ⟨g, at_ * 2 + 1, none⟩ = some (.int .u64 x1)) 34 rfl hmxp ?_
          simp only [Array.replicate_succ, Array.replicate_zero, List.push_toArray, List.nil_append, List.cons_append]
          refine held_take (i := 0) (v := (.int .i64 (at_ : Int))) 7 rfl rfl (by kernel_rfl) (by kernel_rfl) (by kernel_rfl) rfl (fun w' hw' => by obtain ⟨q0, q1, q2, q3⟩ := hw'; go_simp) hS0 ?_
          simp only [Act.put, List.setIfInBounds_toArray, List.set_cons_zero, List.set_cons_succ]
          refine held_take (i := 1) (v := (.slice (some ⟨g, 0, none⟩) n cp)) 8 rfl rfl (by kernel_rfl) (by kernel_rfl) (by kernel_rfl) rfl (fun w' hw' => by obtain ⟨q0, q1, q2, q3⟩ := hw'; go_simp) hS0 ?_
          simp only [Act.put, List.setIfInBounds_toArray, List.set_cons_zero, List.set_cons_succ]
          refine held_take (i := 2) (v := (.int .i64 (n : Int))) 9 rfl rfl (by kernel_rfl) (by kernel_rfl) (by kernel_rfl) rfl (fun w' hw' => by obtain ⟨q0, q1, q2, q3⟩ := hw'; go_simp) hS0 ?_
          simp only [Act.put, List.setIfInBounds_toArray, List.set_cons_zero, List.set_cons_succ]
          refine held_take (i := 3) (v := (.bool true)) 10 rfl rfl (by kernel_rfl) (by kernel_rfl) (by kernel_rfl) rfl (fun w' hw' => by obtain ⟨q0, q1, q2, q3⟩ := hw'; go_simp) hS0 ?_
          simp only [Act.put, List.setIfInBounds_toArray, List.set_cons_zero, List.set_cons_succ]
          refine held_take (i := 4) (v := (.bool true)) 11 rfl rfl (by kernel_rfl) (by kernel_rfl) (by kernel_rfl) rfl (fun w' hw' => by obtain ⟨q0, q1, q2, q3⟩ := hw'; go_simp) hS0 ?_
          simp only [Act.put, List.setIfInBounds_toArray, List.set_cons_zero, List.set_cons_succ]
          refine held_take (i := 5) (v := (.slice (some ⟨g, 0, none⟩) n cp)) 12 rfl rfl (by kernel_rfl) (by kernel_rfl) (by kernel_rfl) rfl (fun w' hw' => by obtain ⟨q0, q1, q2, q3⟩ := hw'; go_simp) hS0 ?_
          simp only [Act.put, List.setIfInBounds_toArray, List.set_cons_zero, List.set_cons_succ]
          refine held_take (i := 6) (v := (.int .i64 (at_ : Int))) 13 rfl rfl (by kernel_rfl) (by kernel_rfl) (by kernel_rfl) rfl (fun w' hw' => by obtain ⟨q0, q1, q2, q3⟩ := hw'; go_simp) hS0 ?_
          simp only [Act.put, List.setIfInBounds_toArray, List.set_cons_zero, List.set_cons_succ]
          refine held_take (i := 7) (v := (.pointer (some ⟨g, at_ * 2, none⟩))) 14 rfl rfl (by kernel_rfl) (by kernel_rfl) (by kernel_rfl) rfl (fun w' hw' => by obtain ⟨q0, q1, q2, q3⟩ := hw'; go_simp) hS0 ?_
          simp only [Act.put, List.setIfInBounds_toArray, List.set_cons_zero, List.set_cons_succ]
          refine held_take (i := 8) (v := (.pointer (some ⟨g, at_ * 2, none⟩))) 15 rfl rfl (by kernel_rfl) (by kernel_rfl) (by kernel_rfl) rfl (fun w' hw' => by obtain ⟨q0, q1, q2, q3⟩ := hw'; go_simp) hS0 ?_
          simp only [Act.put, List.setIfInBounds_toArray, List.set_cons_zero, List.set_cons_succ]
          refine held_take (i := 9) (v := (.int .u64 a1)) 16 rfl rfl (by kernel_rfl) (by kernel_rfl) (by kernel_rfl) rfl (fun w' hw' => by obtain ⟨q0, q1, q2, q3⟩ := hw'; go_simp) hS0 ?_
          simp only [Act.put, List.setIfInBounds_toArray, List.set_cons_zero, List.set_cons_succ]
          refine held_take (i := 10) (v := (.pointer (some ⟨cb, 0, none⟩))) 17 rfl rfl (by kernel_rfl) (by kernel_rfl) (by kernel_rfl) rfl (fun w' hw' => by obtain ⟨q0, q1, q2, q3⟩ := hw'; go_simp) hS0 ?_
          simp only [Act.put, List.setIfInBounds_toArray, List.set_cons_zero, List.set_cons_succ]
          refine held_take (i := 11) (v := (.int .u64 a1)) 18 rfl rfl (by kernel_rfl) (by kernel_rfl) (by kernel_rfl) rfl (fun w' hw' => by obtain ⟨q0, q1, q2, q3⟩ := hw'; go_simp) hS0 ?_
          simp only [Act.put, List.setIfInBounds_toArray, List.set_cons_zero, List.set_cons_succ]
          refine held_take (i := 12) (v := (.bool false)) 19 rfl rfl (by kernel_rfl) (by kernel_rfl) (by kernel_rfl) rfl (fun w' hw' => by obtain ⟨q0, q1, q2, q3⟩ := hw'; go_simp) hS0 ?_
          simp only [Act.put, List.setIfInBounds_toArray, List.set_cons_zero, List.set_cons_succ]
          refine held_take (i := 13) (v := (.bool false)) 20 rfl rfl (by kernel_rfl) (by kernel_rfl) (by kernel_rfl) rfl (fun w' hw' => by obtain ⟨q0, q1, q2, q3⟩ := hw'; go_simp) hS0 ?_
          simp only [Act.put, List.setIfInBounds_toArray, List.set_cons_zero, List.set_cons_succ]
          refine held_take (i := 14) (v := (.slice (some ⟨g, 0, none⟩) n cp)) 21 rfl rfl (by kernel_rfl) (by kernel_rfl) (by kernel_rfl) rfl (fun w' hw' => by obtain ⟨q0, q1, q2, q3⟩ := hw'; go_simp) hS0 ?_
          simp only [Act.put, List.setIfInBounds_toArray, List.set_cons_zero, List.set_cons_succ]
          refine held_take (i := 15) (v := (.int .i64 (at_ : Int))) 22 rfl rfl (by kernel_rfl) (by kernel_rfl) (by kernel_rfl) rfl (fun w' hw' => by obtain ⟨q0, q1, q2, q3⟩ := hw'; go_simp) hS0 ?_
          simp only [Act.put, List.setIfInBounds_toArray, List.set_cons_zero, List.set_cons_succ]
          refine held_take (i := 16) (v := (.pointer (some ⟨g, at_ * 2, none⟩))) 23 rfl rfl (by kernel_rfl) (by kernel_rfl) (by kernel_rfl) rfl (fun w' hw' => by obtain ⟨q0, q1, q2, q3⟩ := hw'; go_simp) hS0 ?_
          simp only [Act.put, List.setIfInBounds_toArray, List.set_cons_zero, List.set_cons_succ]
          refine held_take (i := 17) (v := (.pointer (some ⟨g, at_ * 2, none⟩))) 24 rfl rfl (by kernel_rfl) (by kernel_rfl) (by kernel_rfl) rfl (fun w' hw' => by obtain ⟨q0, q1, q2, q3⟩ := hw'; go_simp) hS0 ?_
          simp only [Act.put, List.setIfInBounds_toArray, List.set_cons_zero, List.set_cons_succ]
          refine held_take (i := 18) (v := (.int .u64 a1)) 25 rfl rfl (by kernel_rfl) (by kernel_rfl) (by kernel_rfl) rfl (fun w' hw' => by obtain ⟨q0, q1, q2, q3⟩ := hw'; go_simp) hS0 ?_
          simp only [Act.put, List.setIfInBounds_toArray, List.set_cons_zero, List.set_cons_succ]
          refine held_take (i := 19) (v := (.pointer (some ⟨cb, 0, none⟩))) 26 rfl rfl (by kernel_rfl) (by kernel_rfl) (by kernel_rfl) rfl (fun w' hw' => by obtain ⟨q0, q1, q2, q3⟩ := hw'; go_simp) hS0 ?_
          simp only [Act.put, List.setIfInBounds_toArray, List.set_cons_zero, List.set_cons_succ]
          refine held_take (i := 20) (v := (.int .u64 a1)) 27 rfl rfl (by kernel_rfl) (by kernel_rfl) (by kernel_rfl) rfl (fun w' hw' => by obtain ⟨q0, q1, q2, q3⟩ := hw'; go_simp) hS0 ?_
          simp only [Act.put, List.setIfInBounds_toArray, List.set_cons_zero, List.set_cons_succ]
          refine held_take (i := 21) (v := (.bool true)) 28 rfl rfl (by kernel_rfl) (by kernel_rfl) (by kernel_rfl) rfl (fun w' hw' => by obtain ⟨q0, q1, q2, q3⟩ := hw'; go_simp) hS0 ?_
          simp only [Act.put, List.setIfInBounds_toArray, List.set_cons_zero, List.set_cons_succ]
          refine held_take (i := 22) (v := (.bool true)) 29 rfl rfl (by kernel_rfl) (by kernel_rfl) (by kernel_rfl) rfl (fun w' hw' => by obtain ⟨q0, q1, q2, q3⟩ := hw'; go_simp) hS0 ?_
          simp only [Act.put, List.setIfInBounds_toArray, List.set_cons_zero, List.set_cons_succ]
          refine held_take (i := 23) (v := (.slice (some ⟨g, 0, none⟩) n cp)) 30 rfl rfl (by kernel_rfl) (by kernel_rfl) (by kernel_rfl) rfl (fun w' hw' => by obtain ⟨q0, q1, q2, q3⟩ := hw'; go_simp) hS0 ?_
          simp only [Act.put, List.setIfInBounds_toArray, List.set_cons_zero, List.set_cons_succ]
          refine held_take (i := 24) (v := (.int .i64 (at_ : Int))) 31 rfl rfl (by kernel_rfl) (by kernel_rfl) (by kernel_rfl) rfl (fun w' hw' => by obtain ⟨q0, q1, q2, q3⟩ := hw'; go_simp) hS0 ?_
          simp only [Act.put, List.setIfInBounds_toArray, List.set_cons_zero, List.set_cons_succ]
          refine held_take (i := 25) (v := (.pointer (some ⟨g, at_ * 2, none⟩))) 32 rfl rfl (by kernel_rfl) (by kernel_rfl) (by kernel_rfl) rfl (fun w' hw' => by obtain ⟨q0, q1, q2, q3⟩ := hw'; go_simp) hS0 ?_
          simp only [Act.put, List.setIfInBounds_toArray, List.set_cons_zero, List.set_cons_succ]
          refine held_take (i := 26) (v := (.pointer (some ⟨g, at_ * 2 + 1, none⟩))) 33 rfl rfl (by kernel_rfl) (by kernel_rfl) (by kernel_rfl) rfl (fun w' hw' => by obtain ⟨q0, q1, q2, q3⟩ := hw'; go_simp) hS0 ?_
          simp only [Act.put, List.setIfInBounds_toArray, List.set_cons_zero, List.set_cons_succ]
          refine held_take (i := 27) (v := (.int .u64 x1)) 34 rfl rfl (by kernel_rfl) (by kernel_rfl) (by kernel_rfl) rfl (fun w' hw' => by obtain ⟨q0, q1, q2, q3⟩ := hw'; go_simp) hS0 ?_
          simp only [Act.put, List.setIfInBounds_toArray, List.set_cons_zero, List.set_cons_succ]
          refine held_take (i := 28) (v := (.pointer (some ⟨cb, 1, none⟩))) 35 rfl rfl (by kernel_rfl) (by kernel_rfl) (by kernel_rfl) rfl (fun w' hw' => by obtain ⟨q0, q1, q2, q3⟩ := hw'; go_simp) hS0 ?_
          simp only [Act.put, List.setIfInBounds_toArray, List.set_cons_zero, List.set_cons_succ]
          refine held_take (i := 29) (v := (.int .u64 x)) 36 rfl rfl (by kernel_rfl) (by kernel_rfl) (by kernel_rfl) rfl (fun w' hw' => by obtain ⟨q0, q1, q2, q3⟩ := hw'; go_simp) hS0 ?_
          simp only [Act.put, List.setIfInBounds_toArray, List.set_cons_zero, List.set_cons_succ]
          refine held_take (i := 30) (v := (.bool true)) 37 rfl rfl (by kernel_rfl) (by kernel_rfl) (by kernel_rfl) rfl (fun w' hw' => by obtain ⟨q0, q1, q2, q3⟩ := hw'; go_simp) hS0 ?_
          simp only [Act.put, List.setIfInBounds_toArray, List.set_cons_zero, List.set_cons_succ]
          refine held_take (i := 31) (v := (.bool true)) 38 rfl rfl (by kernel_rfl) (by kernel_rfl) (by kernel_rfl) rfl (fun w' hw' => by obtain ⟨q0, q1, q2, q3⟩ := hw'; go_simp) hS0 ?_
          simp only [Act.put, List.setIfInBounds_toArray, List.set_cons_zero, List.set_cons_succ]
          refine held_take (i := 32) (v := (.bool true)) 39 rfl rfl (by kernel_rfl) (by kernel_rfl) (by kernel_rfl) rfl (fun w' hw' => by obtain ⟨q0, q1, q2, q3⟩ := hw'; go_simp) hS0 ?_
          simp only [Act.put, List.setIfInBounds_toArray, List.set_cons_zero, List.set_cons_succ]
          refine held_take (i := 33) (v := (.bool true)) 40 rfl rfl (by kernel_rfl) (by kernel_rfl) (by kernel_rfl) rfl (fun w' hw' => by obtain ⟨q0, q1, q2, q3⟩ := hw'; go_simp) hS0 ?_
          simp only [Act.put, List.setIfInBounds_toArray, List.set_cons_zero, List.set_cons_succ]
          refine held_end (by kernel_rfl) ?_ _
          go_wp2_with fail
          go_roundw
          · exact ⟨at_ + 1, by simp, by omega, HF, kd⟩
          · simp [intOf]; omega
        · have hstop : ltP (a1, x1) (a, x) = false := by unfold ltP; rw [decide_eq_false_iff_not]; dsimp only; omega
          have hins := insS_at l (a, x) at_ (by omega) hlt.out (fun h => by rw [hq]; exact hstop)
          rw [hsame _ rfl] at hins
          have HINS : Hid (_ = _) := hins
          have HQ : Hid (l[at_]? = some (a1, x1)) := hsame _ rfl
          clear hL hlt hsame hq hins hstop
          by_cases hc4 : a1 = a
          · subst hc4
            have hc5 : ¬ x1 < x := fun h => hc2 ⟨rfl, h⟩
            have heq : (a1 == a1) = true := by simp
            clear hc2
            go_wp2_with fail
            refine wp_held_end (S := fun W : World => W.cell? ⟨cb, 0, none⟩ = some (.int .u64 a1) ∧ W.cell? ⟨cb, 1, none⟩ = some (.int .u64 x) ∧ W.cell? ⟨g, at_ * 2, none⟩ = some (.int .u64 a1) ∧ W.cell? ⟨g, at_ * 2 + 1, none⟩ = some (.int .u64 x1)) 34 rfl hmxp ?_
            simp only [Array.replicate_succ, Array.replicate_zero, List.push_toArray, List.nil_append, List.cons_append]
            refine held_take (i := 0) (v := (.int .i64 (at_ : Int))) 7 rfl rfl (by kernel_rfl) (by kernel_rfl) (by kernel_rfl) rfl (fun w' hw' => by obtain ⟨q0, q1, q2, q3⟩ := hw'; go_simp) hS0 ?_
            simp only [Act.put, List.setIfInBounds_toArray, List.set_cons_zero, List.set_cons_succ]
            refine held_take (i := 1) (v := (.slice (some ⟨g, 0, none⟩) n cp)) 8 rfl rfl (by kernel_rfl) (by kernel_rfl) (by kernel_rfl) rfl (fun w' hw' => by obtain ⟨q0, q1, q2, q3⟩ := hw'; go_simp) hS0 ?_
            simp only [Act.put, List.setIfInBounds_toArray, List.set_cons_zero, List.set_cons_succ]
            refine held_take (i := 2) (v := (.int .i64 (n : Int))) 9 rfl rfl (by kernel_rfl) (by kernel_rfl) (by kernel_rfl) rfl (fun w' hw' => by obtain ⟨q0, q1, q2, q3⟩ := hw'; go_simp) hS0 ?_
            simp only [Act.put, List.setIfInBounds_toArray, List.set_cons_zero, List.set_cons_succ]
            refine held_take (i := 3) (v := (.bool true)) 10 rfl rfl (by kernel_rfl) (by kernel_rfl) (by kernel_rfl) rfl (fun w' hw' => by obtain ⟨q0, q1, q2, q3⟩ := hw'; go_simp) hS0 ?_
            simp only [Act.put, List.setIfInBounds_toArray, List.set_cons_zero, List.set_cons_succ]
            refine held_take (i := 4) (v := (.bool true)) 11 rfl rfl (by kernel_rfl) (by kernel_rfl) (by kernel_rfl) rfl (fun w' hw' => by obtain ⟨q0, q1, q2, q3⟩ := hw'; go_simp) hS0 ?_
            simp only [Act.put, List.setIfInBounds_toArray, List.set_cons_zero, List.set_cons_succ]
            refine held_take (i := 5) (v := (.slice (some ⟨g, 0, none⟩) n cp)) 12 rfl rfl (by kernel_rfl) (by kernel_rfl) (by kernel_rfl) rfl (fun w' hw' => by obtain ⟨q0, q1, q2, q3⟩ := hw'; go_simp) hS0 ?_
            simp only [Act.put, List.setIfInBounds_toArray, List.set_cons_zero, List.set_cons_succ]
            refine held_take (i := 6) (v := (.int .i64 (at_ : Int))) 13 rfl rfl (by kernel_rfl) (by kernel_rfl) (by kernel_rfl) rfl (fun w' hw' => by obtain ⟨q0, q1, q2, q3⟩ := hw'; go_simp) hS0 ?_
            simp only [Act.put, List.setIfInBounds_toArray, List.set_cons_zero, List.set_cons_succ]
            refine held_take (i := 7) (v := (.pointer (some ⟨g, at_ * 2, none⟩))) 14 rfl rfl (by kernel_rfl) (by kernel_rfl) (by kernel_rfl) rfl (fun w' hw' => by obtain ⟨q0, q1, q2, q3⟩ := hw'; go_simp) hS0 ?_
            simp only [Act.put, List.setIfInBounds_toArray, List.set_cons_zero, List.set_cons_succ]
            refine held_take (i := 8) (v := (.pointer (some ⟨g, at_ * 2, none⟩))) 15 rfl rfl (by kernel_rfl) (by kernel_rfl) (by kernel_rfl) rfl (fun w' hw' => by obtain ⟨q0, q1, q2, q3⟩ := hw'; go_simp) hS0 ?_
            simp only [Act.put, List.setIfInBounds_toArray, List.set_cons_zero, List.set_cons_succ]
            refine held_take (i := 9) (v := (.int .u64 a1)) 16 rfl rfl (by kernel_rfl) (by kernel_rfl) (by kernel_rfl) rfl (fun w' hw' => by obtain ⟨q0, q1, q2, q3⟩ := hw'; go_simp) hS0 ?_
            simp only [Act.put, List.setIfInBounds_toArray, List.set_cons_zero, List.set_cons_succ]
            refine held_take (i := 10) (v := (.pointer (some ⟨cb, 0, none⟩))) 17 rfl rfl (by kernel_rfl) (by kernel_rfl) (by kernel_rfl) rfl (fun w' hw' => by obtain ⟨q0, q1, q2, q3⟩ := hw'; go_simp) hS0 ?_
            simp only [Act.put, List.setIfInBounds_toArray, List.set_cons_zero, List.set_cons_succ]
            refine held_take (i := 11) (v := (.int .u64 a1)) 18 rfl rfl (by kernel_rfl) (by kernel_rfl) (by kernel_rfl) rfl (fun w' hw' => by obtain ⟨q0, q1, q2, q3⟩ := hw'; go_simp) hS0 ?_
            simp only [Act.put, List.setIfInBounds_toArray, List.set_cons_zero, List.set_cons_succ]
            refine held_take (i := 12) (v := (.bool false)) 19 rfl rfl (by kernel_rfl) (by kernel_rfl) (by kernel_rfl) rfl (fun w' hw' => by obtain ⟨q0, q1, q2, q3⟩ := hw'; go_simp) hS0 ?_
            simp only [Act.put, List.setIfInBounds_toArray, List.set_cons_zero, List.set_cons_succ]
            refine held_take (i := 13) (v := (.bool false)) 20 rfl rfl (by kernel_rfl) (by kernel_rfl) (by kernel_rfl) rfl (fun w' hw' => by obtain ⟨q0, q1, q2, q3⟩ := hw'; go_simp) hS0 ?_
            simp only [Act.put, List.setIfInBounds_toArray, List.set_cons_zero, List.set_cons_succ]
            refine held_take (i := 14) (v := (.slice (some ⟨g, 0, none⟩) n cp)) 21 rfl rfl (by kernel_rfl) (by kernel_rfl) (by kernel_rfl) rfl (fun w' hw' => by obtain ⟨q0, q1, q2, q3⟩ := hw'; go_simp) hS0 ?_
            simp only [Act.put, List.setIfInBounds_toArray, List.set_cons_zero, List.set_cons_succ]
            refine held_take (i := 15) (v := (.int .i64 (at_ : Int))) 22 rfl rfl (by kernel_rfl) (by kernel_rfl) (by kernel_rfl) rfl (fun w' hw' => by obtain ⟨q0, q1, q2, q3⟩ := hw'; go_simp) hS0 ?_
            simp only [Act.put, List.setIfInBounds_toArray, List.set_cons_zero, List.set_cons_succ]
            refine held_take (i := 16) (v := (.pointer (some ⟨g, at_ * 2, none⟩))) 23 rfl rfl (by kernel_rfl) (by kernel_rfl) (by kernel_rfl) rfl (fun w' hw' => by obtain ⟨q0, q1, q2, q3⟩ := hw'; go_simp) hS0 ?_
            simp only [Act.put, List.setIfInBounds_toArray, List.set_cons_zero, List.set_cons_succ]
            refine held_take (i := 17) (v := (.pointer (some ⟨g, at_ * 2, none⟩))) 24 rfl rfl (by kernel_rfl) (by kernel_rfl) (by kernel_rfl) rfl (fun w' hw' => by obtain ⟨q0, q1, q2, q3⟩ := hw'; go_simp) hS0 ?_
            simp only [Act.put, List.setIfInBounds_toArray, List.set_cons_zero, List.set_cons_succ]
            refine held_take (i := 18) (v := (.int .u64 a1)) 25 rfl rfl (by kernel_rfl) (by kernel_rfl) (by kernel_rfl) rfl (fun w' hw' => by obtain ⟨q0, q1, q2, q3⟩ := hw'; go_simp) hS0 ?_
            simp only [Act.put, List.setIfInBounds_toArray, List.set_cons_zero, List.set_cons_succ]
            refine held_take (i := 19) (v := (.pointer (some ⟨cb, 0, none⟩))) 26 rfl rfl (by kernel_rfl) (by kernel_rfl) (by kernel_rfl) rfl (fun w' hw' => by obtain ⟨q0, q1, q2, q3⟩ := hw'; go_simp) hS0 ?_
            simp only [Act.put, List.setIfInBounds_toArray, List.set_cons_zero, List.set_cons_succ]
            refine held_take (i := 20) (v := (.int .u64 a1)) 27 rfl rfl (by kernel_rfl) (by kernel_rfl) (by kernel_rfl) rfl (fun w' hw' => by obtain ⟨q0, q1, q2, q3⟩ := hw'; go_simp) hS0 ?_
            simp only [Act.put, List.setIfInBounds_toArray, List.set_cons_zero, List.set_cons_succ]
            refine held_take (i := 21) (v := (.bool true)) 28 rfl rfl (by kernel_rfl) (by kernel_rfl) (by kernel_rfl) rfl (fun w' hw' => by obtain ⟨q0, q1, q2, q3⟩ := hw'; go_simp) hS0 ?_
            simp only [Act.put, List.setIfInBounds_toArray, List.set_cons_zero, List.set_cons_succ]
            refine held_take (i := 22) (v := (.bool true)) 29 rfl rfl (by kernel_rfl) (by kernel_rfl) (by kernel_rfl) rfl (fun w' hw' => by obtain ⟨q0, q1, q2, q3⟩ := hw'; go_simp) hS0 ?_
            simp only [Act.put, List.setIfInBounds_toArray, List.set_cons_zero, List.set_cons_succ]
            refine held_take (i := 23) (v := (.slice (some ⟨g, 0, none⟩) n cp)) 30 rfl rfl (by kernel_rfl) (by kernel_rfl) (by kernel_rfl) rfl (fun w' hw' => by obtain ⟨q0, q1, q2, q3⟩ := hw'; go_simp) hS0 ?_
            simp only [Act.put, List.setIfInBounds_toArray, List.set_cons_zero, List.set_cons_succ]
            refine held_take (i := 24) (v := (.int .i64 (at_ : Int))) 31 rfl rfl (by kernel_rfl) (by kernel_rfl) (by kernel_rfl) rfl (fun w' hw' => by obtain ⟨q0, q1, q2, q3⟩ := hw'; go_simp) hS0 ?_
            simp only [Act.put, List.setIfInBounds_toArray, List.set_cons_zero, List.set_cons_succ]
            refine held_take (i := 25) (v := (.pointer (some ⟨g, at_ * 2, none⟩))) 32 rfl rfl (by kernel_rfl) (by kernel_rfl) (by kernel_rfl) rfl (fun w' hw' => by obtain ⟨q0, q1, q2, q3⟩ := hw'; go_simp) hS0 ?_
            simp only [Act.put, List.setIfInBounds_toArray, List.set_cons_zero, List.set_cons_succ]
            refine held_take (i := 26) (v := (.pointer (some ⟨g, at_ * 2 + 1, none⟩))) 33 rfl rfl (by kernel_rfl) (by kernel_rfl) (by kernel_rfl) rfl (fun w' hw' => by obtain ⟨q0, q1, q2, q3⟩ := hw'; go_simp) hS0 ?_
            simp only [Act.put, List.setIfInBounds_toArray, List.set_cons_zero, List.set_cons_succ]
            refine held_take (i := 27) (v := (.int .u64 x1)) 34 rfl rfl (by kernel_rfl) (by kernel_rfl) (by kernel_rfl) rfl (fun w' hw' => by obtain ⟨q0, q1, q2, q3⟩ := hw'; go_simp) hS0 ?_
            simp only [Act.put, List.setIfInBounds_toArray, List.set_cons_zero, List.set_cons_succ]
            refine held_take (i := 28) (v := (.pointer (some ⟨cb, 1, none⟩))) 35 rfl rfl (by kernel_rfl) (by kernel_rfl) (by kernel_rfl) rfl (fun w' hw' => by obtain ⟨q0, q1, q2, q3⟩ := hw'; go_simp) hS0 ?_
            simp only [Act.put, List.setIfInBounds_toArray, List.set_cons_zero, List.set_cons_succ]
            refine held_take (i := 29) (v := (.int .u64 x)) 36 rfl rfl (by kernel_rfl) (by kernel_rfl) (by kernel_rfl) rfl (fun w' hw' => by obtain ⟨q0, q1, q2, q3⟩ := hw'; go_simp) hS0 ?_
            simp only [Act.put, List.setIfInBounds_toArray, List.set_cons_zero, List.set_cons_succ]
            refine held_take (i := 30) (v := (.bool false)) 37 rfl rfl (by kernel_rfl) (by kernel_rfl) (by kernel_rfl) rfl (fun w' hw' => by obtain ⟨q0, q1, q2, q3⟩ := hw'; go_simp) hS0 ?_
            simp only [Act.put, List.setIfInBounds_toArray, List.set_cons_zero, List.set_cons_succ]
            refine held_take (i := 31) (v := (.bool false)) 38 rfl rfl (by kernel_rfl) (by kernel_rfl) (by kernel_rfl) rfl (fun w' hw' => by obtain ⟨q0, q1, q2, q3⟩ := hw'; go_simp) hS0 ?_
            simp only [Act.put, List.setIfInBounds_toArray, List.set_cons_zero, List.set_cons_succ]
            refine held_take (i := 32) (v := (.bool false)) 39 rfl rfl (by kernel_rfl) (by kernel_rfl) (by kernel_rfl) rfl (fun w' hw' => by obtain ⟨q0, q1, q2, q3⟩ := hw'; go_simp) hS0 ?_
            simp only [Act.put, List.setIfInBounds_toArray, List.set_cons_zero, List.set_cons_succ]
            refine held_take (i := 33) (v := (.bool false)) 40 rfl rfl (by kernel_rfl) (by kernel_rfl) (by kernel_rfl) rfl (fun w' hw' => by obtain ⟨q0, q1, q2, q3⟩ := hw'; go_simp) hS0 ?_
            simp only [Act.put, List.setIfInBounds_toArray, List.set_cons_zero, List.set_cons_succ]
            refine held_end (by kernel_rfl) ?_ _
            go_wp2_with fail
            have kd2 := kd.drew
            by_cases hxx : x1 = x
            · subst hxx
              have heb : (a1 == a1 && x1 == x1) = true := by simp
              have kF := HKC.out.trans (kd2.mono (fun _ _ f => f.elim))
              have HF : Hid (OwnR clC 2 28 Wo.drew.drew base (.slice (some ⟨g, 0, none⟩) n cp) (insS l (a1, x1))) := by unfold Hid; rw [HINS.out, if_pos rfl]; exact HO.out _ kd2
              clear HINS HQ
              refine wp_held_end (S := fun W : World => W.cell? ⟨cb, 0, none⟩ = some (.int .u64 a1) ∧ W.cell? ⟨cb, 1, none⟩ = some (.int .u64 x1) ∧ W.cell? ⟨g, at_ * 2, none⟩ = some (.int .u64 a1) ∧ W.cell? ⟨g, at_ * 2 + 1, none⟩ = some (.int .u64 x1)) 12 rfl hmxp ?_
              simp only [Array.replicate_succ, Array.replicate_zero, List.push_toArray, List.nil_append, List.cons_append]
              refine held_take (i := 0) (v := (.int .i64 (at_ : Int))) 43 rfl rfl (by kernel_rfl) (by kernel_rfl) (by kernel_rfl) rfl (fun w' hw' => by obtain ⟨q0, q1, q2, q3⟩ := hw'; go_simp) hS0 ?_
              simp only [Act.put, List.setIfInBounds_toArray, List.set_cons_zero, List.set_cons_succ]
              refine held_take (i := 1) (v := (.slice (some ⟨g, 0, none⟩) n cp)) 44 rfl rfl (by kernel_rfl) (by kernel_rfl) (by kernel_rfl) rfl (fun w' hw' => by obtain ⟨q0, q1, q2, q3⟩ := hw'; go_simp) hS0 ?_
              simp only [Act.put, List.setIfInBounds_toArray, List.set_cons_zero, List.set_cons_succ]
              refine held_take (i := 2) (v := (.int .i64 (n : Int))) 45 rfl rfl (by kernel_rfl) (by kernel_rfl) (by kernel_rfl) rfl (fun w' hw' => by obtain ⟨q0, q1, q2, q3⟩ := hw'; go_simp) hS0 ?_
              simp only [Act.put, List.setIfInBounds_toArray, List.set_cons_zero, List.set_cons_succ]
              refine held_take (i := 3) (v := (.bool true)) 46 rfl rfl (by kernel_rfl) (by kernel_rfl) (by kernel_rfl) rfl (fun w' hw' => by obtain ⟨q0, q1, q2, q3⟩ := hw'; go_simp) hS0 ?_
              simp only [Act.put, List.setIfInBounds_toArray, List.set_cons_zero, List.set_cons_succ]
              refine held_take (i := 4) (v := (.bool true)) 47 rfl rfl (by kernel_rfl) (by kernel_rfl) (by kernel_rfl) rfl (fun w' hw' => by obtain ⟨q0, q1, q2, q3⟩ := hw'; go_simp) hS0 ?_
              simp only [Act.put, List.setIfInBounds_toArray, List.set_cons_zero, List.set_cons_succ]
              refine held_take (i := 5) (v := (.slice (some ⟨g, 0, none⟩) n cp)) 48 rfl rfl (by kernel_rfl) (by kernel_rfl) (by kernel_rfl) rfl (fun w' hw' => by obtain ⟨q0, q1, q2, q3⟩ := hw'; go_simp) hS0 ?_
              simp only [Act.put, List.setIfInBounds_toArray, List.set_cons_zero, List.set_cons_succ]
              refine held_take (i := 6) (v := (.int .i64 (at_ : Int))) 49 rfl rfl (by kernel_rfl) (by kernel_rfl) (by kernel_rfl) rfl (fun w' hw' => by obtain ⟨q0, q1, q2, q3⟩ := hw'; go_simp) hS0 ?_
              simp only [Act.put, List.setIfInBounds_toArray, List.set_cons_zero, List.set_cons_succ]
              refine held_take (i := 7) (v := (.pointer (some ⟨g, at_ * 2, none⟩))) 50 rfl rfl (by kernel_rfl) (by kernel_rfl) (by kernel_rfl) rfl (fun w' hw' => by obtain ⟨q0, q1, q2, q3⟩ := hw'; go_simp) hS0 ?_
              simp only [Act.put, List.setIfInBounds_toArray, List.set_cons_zero, List.set_cons_succ]
              refine held_take (i := 8) (v := (.agg #[.int .u64 a1, .int .u64 x1])) 51 rfl rfl (by kernel_rfl) (by kernel_rfl) (by kernel_rfl) rfl (fun w' hw' => by obtain ⟨q0, q1, q2, q3⟩ := hw'; go_simp) hS0 ?_
              simp only [Act.put, List.setIfInBounds_toArray, List.set_cons_zero, List.set_cons_succ]
              refine held_take (i := 9) (v := (.agg #[.int .u64 a1, .int .u64 x1])) 52 rfl rfl (by kernel_rfl) (by kernel_rfl) (by kernel_rfl) rfl (fun w' hw' => by obtain ⟨q0, q1, q2, q3⟩ := hw'; go_simp) hS0 ?_
              simp only [Act.put, List.setIfInBounds_toArray, List.set_cons_zero, List.set_cons_succ]
              refine held_take (i := 10) (v := (.bool true)) 53 rfl rfl (by kernel_rfl) (by kernel_rfl) (by kernel_rfl) rfl (fun w' hw' => by obtain ⟨q0, q1, q2, q3⟩ := hw'; go_simp) hS0 ?_
              simp only [Act.put, List.setIfInBounds_toArray, List.set_cons_zero, List.set_cons_succ]
              refine held_take (i := 11) (v := (.bool true)) 54 rfl rfl (by kernel_rfl) (by kernel_rfl) (by kernel_rfl) rfl (fun w' hw' => by obtain ⟨q0, q1, q2, q3⟩ := hw'; go_simp) hS0 ?_
              simp only [Act.put, List.setIfInBounds_toArray, List.set_cons_zero, List.set_cons_succ]
              refine held_end (by kernel_rfl) ?_ _
              go_wp2_with fail
              go_ret
              exact ⟨_, rfl, HF.out, fun g hg => .inl hg, kF⟩
            · have heb : (a1 == a1 && x1 == x) = false := by
                rw [Bool.eq_false_iff]; intro c; simp only [Bool.and_eq_true, beq_iff_eq] at c; exact hxx c.2
              have HI : Hid (_ = _) := HINS.out.trans (if_neg (fun c => hxx (by cases c; rfl)))
              clear HINS HQ
              refine wp_held_end (S := fun W : World => W.cell? ⟨cb, 0, none⟩ = some (.int .u64 a1) ∧ W.cell? ⟨cb, 1, none⟩ = some (.int .u64 x) ∧ W.cell? ⟨g, at_ * 2, none⟩ = some (.int .u64 a1) ∧ W.cell? ⟨g, at_ * 2 + 1, none⟩ = some (.int .u64 x1)) 12 rfl hmxp ?_
              simp only [Array.replicate_succ, Array.replicate_zero, List.push_toArray, List.nil_append, List.cons_append]
              refine held_take (i := 0) (v := (.int .i64 (at_ : Int))) 43 rfl rfl (by kernel_rfl) (by kernel_rfl) (by kernel_rfl) rfl (fun w' hw' => by obtain ⟨q0, q1, q2, q3⟩ := hw'; go_simp) hS0 ?_
              simp only [Act.put, List.setIfInBounds_toArray, List.set_cons_zero, List.set_cons_succ]
              refine held_take (i := 1) (v := (.slice (some ⟨g, 0, none⟩) n cp)) 44 rfl rfl (by kernel_rfl) (by kernel_rfl) (by kernel_rfl) rfl (fun w' hw' => by obtain ⟨q0, q1, q2, q3⟩ := hw'; go_simp) hS0 ?_
              simp only [Act.put, List.setIfInBounds_toArray, List.set_cons_zero, List.set_cons_succ]
              refine held_take (i := 2) (v := (.int .i64 (n : Int))) 45 rfl rfl (by kernel_rfl) (by kernel_rfl) (by kernel_rfl) rfl (fun w' hw' => by obtain ⟨q0, q1, q2, q3⟩ := hw'; go_simp) hS0 ?_
              simp only [Act.put, List.setIfInBounds_toArray, List.set_cons_zero, List.set_cons_succ]
              refine held_take (i := 3) (v := (.bool true)) 46 rfl rfl (by kernel_rfl) (by kernel_rfl) (by kernel_rfl) rfl (fun w' hw' => by obtain ⟨q0, q1, q2, q3⟩ := hw'; go_simp) hS0 ?_
              simp only [Act.put, List.setIfInBounds_toArray, List.set_cons_zero, List.set_cons_succ]
              refine held_take (i := 4) (v := (.bool true)) 47 rfl rfl (by kernel_rfl) (by kernel_rfl) (by kernel_rfl) rfl (fun w' hw' => by obtain ⟨q0, q1, q2, q3⟩ := hw'; go_simp) hS0 ?_
              simp only [Act.put, List.setIfInBounds_toArray, List.set_cons_zero, List.set_cons_succ]
              refine held_take (i := 5) (v := (.slice (some ⟨g, 0, none⟩) n cp)) 48 rfl rfl (by kernel_rfl) (by kernel_rfl) (by kernel_rfl) rfl (fun w' hw' => by obtain ⟨q0, q1, q2, q3⟩ := hw'; go_simp) hS0 ?_
              simp only [Act.put, List.setIfInBounds_toArray, List.set_cons_zero, List.set_cons_succ]
              refine held_take (i := 6) (v := (.int .i64 (at_ : Int))) 49 rfl rfl (by kernel_rfl) (by kernel_rfl) (by kernel_rfl) rfl (fun w' hw' => by obtain ⟨q0, q1, q2, q3⟩ := hw'; go_simp) hS0 ?_
              simp only [Act.put, List.setIfInBounds_toArray, List.set_cons_zero, List.set_cons_succ]
              refine held_take (i := 7) (v := (.pointer (some ⟨g, at_ * 2, none⟩))) 50 rfl rfl (by kernel_rfl) (by kernel_rfl) (by kernel_rfl) rfl (fun w' hw' => by obtain ⟨q0, q1, q2, q3⟩ := hw'; go_simp) hS0 ?_
              simp only [Act.put, List.setIfInBounds_toArray, List.set_cons_zero, List.set_cons_succ]
              refine held_take (i := 8) (v := (.agg #[.int .u64 a1, .int .u64 x1])) 51 rfl rfl (by kernel_rfl) (by kernel_rfl) (by kernel_rfl) rfl (fun w' hw' => by obtain ⟨q0, q1, q2, q3⟩ := hw'; go_simp) hS0 ?_
              simp only [Act.put, List.setIfInBounds_toArray, List.set_cons_zero, List.set_cons_succ]
              refine held_take (i := 9) (v := (.agg #[.int .u64 a1, .int .u64 x])) 52 rfl rfl (by kernel_rfl) (by kernel_rfl) (by kernel_rfl) rfl (fun w' hw' => by obtain ⟨q0, q1, q2, q3⟩ := hw'; go_simp) hS0 ?_
              simp only [Act.put, List.setIfInBounds_toArray, List.set_cons_zero, List.set_cons_succ]
              refine held_take (i := 10) (v := (.bool false)) 53 rfl rfl (by kernel_rfl) (by kernel_rfl) (by kernel_rfl) rfl (fun w' hw' => by obtain ⟨q0, q1, q2, q3⟩ := hw'; go_simp) hS0 ?_
              simp only [Act.put, List.setIfInBounds_toArray, List.set_cons_zero, List.set_cons_succ]
              refine held_take (i := 11) (v := (.bool false)) 54 rfl rfl (by kernel_rfl) (by kernel_rfl) (by kernel_rfl) rfl (fun w' hw' => by obtain ⟨q0, q1, q2, q3⟩ := hw'; go_simp) hS0 ?_
              simp only [Act.put, List.setIfInBounds_toArray, List.set_cons_zero, List.set_cons_succ]
              refine held_end (by kernel_rfl) ?_ _
              obtain ⟨v', w3, r1, r2, r3⟩ := (HO.out _ kd2).push cl_len cl_one (by decide) Tryz.underlying24 info_cl rfl (by decide) (ty := 24) (a1, x) (cs := #[.int .u64 a1, .int .u64 x]) rfl (by rw [← HN.out]; omega)
              obtain ⟨g2, cap2, cur2, hv2, hb2, hgb2, -⟩ := r2.at (by simp)
              have e1 : (l ++ [(a1, x)]).length = n + 1 := by rw [List.length_append, ← HN.out]; rfl
              rw [e1] at hv2
              subst hv2
              have hg2 : (Value.slice (some ⟨g, 0, none⟩) n cp).ownBlock = some g2 ∨ A.heap.size ≤ g2 := by
                rcases r3.own with c | c
                · exact .inl (c ▸ rfl)
                · exact .inr (Nat.le_trans kd2.size (c g2 rfl))
              have K3 : Keeps (fun q => (Value.slice (some ⟨g, 0, none⟩) n cp).ownBlock = some q) w w3 := (HKC.out.trans (kd2.mono (fun _ _ f => f.elim))).trans r3.keeps
              have hAs : w.heap.size < A.heap.size := by rw [← HCB.out]; exact lt_of_block HBK.out
              have hcg : cb ≠ g2 := by
                rcases hg2 with c | c
                · have := HOW.out g2 c
                  have := HCB.out
                  omega
                · have := HCB.out
                  omega
              have HZ : Hid (∀ X, Keeps (fun q => q = g2) w3 X → X.cell? ⟨cb, 0, none⟩ = some (.int .u64 a1) ∧ X.cell? ⟨cb, 1, none⟩ = some (.int .u64 x)) := fun X k => by
                have hcA : cb < A.heap.size := lt_of_block HBK.out
                have b1 := (kd2.block cb hcA (fun f => f)).trans HBK.out
                have b2 := (r3.keeps.block cb (lt_of_block b1) (fun c => by have := HOW.out cb c; have := HCB.out; omega)).trans b1
                have b := (k.block cb (lt_of_block b2) hcg).trans b2
                exact ⟨by rw [cell_of_block b]; rfl, by rw [cell_of_block b]; rfl⟩
              have KF : Hid (∀ X, Keeps (fun q => q = g2) w3 X → Keeps (fun q => (Value.slice (some ⟨g, 0, none⟩) n cp).ownBlock = some q) w X) := fun X k => by
                refine ⟨k.os.trans K3.os, k.tape.trans K3.tape, k.output.trans K3.output, Nat.le_trans K3.size k.size, fun q hq hs => (k.block q (Nat.lt_of_lt_of_le hq K3.size) (fun e => ?_)).trans (K3.block q hq hs)⟩
                subst e
                rcases hg2 with c | c
                · exact hs c
                · omega
              have HG2 : Hid ((Value.slice (some ⟨g, 0, none⟩) n cp).ownBlock = some g2 ∨ w.heap.size ≤ g2) := hg2.imp (fun c => c) (fun c => by omega)
              have HST : Hid (∃ M : List (Int × Int), OwnR clC 2 28 w3 base (.slice (some ⟨g2, 0, none⟩) (n + 1) cap2) M ∧ Shf l n n M) := ⟨_, r2, e1, fun i _ h2 => by rw [List.getElem?_append_left (by rw [← HN.out]; exact h2)], fun i h1 h2 => by omega⟩
              have HA : Hid (_ = _) := r1
              clear r1 r2 r3 hb2 hgb2 e1 hg2 K3 hAs hcg kd2
              go_wp2_with (at_builtin; refine wpList_append_run rfl _ _ 24 rfl rfl rfl HA.out ?_)
              go_loopw [6] (fun u wr => ∃ k : Nat, u = .int .i64 (k : Int) ∧ at_ ≤ k ∧ k ≤ n ∧ Hid (∃ M : List (Int × Int), OwnR clC 2 28 wr base (.slice (some ⟨g2, 0, none⟩) (n + 1) cap2) M ∧ Shf l n k M) ∧ Keeps (fun q => q = g2) w3 wr) (fun u _ => (intOf u).toNat - at_)
              case atStart => exact ⟨n, rfl, by omega, by omega, HST, Keeps.refl _ _⟩
              case round =>
                clear HST HA
                obtain ⟨k, rfl, hk1, hk2, hM, kz⟩ := hrel
                generalize wr = Wk at *
                obtain ⟨M, hMo, hSh⟩ := hM.out
                have hMl := hSh.len
                have hk0 : (0 : Int) ≤ (k : Int) := by omega
                have hkn : (k : Int) < ((n + 1 : Nat) : Int) := by omega
                have hkn2 : (k : Int) < (n : Int) + 1 := by omega
                by_cases hgt : at_ < k
                · have hgti : (at_ : Int) < (k : Int) := by omega
                  obtain ⟨p, hp⟩ : ∃ p, k = p + 1 := ⟨k - 1, by omega⟩
                  have hp0 : (0 : Int) ≤ (p : Int) := by omega
                  have hpn : (p : Int) < ((n + 1 : Nat) : Int) := by omega
                  have hpn2 : (p : Int) < (n : Int) + 1 := by omega
                  have hw6 : IntKind.i64.wrap ((k : Int) - 1) = (p : Int) := by rw [IntKind.wrap_i64]; omega
                  have hkM : k < M.length := by omega
                  have hpM : p < M.length := by omega
                  have hset := hMo.setC k (M[p]'hpM) hkM
                  have kS := kz.trans (((Keeps.refl (fun q => q = g2) Wk).setCell (p := ⟨g2, k * 2, none⟩) (.inr rfl) (.int .u64 (M[p]'hpM).1)).setCell (p := ⟨g2, k * 2 + 1, none⟩) (.inr rfl) (.int .u64 (M[p]'hpM).2))
                  have HF : Hid (∃ M2 : List (Int × Int), OwnR clC 2 28 ((Wk.setCell ⟨g2, k * 2, none⟩ (.int .u64 (M[p]'hpM).1)).setCell ⟨g2, k * 2 + 1, none⟩ (.int .u64 (M[p]'hpM).2)) base (.slice (some ⟨g2, 0, none⟩) (n + 1) cap2) M2 ∧ Shf l n p M2) := by
                    refine ⟨_, hset, by rw [List.length_set]; exact hMl, fun i h1 h2 => ?_, fun i h1 h2 => ?_⟩
                    · rw [List.getElem?_set_ne (by omega)]
                      exact hSh.lo i (by omega) h2
                    · by_cases hik : i = k
                      · subst hik
                        rw [List.getElem?_set_self hkM, hp, Nat.add_sub_cancel, ← hSh.lo p (by omega) (by omega), List.getElem?_eq_getElem hpM]
                      · rw [List.getElem?_set_ne (by omega)]
                        exact hSh.hi i (by omega) h2
                  obtain ⟨x0, x1', fz2⟩ := own_cellC hMo p hpM
                  obtain ⟨v0, v1, -⟩ := own_cellC hMo k hkM
                  generalize M[k]'hkM = ov at *
                  generalize M[p]'hpM = xa at *
                  obtain ⟨xa1, xa2⟩ := xa
                  obtain ⟨ov1, ov2⟩ := ov
                  dsimp only at x0 x1' v0 v1 HF kS
                  have hS2 : Wk.cell? ⟨g2, p * 2, none⟩ = some (.int .u64 xa1) ∧ Wk.cell? ⟨g2, p * 2 + 1, none⟩ = some (.int .u64 xa2) := ⟨x0, x1'⟩
                  have f0 := fz2 (k * 2)
                  have f1 := fz2 (k * 2 + 1)
                  have HP : Hid (k = p + 1) := hp
                  clear hset hMo hSh hM hMl fz2 kz hp
                  go_wp2_with fail
                  go_roundw
                  · have := HP.out
                    exact ⟨p, rfl, by omega, by omega, HF, kS⟩
                  · have := HP.out
                    simp [intOf]; omega
                · have hgti : ¬ (at_ : Int) < (k : Int) := by omega
                  have hka : k = at_ := by omega
                  subst hka
                  have hkM : k < M.length := by omega
                  have hset := hMo.setC k (a1, x) hkM
                  rw [hSh.done HN.out hk2 (a1, x), ← HI.out] at hset
                  have kS := KF.out _ (kz.trans (((Keeps.refl (fun q => q = g2) Wk).setCell (p := ⟨g2, k * 2, none⟩) (.inr rfl) (.int .u64 a1)).setCell (p := ⟨g2, k * 2 + 1, none⟩) (.inr rfl) (.int .u64 x)))
                  obtain ⟨v0, v1, fz2⟩ := own_cellC hMo k hkM
                  obtain ⟨y0, y1⟩ := HZ.out Wk kz
                  have f0 := fz2 (k * 2)
                  have f1 := fz2 (k * 2 + 1)
                  have HF : Hid (OwnR _ _ _ _ _ _ _) := hset
                  generalize M[k]'hkM = ov at *
                  obtain ⟨ov1, ov2⟩ := ov
                  dsimp only at v0 v1
                  clear hset hMo hSh hM hMl fz2 kz
                  go_wp2_with fail
                  go_ret
                  exact ⟨_, rfl, HF.out, fun g hg => by cases hg; exact HG2.out, kS⟩
          · have heq : (a1 == a) = false := by rw [beq_eq_false_iff_ne]; exact hc4
            clear hc2
            go_wp2_with fail
            refine wp_held_end (S := fun W : World => W.cell? ⟨cb, 0, none⟩ = some (.int .u64 a) ∧ W.cell? ⟨cb, 1, none⟩ = some (.int .u64 x) ∧ W.cell? ⟨g, at_ * 2, none⟩ = some (.int .u64 a1) ∧ W.cell? ⟨g, at_ * 2 + 1, none⟩ = some (.int .u64 x1)) 34 rfl hmxp ?_
            simp only [Array.replicate_succ, Array.replicate_zero, List.push_toArray, List.nil_append, List.cons_append]
            refine held_take (i := 0) (v := (.int .i64 (at_ : Int))) 7 rfl rfl (by kernel_rfl) (by kernel_rfl) (by kernel_rfl) rfl (fun w' hw' => by obtain ⟨q0, q1, q2, q3⟩ := hw'; go_simp) hS0 ?_
            simp only [Act.put, List.setIfInBounds_toArray, List.set_cons_zero, List.set_cons_succ]
            refine held_take (i := 1) (v := (.slice (some ⟨g, 0, none⟩) n cp)) 8 rfl rfl (by kernel_rfl) (by kernel_rfl) (by kernel_rfl) rfl (fun w' hw' => by obtain ⟨q0, q1, q2, q3⟩ := hw'; go_simp) hS0 ?_
            simp only [Act.put, List.setIfInBounds_toArray, List.set_cons_zero, List.set_cons_succ]
            refine held_take (i := 2) (v := (.int .i64 (n : Int))) 9 rfl rfl (by kernel_rfl) (by kernel_rfl) (by kernel_rfl) rfl (fun w' hw' => by obtain ⟨q0, q1, q2, q3⟩ := hw'; go_simp) hS0 ?_
            simp only [Act.put, List.setIfInBounds_toArray, List.set_cons_zero, List.set_cons_succ]
            refine held_take (i := 3) (v := (.bool true)) 10 rfl rfl (by kernel_rfl) (by kernel_rfl) (by kernel_rfl) rfl (fun w' hw' => by obtain ⟨q0, q1, q2, q3⟩ := hw'; go_simp) hS0 ?_
            simp only [Act.put, List.setIfInBounds_toArray, List.set_cons_zero, List.set_cons_succ]
            refine held_take (i := 4) (v := (.bool true)) 11 rfl rfl (by kernel_rfl) (by kernel_rfl) (by kernel_rfl) rfl (fun w' hw' => by obtain ⟨q0, q1, q2, q3⟩ := hw'; go_simp) hS0 ?_
            simp only [Act.put, List.setIfInBounds_toArray, List.set_cons_zero, List.set_cons_succ]
            refine held_take (i := 5) (v := (.slice (some ⟨g, 0, none⟩) n cp)) 12 rfl rfl (by kernel_rfl) (by kernel_rfl) (by kernel_rfl) rfl (fun w' hw' => by obtain ⟨q0, q1, q2, q3⟩ := hw'; go_simp) hS0 ?_
            simp only [Act.put, List.setIfInBounds_toArray, List.set_cons_zero, List.set_cons_succ]
            refine held_take (i := 6) (v := (.int .i64 (at_ : Int))) 13 rfl rfl (by kernel_rfl) (by kernel_rfl) (by kernel_rfl) rfl (fun w' hw' => by obtain ⟨q0, q1, q2, q3⟩ := hw'; go_simp) hS0 ?_
            simp only [Act.put, List.setIfInBounds_toArray, List.set_cons_zero, List.set_cons_succ]
            refine held_take (i := 7) (v := (.pointer (some ⟨g, at_ * 2, none⟩))) 14 rfl rfl (by kernel_rfl) (by kernel_rfl) (by kernel_rfl) rfl (fun w' hw' => by obtain ⟨q0, q1, q2, q3⟩ := hw'; go_simp) hS0 ?_
            simp only [Act.put, List.setIfInBounds_toArray, List.set_cons_zero, List.set_cons_succ]
            refine held_take (i := 8) (v := (.pointer (some ⟨g, at_ * 2, none⟩))) 15 rfl rfl (by kernel_rfl) (by kernel_rfl) (by kernel_rfl) rfl (fun w' hw' => by obtain ⟨q0, q1, q2, q3⟩ := hw'; go_simp) hS0 ?_
            simp only [Act.put, List.setIfInBounds_toArray, List.set_cons_zero, List.set_cons_succ]
            refine held_take (i := 9) (v := (.int .u64 a1)) 16 rfl rfl (by kernel_rfl) (by kernel_rfl) (by kernel_rfl) rfl (fun w' hw' => by obtain ⟨q0, q1, q2, q3⟩ := hw'; go_simp) hS0 ?_
            simp only [Act.put, List.setIfInBounds_toArray, List.set_cons_zero, List.set_cons_succ]
            refine held_take (i := 10) (v := (.pointer (some ⟨cb, 0, none⟩))) 17 rfl rfl (by kernel_rfl) (by kernel_rfl) (by kernel_rfl) rfl (fun w' hw' => by obtain ⟨q0, q1, q2, q3⟩ := hw'; go_simp) hS0 ?_
            simp only [Act.put, List.setIfInBounds_toArray, List.set_cons_zero, List.set_cons_succ]
            refine held_take (i := 11) (v := (.int .u64 a)) 18 rfl rfl (by kernel_rfl) (by kernel_rfl) (by kernel_rfl) rfl (fun w' hw' => by obtain ⟨q0, q1, q2, q3⟩ := hw'; go_simp) hS0 ?_
            simp only [Act.put, List.setIfInBounds_toArray, List.set_cons_zero, List.set_cons_succ]
            refine held_take (i := 12) (v := (.bool false)) 19 rfl rfl (by kernel_rfl) (by kernel_rfl) (by kernel_rfl) rfl (fun w' hw' => by obtain ⟨q0, q1, q2, q3⟩ := hw'; go_simp) hS0 ?_
            simp only [Act.put, List.setIfInBounds_toArray, List.set_cons_zero, List.set_cons_succ]
            refine held_take (i := 13) (v := (.bool false)) 20 rfl rfl (by kernel_rfl) (by kernel_rfl) (by kernel_rfl) rfl (fun w' hw' => by obtain ⟨q0, q1, q2, q3⟩ := hw'; go_simp) hS0 ?_
            simp only [Act.put, List.setIfInBounds_toArray, List.set_cons_zero, List.set_cons_succ]
            refine held_take (i := 14) (v := (.slice (some ⟨g, 0, none⟩) n cp)) 21 rfl rfl (by kernel_rfl) (by kernel_rfl) (by kernel_rfl) rfl (fun w' hw' => by obtain ⟨q0, q1, q2, q3⟩ := hw'; go_simp) hS0 ?_
            simp only [Act.put, List.setIfInBounds_toArray, List.set_cons_zero, List.set_cons_succ]
            refine held_take (i := 15) (v := (.int .i64 (at_ : Int))) 22 rfl rfl (by kernel_rfl) (by kernel_rfl) (by kernel_rfl) rfl (fun w' hw' => by obtain ⟨q0, q1, q2, q3⟩ := hw'; go_simp) hS0 ?_
            simp only [Act.put, List.setIfInBounds_toArray, List.set_cons_zero, List.set_cons_succ]
            refine held_take (i := 16) (v := (.pointer (some ⟨g, at_ * 2, none⟩))) 23 rfl rfl (by kernel_rfl) (by kernel_rfl) (by kernel_rfl) rfl (fun w' hw' => by obtain ⟨q0, q1, q2, q3⟩ := hw'; go_simp) hS0 ?_
            simp only [Act.put, List.setIfInBounds_toArray, List.set_cons_zero, List.set_cons_succ]
            refine held_take (i := 17) (v := (.pointer (some ⟨g, at_ * 2, none⟩))) 24 rfl rfl (by kernel_rfl) (by kernel_rfl) (by kernel_rfl) rfl (fun w' hw' => by obtain ⟨q0, q1, q2, q3⟩ := hw'; go_simp) hS0 ?_
            simp only [Act.put, List.setIfInBounds_toArray, List.set_cons_zero, List.set_cons_succ]
            refine held_take (i := 18) (v := (.int .u64 a1)) 25 rfl rfl (by kernel_rfl) (by kernel_rfl) (by kernel_rfl) rfl (fun w' hw' => by obtain ⟨q0, q1, q2, q3⟩ := hw'; go_simp) hS0 ?_
            simp only [Act.put, List.setIfInBounds_toArray, List.set_cons_zero, List.set_cons_succ]
            refine held_take (i := 19) (v := (.pointer (some ⟨cb, 0, none⟩))) 26 rfl rfl (by kernel_rfl) (by kernel_rfl) (by kernel_rfl) rfl (fun w' hw' => by obtain ⟨q0, q1, q2, q3⟩ := hw'; go_simp) hS0 ?_
            simp only [Act.put, List.setIfInBounds_toArray, List.set_cons_zero, List.set_cons_succ]
            refine held_take (i := 20) (v := (.int .u64 a)) 27 rfl rfl (by kernel_rfl) (by kernel_rfl) (by kernel_rfl) rfl (fun w' hw' => by obtain ⟨q0, q1, q2, q3⟩ := hw'; go_simp) hS0 ?_
            simp only [Act.put, List.setIfInBounds_toArray, List.set_cons_zero, List.set_cons_succ]
            refine held_take (i := 21) (v := (.bool false)) 28 rfl rfl (by kernel_rfl) (by kernel_rfl) (by kernel_rfl) rfl (fun w' hw' => by obtain ⟨q0, q1, q2, q3⟩ := hw'; go_simp) hS0 ?_
            simp only [Act.put, List.setIfInBounds_toArray, List.set_cons_zero, List.set_cons_succ]
            refine held_take (i := 22) (v := (.bool false)) 29 rfl rfl (by kernel_rfl) (by kernel_rfl) (by kernel_rfl) rfl (fun w' hw' => by obtain ⟨q0, q1, q2, q3⟩ := hw'; go_simp) hS0 ?_
            simp only [Act.put, List.setIfInBounds_toArray, List.set_cons_zero, List.set_cons_succ]
            refine held_skipO (i := 23) 30 rfl rfl (by kernel_rfl) (by kernel_rfl) (by kernel_rfl) rfl hS0 ?_
            simp only [Act.put, List.setIfInBounds_toArray, List.set_cons_zero, List.set_cons_succ]
            refine held_skipO (i := 24) 31 rfl rfl (by kernel_rfl) (by kernel_rfl) (by kernel_rfl) rfl hS0 ?_
            simp only [Act.put, List.setIfInBounds_toArray, List.set_cons_zero, List.set_cons_succ]
            refine held_skipO (i := 25) 32 rfl rfl (by kernel_rfl) (by kernel_rfl) (by kernel_rfl) rfl hS0 ?_
            simp only [Act.put, List.setIfInBounds_toArray, List.set_cons_zero, List.set_cons_succ]
            refine held_skipO (i := 26) 33 rfl rfl (by kernel_rfl) (by kernel_rfl) (by kernel_rfl) rfl hS0 ?_
            simp only [Act.put, List.setIfInBounds_toArray, List.set_cons_zero, List.set_cons_succ]
            refine held_skipO (i := 27) 34 rfl rfl (by kernel_rfl) (by kernel_rfl) (by kernel_rfl) rfl hS0 ?_
            simp only [Act.put, List.setIfInBounds_toArray, List.set_cons_zero, List.set_cons_succ]
            refine held_skipO (i := 28) 35 rfl rfl (by kernel_rfl) (by kernel_rfl) (by kernel_rfl) rfl hS0 ?_
            simp only [Act.put, List.setIfInBounds_toArray, List.set_cons_zero, List.set_cons_succ]
            refine held_skipO (i := 29) 36 rfl rfl (by kernel_rfl) (by kernel_rfl) (by kernel_rfl) rfl hS0 ?_
            simp only [Act.put, List.setIfInBounds_toArray, List.set_cons_zero, List.set_cons_succ]
            refine held_skipO (i := 30) 37 rfl rfl (by kernel_rfl) (by kernel_rfl) (by kernel_rfl) rfl hS0 ?_
            simp only [Act.put, List.setIfInBounds_toArray, List.set_cons_zero, List.set_cons_succ]
            refine held_take (i := 31) (v := (.bool false)) 38 rfl rfl (by kernel_rfl) (by kernel_rfl) (by kernel_rfl) rfl (fun w' hw' => by obtain ⟨q0, q1, q2, q3⟩ := hw'; go_simp) hS0 ?_
            simp only [Act.put, List.setIfInBounds_toArray, List.set_cons_zero, List.set_cons_succ]
            refine held_take (i := 32) (v := (.bool false)) 39 rfl rfl (by kernel_rfl) (by kernel_rfl) (by kernel_rfl) rfl (fun w' hw' => by obtain ⟨q0, q1, q2, q3⟩ := hw'; go_simp) hS0 ?_
            simp only [Act.put, List.setIfInBounds_toArray, List.set_cons_zero, List.set_cons_succ]
            refine held_take (i := 33) (v := (.bool false)) 40 rfl rfl (by kernel_rfl) (by kernel_rfl) (by kernel_rfl) rfl (fun w' hw' => by obtain ⟨q0, q1, q2, q3⟩ := hw'; go_simp) hS0 ?_
            simp only [Act.put, List.setIfInBounds_toArray, List.set_cons_zero, List.set_cons_succ]
            refine held_end (by kernel_rfl) ?_ _
            go_wp2_with fail
            have kd2 := kd.drew
            have heb : (a1 == a && x1 == x) = false := by rw [heq]; rfl
            have HI : Hid (_ = _) := HINS.out.trans (if_neg (fun c => hc4 (by cases c; rfl)))
            clear HINS HQ
            refine wp_held_end (S := fun W : World => W.cell? ⟨cb, 0, none⟩ = some (.int .u64 a) ∧ W.cell? ⟨cb, 1, none⟩ = some (.int .u64 x) ∧ W.cell? ⟨g, at_ * 2, none⟩ = some (.int .u64 a1) ∧ W.cell? ⟨g, at_ * 2 + 1, none⟩ = some (.int .u64 x1)) 12 rfl hmxp ?_
            simp only [Array.replicate_succ, Array.replicate_zero, List.push_toArray, List.nil_append, List.cons_append]
            refine held_take (i := 0) (v := (.int .i64 (at_ : Int))) 43 rfl rfl (by kernel_rfl) (by kernel_rfl) (by kernel_rfl) rfl (fun w' hw' => by obtain ⟨q0, q1, q2, q3⟩ := hw'; go_simp) hS0 ?_
            simp only [Act.put, List.setIfInBounds_toArray, List.set_cons_zero, List.set_cons_succ]
            refine held_take (i := 1) (v := (.slice (some ⟨g, 0, none⟩) n cp)) 44 rfl rfl (by kernel_rfl) (by kernel_rfl) (by kernel_rfl) rfl (fun w' hw' => by obtain ⟨q0, q1, q2, q3⟩ := hw'; go_simp) hS0 ?_
            simp only [Act.put, List.setIfInBounds_toArray, List.set_cons_zero, List.set_cons_succ]
            refine held_take (i := 2) (v := (.int .i64 (n : Int))) 45 rfl rfl (by kernel_rfl) (by kernel_rfl) (by kernel_rfl) rfl (fun w' hw' => by obtain ⟨q0, q1, q2, q3⟩ := hw'; go_simp) hS0 ?_
            simp only [Act.put, List.setIfInBounds_toArray, List.set_cons_zero, List.set_cons_succ]
            refine held_take (i := 3) (v := (.bool true)) 46 rfl rfl (by kernel_rfl) (by kernel_rfl) (by kernel_rfl) rfl (fun w' hw' => by obtain ⟨q0, q1, q2, q3⟩ := hw'; go_simp) hS0 ?_
            simp only [Act.put, List.setIfInBounds_toArray, List.set_cons_zero, List.set_cons_succ]
            refine held_take (i := 4) (v := (.bool true)) 47 rfl rfl (by kernel_rfl) (by kernel_rfl) (by kernel_rfl) rfl (fun w' hw' => by obtain ⟨q0, q1, q2, q3⟩ := hw'; go_simp) hS0 ?_
            simp only [Act.put, List.setIfInBounds_toArray, List.set_cons_zero, List.set_cons_succ]
            refine held_take (i := 5) (v := (.slice (some ⟨g, 0, none⟩) n cp)) 48 rfl rfl (by kernel_rfl) (by kernel_rfl) (by kernel_rfl) rfl (fun w' hw' => by obtain ⟨q0, q1, q2, q3⟩ := hw'; go_simp) hS0 ?_
            simp only [Act.put, List.setIfInBounds_toArray, List.set_cons_zero, List.set_cons_succ]
            refine held_take (i := 6) (v := (.int .i64 (at_ : Int))) 49 rfl rfl (by kernel_rfl) (by kernel_rfl) (by kernel_rfl) rfl (fun w' hw' => by obtain ⟨q0, q1, q2, q3⟩ := hw'; go_simp) hS0 ?_
            simp only [Act.put, List.setIfInBounds_toArray, List.set_cons_zero, List.set_cons_succ]
            refine held_take (i := 7) (v := (.pointer (some ⟨g, at_ * 2, none⟩))) 50 rfl rfl (by kernel_rfl) (by kernel_rfl) (by kernel_rfl) rfl (fun w' hw' => by obtain ⟨q0, q1, q2, q3⟩ := hw'; go_simp) hS0 ?_
            simp only [Act.put, List.setIfInBounds_toArray, List.set_cons_zero, List.set_cons_succ]
            refine held_take (i := 8) (v := (.agg #[.int .u64 a1, .int .u64 x1])) 51 rfl rfl (by kernel_rfl) (by kernel_rfl) (by kernel_rfl) rfl (fun w' hw' => by obtain ⟨q0, q1, q2, q3⟩ := hw'; go_simp) hS0 ?_
            simp only [Act.put, List.setIfInBounds_toArray, List.set_cons_zero, List.set_cons_succ]
            refine held_take (i := 9) (v := (.agg #[.int .u64 a, .int .u64 x])) 52 rfl rfl (by kernel_rfl) (by kernel_rfl) (by kernel_rfl) rfl (fun w' hw' => by obtain ⟨q0, q1, q2, q3⟩ := hw'; go_simp) hS0 ?_
            simp only [Act.put, List.setIfInBounds_toArray, List.set_cons_zero, List.set_cons_succ]
            refine held_take (i := 10) (v := (.bool false)) 53 rfl rfl (by kernel_rfl) (by kernel_rfl) (by kernel_rfl) rfl (fun w' hw' => by obtain ⟨q0, q1, q2, q3⟩ := hw'; go_simp) hS0 ?_
            simp only [Act.put, List.setIfInBounds_toArray, List.set_cons_zero, List.set_cons_succ]
            refine held_take (i := 11) (v := (.bool false)) 54 rfl rfl (by kernel_rfl) (by kernel_rfl) (by kernel_rfl) rfl (fun w' hw' => by obtain ⟨q0, q1, q2, q3⟩ := hw'; go_simp) hS0 ?_
            simp only [Act.put, List.setIfInBounds_toArray, List.set_cons_zero, List.set_cons_succ]
            refine held_end (by kernel_rfl) ?_ _
            obtain ⟨v', w3, r1, r2, r3⟩ := (HO.out _ kd2).push cl_len cl_one (by decide) Tryz.underlying24 info_cl rfl (by decide) (ty := 24) (a, x) (cs := #[.int .u64 a, .int .u64 x]) rfl (by rw [← HN.out]; omega)
            obtain ⟨g2, cap2, cur2, hv2, hb2, hgb2, -⟩ := r2.at (by simp)
            have e1 : (l ++ [(a, x)]).length = n + 1 := by rw [List.length_append, ← HN.out]; rfl
            rw [e1] at hv2
            subst hv2
            have hg2 : (Value.slice (some ⟨g, 0, none⟩) n cp).ownBlock = some g2 ∨ A.heap.size ≤ g2 := by
              rcases r3.own with c | c
              · exact .inl (c ▸ rfl)
              · exact .inr (Nat.le_trans kd2.size (c g2 rfl))
            have K3 : Keeps (fun q => (Value.slice (some ⟨g, 0, none⟩) n cp).ownBlock = some q) w w3 := (HKC.out.trans (kd2.mono (fun _ _ f => f.elim))).trans r3.keeps
            have hAs : w.heap.size < A.heap.size := by rw [← HCB.out]; exact lt_of_block HBK.out
            have hcg : cb ≠ g2 := by
              rcases hg2 with c | c
              · have := HOW.out g2 c
                have := HCB.out
                omega
              · have := HCB.out
                omega
            have HZ : Hid (∀ X, Keeps (fun q => q = g2) w3 X → X.cell? ⟨cb, 0, none⟩ = some (.int .u64 a) ∧ X.cell? ⟨cb, 1, none⟩ = some (.int .u64 x)) := fun X k => by
              have hcA : cb < A.heap.size := lt_of_block HBK.out
              have b1 := (kd2.block cb hcA (fun f => f)).trans HBK.out
              have b2 := (r3.keeps.block cb (lt_of_block b1) (fun c => by have := HOW.out cb c; have := HCB.out; omega)).trans b1
              have b := (k.block cb (lt_of_block b2) hcg).trans b2
              exact ⟨by rw [cell_of_block b]; rfl, by rw [cell_of_block b]; rfl⟩
            have KF : Hid (∀ X, Keeps (fun q => q = g2) w3 X → Keeps (fun q => (Value.slice (some ⟨g, 0, none⟩) n cp).ownBlock = some q) w X) := fun X k => by
              refine ⟨k.os.trans K3.os, k.tape.trans K3.tape, k.output.trans K3.output, Nat.le_trans K3.size k.size, fun q hq hs => (k.block q (Nat.lt_of_lt_of_le hq K3.size) (fun e => ?_)).trans (K3.block q hq hs)⟩
              subst e
              rcases hg2 with c | c
              · exact hs c
              · omega
            have HG2 : Hid ((Value.slice (some ⟨g, 0, none⟩) n cp).ownBlock = some g2 ∨ w.heap.size ≤ g2) := hg2.imp (fun c => c) (fun c => by omega)
            have HST : Hid (∃ M : List (Int × Int), OwnR clC 2 28 w3 base (.slice (some ⟨g2, 0, none⟩) (n + 1) cap2) M ∧ Shf l n n M) := ⟨_, r2, e1, fun i _ h2 => by rw [List.getElem?_append_left (by rw [← HN.out]; exact h2)], fun i h1 h2 => by omega⟩
            have HA : Hid (_ = _) := r1
            clear r1 r2 r3 hb2 hgb2 e1 hg2 K3 hAs hcg kd2
            go_wp2_with (at_builtin; refine wpList_append_run rfl _ _ 24 rfl rfl rfl HA.out ?_)
            go_loopw [6] (fun u wr => ∃ k : Nat, u = .int .i64 (k : Int) ∧ at_ ≤ k ∧ k ≤ n ∧ Hid (∃ M : List (Int × Int), OwnR clC 2 28 wr base (.slice (some ⟨g2, 0, none⟩) (n + 1) cap2) M ∧ Shf l n k M) ∧ Keeps (fun q => q = g2) w3 wr) (fun u _ => (intOf u).toNat - at_)
            case atStart => exact ⟨n, rfl, by omega, by omega, HST, Keeps.refl _ _⟩
            case round =>
              clear HST HA
              obtain ⟨k, rfl, hk1, hk2, hM, kz⟩ := hrel
              generalize wr = Wk at *
              obtain ⟨M, hMo, hSh⟩ := hM.out
              have hMl := hSh.len
              have hk0 : (0 : Int) ≤ (k : Int) := by omega
              have hkn : (k : Int) < ((n + 1 : Nat) : Int) := by omega
              have hkn2 : (k : Int) < (n : Int) + 1 := by omega
              by_cases hgt : at_ < k
              · have hgti : (at_ : Int) < (k : Int) := by omega
                obtain ⟨p, hp⟩ : ∃ p, k = p + 1 := ⟨k - 1, by omega⟩
                have hp0 : (0 : Int) ≤ (p : Int) := by omega
                have hpn : (p : Int) < ((n + 1 : Nat) : Int) := by omega
                have hpn2 : (p : Int) < (n : Int) + 1 := by omega
                have hw6 : IntKind.i64.wrap ((k : Int) - 1) = (p : Int) := by rw [IntKind.wrap_i64]; omega
                have hkM : k < M.length := by omega
                have hpM : p < M.length := by omega
                have hset := hMo.setC k (M[p]'hpM) hkM
                have kS := kz.trans (((Keeps.refl (fun q => q = g2) Wk).setCell (p := ⟨g2, k * 2, none⟩) (.inr rfl) (.int .u64 (M[p]'hpM).1)).setCell (p := ⟨g2, k * 2 + 1, none⟩) (.inr rfl) (.int .u64 (M[p]'hpM).2))
                have HF : Hid (∃ M2 : List (Int × Int), OwnR clC 2 28 ((Wk.setCell ⟨g2, k * 2, none⟩ (.int .u64 (M[p]'hpM).1)).setCell ⟨g2, k * 2 + 1, none⟩ (.int .u64 (M[p]'hpM).2)) base (.slice (some ⟨g2, 0, none⟩) (n + 1) cap2) M2 ∧ Shf l n p M2) := by
                  refine ⟨_, hset, by rw [List.length_set]; exact hMl, fun i h1 h2 => ?_, fun i h1 h2 => ?_⟩
                  · rw [List.getElem?_set_ne (by omega)]
                    exact hSh.lo i (by omega) h2
                  · by_cases hik : i = k
                    · subst hik
                      rw [List.getElem?_set_self hkM, hp, Nat.add_sub_cancel, ← hSh.lo p (by omega) (by omega), List.getElem?_eq_getElem hpM]
                    · rw [List.getElem?_set_ne (by omega)]
                      exact hSh.hi i (by omega) h2
                obtain ⟨x0, x1', fz2⟩ := own_cellC hMo p hpM
                obtain ⟨v0, v1, -⟩ := own_cellC hMo k hkM
                generalize M[k]'hkM = ov at *
                generalize M[p]'hpM = xa at *
                obtain ⟨xa1, xa2⟩ := xa
                obtain ⟨ov1, ov2⟩ := ov
                dsimp only at x0 x1' v0 v1 HF kS
                have hS2 : Wk.cell? ⟨g2, p * 2, none⟩ = some (.int .u64 xa1) ∧ Wk.cell? ⟨g2, p * 2 + 1, none⟩ = some (.int .u64 xa2) := ⟨x0, x1'⟩
                have f0 := fz2 (k * 2)
                have f1 := fz2 (k * 2 + 1)
                have HP : Hid (k = p + 1) := hp
                clear hset hMo hSh hM hMl fz2 kz hp
                go_wp2_with fail
                go_roundw
                · have := HP.out
                  exact ⟨p, rfl, by omega, by omega, HF, kS⟩
                · have := HP.out
                  simp [intOf]; omega
              · have hgti : ¬ (at_ : Int) < (k : Int) := by omega
                have hka : k = at_ := by omega
                subst hka
                have hkM : k < M.length := by omega
                have hset := hMo.setC k (a, x) hkM
                rw [hSh.done HN.out hk2 (a, x), ← HI.out] at hset
                have kS := KF.out _ (kz.trans (((Keeps.refl (fun q => q = g2) Wk).setCell (p := ⟨g2, k * 2, none⟩) (.inr rfl) (.int .u64 a)).setCell (p := ⟨g2, k * 2 + 1, none⟩) (.inr rfl) (.int .u64 x)))
                obtain ⟨v0, v1, fz2⟩ := own_cellC hMo k hkM
                obtain ⟨y0, y1⟩ := HZ.out Wk kz
                have f0 := fz2 (k * 2)
                have f1 := fz2 (k * 2 + 1)
                have HF : Hid (OwnR _ _ _ _ _ _ _) := hset
                generalize M[k]'hkM = ov at *
                obtain ⟨ov1, ov2⟩ := ov
                dsimp only at v0 v1
                clear hset hMo hSh hM hMl fz2 kz
                go_wp2_with fail
                go_ret
                exact ⟨_, rfl, HF.out, fun g hg => by cases hg; exact HG2.out, kS⟩
    · obtain rfl : n = at_ := by omega
      have hani : ¬ (n : Int) < (n : Int) := by omega
      have HI : Hid (insS l (a, x) = l.take n ++ (a, x) :: l.drop n) := by
        unfold Hid
        rw [insS_at l (a, x) n (by rw [← HN.out]; exact Nat.le_refl _) hlt.out (fun h => by have := HN.out; omega), if_neg (by rw [List.getElem?_eq_none (by rw [← HN.out]; exact Nat.le_refl _)]; simp)]
      have hS0 : (Wo.drew).cell? ⟨cb, 0, none⟩ = some (.int .u64 a) ∧ (Wo.drew).cell? ⟨cb, 1, none⟩ = some (.int .u64 x) := ⟨z0, z1⟩
      have kd := kr.drew
      have kd2 := kd.drew
      clear hlt
      go_wp2_with fail
      refine wp_held_end (S := fun W : World => W.cell? ⟨cb, 0, none⟩ = some (.int .u64 a) ∧ W.cell? ⟨cb, 1, none⟩ = some (.int .u64 x)) 34 rfl hmxp ?_
      simp only [Array.replicate_succ, Array.replicate_zero, List.push_toArray, List.nil_append, List.cons_append]
      refine held_take (i := 0) (v := (.int .i64 (n : Int))) 7 rfl rfl (by kernel_rfl) (by kernel_rfl) (by kernel_rfl) rfl (fun w' hw' => by obtain ⟨q0, q1⟩ := hw'; go_simp) hS0 ?_
      simp only [Act.put, List.setIfInBounds_toArray, List.set_cons_zero, List.set_cons_succ]
      refine held_take (i := 1) (v := (.slice oa n cp)) 8 rfl rfl (by kernel_rfl) (by kernel_rfl) (by kernel_rfl) rfl (fun w' hw' => by obtain ⟨q0, q1⟩ := hw'; go_simp) hS0 ?_
      simp only [Act.put, List.setIfInBounds_toArray, List.set_cons_zero, List.set_cons_succ]
      refine held_take (i := 2) (v := (.int .i64 (n : Int))) 9 rfl rfl (by kernel_rfl) (by kernel_rfl) (by kernel_rfl) rfl (fun w' hw' => by obtain ⟨q0, q1⟩ := hw'; go_simp) hS0 ?_
      simp only [Act.put, List.setIfInBounds_toArray, List.set_cons_zero, List.set_cons_succ]
      refine held_take (i := 3) (v := (.bool false)) 10 rfl rfl (by kernel_rfl) (by kernel_rfl) (by kernel_rfl) rfl (fun w' hw' => by obtain ⟨q0, q1⟩ := hw'; go_simp) hS0 ?_
      simp only [Act.put, List.setIfInBounds_toArray, List.set_cons_zero, List.set_cons_succ]
      refine held_take (i := 4) (v := (.bool false)) 11 rfl rfl (by kernel_rfl) (by kernel_rfl) (by kernel_rfl) rfl (fun w' hw' => by obtain ⟨q0, q1⟩ := hw'; go_simp) hS0 ?_
      simp only [Act.put, List.setIfInBounds_toArray, List.set_cons_zero, List.set_cons_succ]
      refine held_skipO (i := 5) 12 rfl rfl (by kernel_rfl) (by kernel_rfl) (by kernel_rfl) rfl hS0 ?_
      simp only [Act.put, List.setIfInBounds_toArray, List.set_cons_zero, List.set_cons_succ]
      refine held_skipO (i := 6) 13 rfl rfl (by kernel_rfl) (by kernel_rfl) (by kernel_rfl) rfl hS0 ?_
      simp only [Act.put, List.setIfInBounds_toArray, List.set_cons_zero, List.set_cons_succ]
      refine held_skipO (i := 7) 14 rfl rfl (by kernel_rfl) (by kernel_rfl) (by kernel_rfl) rfl hS0 ?_
      simp only [Act.put, List.setIfInBounds_toArray, List.set_cons_zero, List.set_cons_succ]
      refine held_skipO (i := 8) 15 rfl rfl (by kernel_rfl) (by kernel_rfl) (by kernel_rfl) rfl hS0 ?_
      simp only [Act.put, List.setIfInBounds_toArray, List.set_cons_zero, List.set_cons_succ]
      refine held_skipO (i := 9) 16 rfl rfl (by kernel_rfl) (by kernel_rfl) (by kernel_rfl) rfl hS0 ?_
      simp only [Act.put, List.setIfInBounds_toArray, List.set_cons_zero, List.set_cons_succ]
      refine held_skipO (i := 10) 17 rfl rfl (by kernel_rfl) (by kernel_rfl) (by kernel_rfl) rfl hS0 ?_
      simp only [Act.put, List.setIfInBounds_toArray, List.set_cons_zero, List.set_cons_succ]
      refine held_skipO (i := 11) 18 rfl rfl (by kernel_rfl) (by kernel_rfl) (by kernel_rfl) rfl hS0 ?_
      simp only [Act.put, List.setIfInBounds_toArray, List.set_cons_zero, List.set_cons_succ]
      refine held_skipO (i := 12) 19 rfl rfl (by kernel_rfl) (by kernel_rfl) (by kernel_rfl) rfl hS0 ?_
      simp only [Act.put, List.setIfInBounds_toArray, List.set_cons_zero, List.set_cons_succ]
      refine held_skipO (i := 13) 20 rfl rfl (by kernel_rfl) (by kernel_rfl) (by kernel_rfl) rfl hS0 ?_
      simp only [Act.put, List.setIfInBounds_toArray, List.set_cons_zero, List.set_cons_succ]
      refine held_skipO (i := 14) 21 rfl rfl (by kernel_rfl) (by kernel_rfl) (by kernel_rfl) rfl hS0 ?_
      simp only [Act.put, List.setIfInBounds_toArray, List.set_cons_zero, List.set_cons_succ]
      refine held_skipO (i := 15) 22 rfl rfl (by kernel_rfl) (by kernel_rfl) (by kernel_rfl) rfl hS0 ?_
      simp only [Act.put, List.setIfInBounds_toArray, List.set_cons_zero, List.set_cons_succ]
      refine held_skipO (i := 16) 23 rfl rfl (by kernel_rfl) (by kernel_rfl) (by kernel_rfl) rfl hS0 ?_
      simp only [Act.put, List.setIfInBounds_toArray, List.set_cons_zero, List.set_cons_succ]
      refine held_skipO (i := 17) 24 rfl rfl (by kernel_rfl) (by kernel_rfl) (by kernel_rfl) rfl hS0 ?_
      simp only [Act.put, List.setIfInBounds_toArray, List.set_cons_zero, List.set_cons_succ]
      refine held_skipO (i := 18) 25 rfl rfl (by kernel_rfl) (by kernel_rfl) (by kernel_rfl) rfl hS0 ?_
      simp only [Act.put, List.setIfInBounds_toArray, List.set_cons_zero, List.set_cons_succ]
      refine held_skipO (i := 19) 26 rfl rfl (by kernel_rfl) (by kernel_rfl) (by kernel_rfl) rfl hS0 ?_
      simp only [Act.put, List.setIfInBounds_toArray, List.set_cons_zero, List.set_cons_succ]
      refine held_skipO (i := 20) 27 rfl rfl (by kernel_rfl) (by kernel_rfl) (by kernel_rfl) rfl hS0 ?_
      simp only [Act.put, List.setIfInBounds_toArray, List.set_cons_zero, List.set_cons_succ]
      refine held_skipO (i := 21) 28 rfl rfl (by kernel_rfl) (by kernel_rfl) (by kernel_rfl) rfl hS0 ?_
      simp only [Act.put, List.setIfInBounds_toArray, List.set_cons_zero, List.set_cons_succ]
      refine held_skipO (i := 22) 29 rfl rfl (by kernel_rfl) (by kernel_rfl) (by kernel_rfl) rfl hS0 ?_
      simp only [Act.put, List.setIfInBounds_toArray, List.set_cons_zero, List.set_cons_succ]
      refine held_skipO (i := 23) 30 rfl rfl (by kernel_rfl) (by kernel_rfl) (by kernel_rfl) rfl hS0 ?_
      simp only [Act.put, List.setIfInBounds_toArray, List.set_cons_zero, List.set_cons_succ]
      refine held_skipO (i := 24) 31 rfl rfl (by kernel_rfl) (by kernel_rfl) (by kernel_rfl) rfl hS0 ?_
      simp only [Act.put, List.setIfInBounds_toArray, List.set_cons_zero, List.set_cons_succ]
      refine held_skipO (i := 25) 32 rfl rfl (by kernel_rfl) (by kernel_rfl) (by kernel_rfl) rfl hS0 ?_
      simp only [Act.put, List.setIfInBounds_toArray, List.set_cons_zero, List.set_cons_succ]
      refine held_skipO (i := 26) 33 rfl rfl (by kernel_rfl) (by kernel_rfl) (by kernel_rfl) rfl hS0 ?_
      simp only [Act.put, List.setIfInBounds_toArray, List.set_cons_zero, List.set_cons_succ]
      refine held_skipO (i := 27) 34 rfl rfl (by kernel_rfl) (by kernel_rfl) (by kernel_rfl) rfl hS0 ?_
      simp only [Act.put, List.setIfInBounds_toArray, List.set_cons_zero, List.set_cons_succ]
      refine held_skipO (i := 28) 35 rfl rfl (by kernel_rfl) (by kernel_rfl) (by kernel_rfl) rfl hS0 ?_
      simp only [Act.put, List.setIfInBounds_toArray, List.set_cons_zero, List.set_cons_succ]
      refine held_skipO (i := 29) 36 rfl rfl (by kernel_rfl) (by kernel_rfl) (by kernel_rfl) rfl hS0 ?_
      simp only [Act.put, List.setIfInBounds_toArray, List.set_cons_zero, List.set_cons_succ]
      refine held_skipO (i := 30) 37 rfl rfl (by kernel_rfl) (by kernel_rfl) (by kernel_rfl) rfl hS0 ?_
      simp only [Act.put, List.setIfInBounds_toArray, List.set_cons_zero, List.set_cons_succ]
      refine held_skipO (i := 31) 38 rfl rfl (by kernel_rfl) (by kernel_rfl) (by kernel_rfl) rfl hS0 ?_
      simp only [Act.put, List.setIfInBounds_toArray, List.set_cons_zero, List.set_cons_succ]
      refine held_skipO (i := 32) 39 rfl rfl (by kernel_rfl) (by kernel_rfl) (by kernel_rfl) rfl hS0 ?_
      simp only [Act.put, List.setIfInBounds_toArray, List.set_cons_zero, List.set_cons_succ]
      refine held_take (i := 33) (v := (.bool false)) 40 rfl rfl (by kernel_rfl) (by kernel_rfl) (by kernel_rfl) rfl (fun w' hw' => by obtain ⟨q0, q1⟩ := hw'; go_simp) hS0 ?_
      simp only [Act.put, List.setIfInBounds_toArray, List.set_cons_zero, List.set_cons_succ]
      refine held_end (by kernel_rfl) ?_ _
      go_wp2_with fail
      refine wp_held_end (S := fun W : World => W.cell? ⟨cb, 0, none⟩ = some (.int .u64 a) ∧ W.cell? ⟨cb, 1, none⟩ = some (.int .u64 x)) 12 rfl hmxp ?_
      simp only [Array.replicate_succ, Array.replicate_zero, List.push_toArray, List.nil_append, List.cons_append]
      refine held_take (i := 0) (v := (.int .i64 (n : Int))) 43 rfl rfl (by kernel_rfl) (by kernel_rfl) (by kernel_rfl) rfl (fun w' hw' => by obtain ⟨q0, q1⟩ := hw'; go_simp) hS0 ?_
      simp only [Act.put, List.setIfInBounds_toArray, List.set_cons_zero, List.set_cons_succ]
      refine held_take (i := 1) (v := (.slice oa n cp)) 44 rfl rfl (by kernel_rfl) (by kernel_rfl) (by kernel_rfl) rfl (fun w' hw' => by obtain ⟨q0, q1⟩ := hw'; go_simp) hS0 ?_
      simp only [Act.put, List.setIfInBounds_toArray, List.set_cons_zero, List.set_cons_succ]
      refine held_take (i := 2) (v := (.int .i64 (n : Int))) 45 rfl rfl (by kernel_rfl) (by kernel_rfl) (by kernel_rfl) rfl (fun w' hw' => by obtain ⟨q0, q1⟩ := hw'; go_simp) hS0 ?_
      simp only [Act.put, List.setIfInBounds_toArray, List.set_cons_zero, List.set_cons_succ]
      refine held_take (i := 3) (v := (.bool false)) 46 rfl rfl (by kernel_rfl) (by kernel_rfl) (by kernel_rfl) rfl (fun w' hw' => by obtain ⟨q0, q1⟩ := hw'; go_simp) hS0 ?_
      simp only [Act.put, List.setIfInBounds_toArray, List.set_cons_zero, List.set_cons_succ]
      refine held_take (i := 4) (v := (.bool false)) 47 rfl rfl (by kernel_rfl) (by kernel_rfl) (by kernel_rfl) rfl (fun w' hw' => by obtain ⟨q0, q1⟩ := hw'; go_simp) hS0 ?_
      simp only [Act.put, List.setIfInBounds_toArray, List.set_cons_zero, List.set_cons_succ]
      refine held_skipO (i := 5) 48 rfl rfl (by kernel_rfl) (by kernel_rfl) (by kernel_rfl) rfl hS0 ?_
      simp only [Act.put, List.setIfInBounds_toArray, List.set_cons_zero, List.set_cons_succ]
      refine held_skipO (i := 6) 49 rfl rfl (by kernel_rfl) (by kernel_rfl) (by kernel_rfl) rfl hS0 ?_
      simp only [Act.put, List.setIfInBounds_toArray, List.set_cons_zero, List.set_cons_succ]
      refine held_skipO (i := 7) 50 rfl rfl (by kernel_rfl) (by kernel_rfl) (by kernel_rfl) rfl hS0 ?_
      simp only [Act.put, List.setIfInBounds_toArray, List.set_cons_zero, List.set_cons_succ]
      refine held_skipO (i := 8) 51 rfl rfl (by kernel_rfl) (by kernel_rfl) (by kernel_rfl) rfl hS0 ?_
      simp only [Act.put, List.setIfInBounds_toArray, List.set_cons_zero, List.set_cons_succ]
      refine held_skipO (i := 9) 52 rfl rfl (by kernel_rfl) (by kernel_rfl) (by kernel_rfl) rfl hS0 ?_
      simp only [Act.put, List.setIfInBounds_toArray, List.set_cons_zero, List.set_cons_succ]
      refine held_skipO (i := 10) 53 rfl rfl (by kernel_rfl) (by kernel_rfl) (by kernel_rfl) rfl hS0 ?_
      simp only [Act.put, List.setIfInBounds_toArray, List.set_cons_zero, List.set_cons_succ]
      refine held_take (i := 11) (v := (.bool false)) 54 rfl rfl (by kernel_rfl) (by kernel_rfl) (by kernel_rfl) rfl (fun w' hw' => by obtain ⟨q0, q1⟩ := hw'; go_simp) hS0 ?_
      simp only [Act.put, List.setIfInBounds_toArray, List.set_cons_zero, List.set_cons_succ]
      refine held_end (by kernel_rfl) ?_ _
      obtain ⟨v', w3, r1, r2, r3⟩ := (HO.out _ kd2).push cl_len cl_one (by decide) Tryz.underlying24 info_cl rfl (by decide) (ty := 24) (a, x) (cs := #[.int .u64 a, .int .u64 x]) rfl (by rw [← HN.out]; omega)
      obtain ⟨g2, cap2, cur2, hv2, hb2, hgb2, -⟩ := r2.at (by simp)
      have e1 : (l ++ [(a, x)]).length = n + 1 := by rw [List.length_append, ← HN.out]; rfl
      rw [e1] at hv2
      subst hv2
      have hg2 : (Value.slice oa n cp).ownBlock = some g2 ∨ A.heap.size ≤ g2 := by
        rcases r3.own with c | c
        · exact .inl (c ▸ rfl)
        · exact .inr (Nat.le_trans kd2.size (c g2 rfl))
      have K3 : Keeps (fun q => (Value.slice oa n cp).ownBlock = some q) w w3 := (HKC.out.trans (kd2.mono (fun _ _ f => f.elim))).trans r3.keeps
      have hAs : w.heap.size < A.heap.size := by rw [← HCB.out]; exact lt_of_block HBK.out
      have hcg : cb ≠ g2 := by
        rcases hg2 with c | c
        · have := HOW.out g2 c
          have := HCB.out
          omega
        · have := HCB.out
          omega
      have HZ : Hid (∀ X, Keeps (fun q => q = g2) w3 X → X.cell? ⟨cb, 0, none⟩ = some (.int .u64 a) ∧ X.cell? ⟨cb, 1, none⟩ = some (.int .u64 x)) := fun X k => by
        have hcA : cb < A.heap.size := lt_of_block HBK.out
        have b1 := (kd2.block cb hcA (fun f => f)).trans HBK.out
        have b2 := (r3.keeps.block cb (lt_of_block b1) (fun c => by have := HOW.out cb c; have := HCB.out; omega)).trans b1
        have b := (k.block cb (lt_of_block b2) hcg).trans b2
        exact ⟨by rw [cell_of_block b]; rfl, by rw [cell_of_block b]; rfl⟩
      have KF : Hid (∀ X, Keeps (fun q => q = g2) w3 X → Keeps (fun q => (Value.slice oa n cp).ownBlock = some q) w X) := fun X k => by
        refine ⟨k.os.trans K3.os, k.tape.trans K3.tape, k.output.trans K3.output, Nat.le_trans K3.size k.size, fun q hq hs => (k.block q (Nat.lt_of_lt_of_le hq K3.size) (fun e => ?_)).trans (K3.block q hq hs)⟩
        subst e
        rcases hg2 with c | c
        · exact hs c
        · omega
      have HG2 : Hid ((Value.slice oa n cp).ownBlock = some g2 ∨ w.heap.size ≤ g2) := hg2.imp (fun c => c) (fun c => by omega)
      have HST : Hid (∃ M : List (Int × Int), OwnR clC 2 28 w3 base (.slice (some ⟨g2, 0, none⟩) (n + 1) cap2) M ∧ Shf l n n M) := ⟨_, r2, e1, fun i _ h2 => by rw [List.getElem?_append_left (by rw [← HN.out]; exact h2)], fun i h1 h2 => by omega⟩
      have HA : Hid (_ = _) := r1
      clear r1 r2 r3 hb2 hgb2 e1 hg2 K3 hAs hcg kd2
      go_wp2_with (at_builtin; refine wpList_append_run rfl _ _ 24 rfl rfl rfl HA.out ?_)
      go_loopw [6] (fun u wr => ∃ k : Nat, u = .int .i64 (k : Int) ∧ n ≤ k ∧ k ≤ n ∧ Hid (∃ M : List (Int × Int), OwnR clC 2 28 wr base (.slice (some ⟨g2, 0, none⟩) (n + 1) cap2) M ∧ Shf l n k M) ∧ Keeps (fun q => q = g2) w3 wr) (fun u _ => (intOf u).toNat - n)
      case atStart => exact ⟨n, rfl, by omega, by omega, HST, Keeps.refl _ _⟩
      case round =>
        clear HST HA
        obtain ⟨k, rfl, hk1, hk2, hM, kz⟩ := hrel
        generalize wr = Wk at *
        obtain ⟨M, hMo, hSh⟩ := hM.out
        have hMl := hSh.len
        have hk0 : (0 : Int) ≤ (k : Int) := by omega
        have hkn : (k : Int) < ((n + 1 : Nat) : Int) := by omega
        have hkn2 : (k : Int) < (n : Int) + 1 := by omega
        by_cases hgt : n < k
        · exact absurd hgt (by omega)
        · have hgti : ¬ (n : Int) < (k : Int) := by omega
          have hka : k = n := by omega
          subst hka
          have hkM : k < M.length := by omega
          have hset := hMo.setC k (a, x) hkM
          rw [hSh.done HN.out hk2 (a, x), ← HI.out] at hset
          have kS := KF.out _ (kz.trans (((Keeps.refl (fun q => q = g2) Wk).setCell (p := ⟨g2, k * 2, none⟩) (.inr rfl) (.int .u64 a)).setCell (p := ⟨g2, k * 2 + 1, none⟩) (.inr rfl) (.int .u64 x)))
          obtain ⟨v0, v1, fz2⟩ := own_cellC hMo k hkM
          obtain ⟨y0, y1⟩ := HZ.out Wk kz
          have f0 := fz2 (k * 2)
          have f1 := fz2 (k * 2 + 1)
          have HF : Hid (OwnR _ _ _ _ _ _ _) := hset
          generalize M[k]'hkM = ov at *
          obtain ⟨ov1, ov2⟩ := ov
          dsimp only at v0 v1
          clear hset hMo hSh hM hMl fz2 kz
          go_wp2_with fail
          go_ret
          exact ⟨_, rfl, HF.out, fun g hg => by cases hg; exact HG2.out, kS⟩
end Go.Proofs.YthmiainhaebjiaaGreatDoor
