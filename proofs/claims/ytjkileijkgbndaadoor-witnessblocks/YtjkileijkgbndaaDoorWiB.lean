
/- The order of a history's blocks (pure). No statement of the seat is proved here. -/
import Derived.Test.YtjkileijkgbndaaDoorWiA
namespace Go.Proofs.YtjkileijkgbndaaDoor

def overB (p : Pt) : Bool := decide (p.kd = 1) || decide (p.kd = 2) || decide (p.kd = 3)
/-- Who stands ahead in the order. -/
def befB (a b : Pt) : Bool := if a.nu ≠ b.nu then decide (a.nu < b.nu) else if a.wr ≠ b.wr then a.wr else decide (a.si < b.si)
def rankP (p : Pt) : Int := if p.wr then 0 else 1
theorem rank_wr (a b : Pt) : (a.wr ≠ b.wr ↔ rankP a ≠ rankP b) ∧ (rankP a < rankP b → a.wr = true) ∧ (rankP b < rankP a → a.wr = false) := by
  unfold rankP
  cases a.wr <;> cases b.wr <;> simp
theorem bef_iff (a b : Pt) : befB a b = true ↔ a.nu < b.nu ∨ a.nu = b.nu ∧ (rankP a < rankP b ∨ rankP a = rankP b ∧ a.si < b.si) := by
  unfold befB
  by_cases h1 : a.nu = b.nu
  · rw [if_neg (by simpa using h1)]
    unfold rankP
    cases a.wr <;> cases b.wr <;> simp [h1]
  · rw [if_pos h1]
    simp [h1]
theorem bef_no (a b : Pt) : befB a b = false ↔ b.nu < a.nu ∨ a.nu = b.nu ∧ (rankP b < rankP a ∨ rankP a = rankP b ∧ b.si ≤ a.si) := by
  rw [← Bool.not_eq_true, bef_iff]
  omega
/-- An element is put ahead of the first one that it stands ahead of. -/
def insO (f : Nat → Nat → Bool) (i : Nat) : List Nat → List Nat
  | [] => [i]
  | x :: xs => if f i x then i :: x :: xs else x :: insO f i xs
theorem insO_perm (f : Nat → Nat → Bool) (i : Nat) : ∀ l, (insO f i l).Perm (i :: l)
  | [] => List.Perm.refl _
  | x :: xs => by
    rw [insO]
    split
    · exact List.Perm.refl _
    · exact ((insO_perm f i xs).cons x).trans (List.Perm.swap i x xs)
theorem insO_pass {f : Nat → Nat → Bool} {i : Nat} : ∀ (A B : List Nat), (∀ x ∈ A, f i x = false) → insO f i (A ++ B) = A ++ insO f i B
  | [], B, _ => rfl
  | x :: A, B, h => by
    rw [List.cons_append, insO, h x (by simp)]
    simp [insO_pass A B (fun y hy => h y (by simp [hy]))]
theorem insO_at {f : Nat → Nat → Bool} {i : Nat} (A B : List Nat) (hA : ∀ x ∈ A, f i x = false) (hB : B = [] ∨ ∃ x xs, B = x :: xs ∧ f i x = true) : insO f i (A ++ B) = A ++ i :: B := by
  rw [insO_pass A B hA]
  rcases hB with rfl | ⟨x, xs, rfl, h⟩
  · rfl
  · rw [insO, if_pos h]
def at0 (l : List Pt) (i : Nat) : Pt := (l[i]?).getD pt0
def befI (l : List Pt) (a b : Nat) : Bool := befB (at0 l a) (at0 l b)
/-- The order of the blocks up to a number. -/
def ordK (l : List Pt) (n : Nat) : List Nat := (List.range n).foldl (fun out i => if overB (at0 l i) then insO (befI l) i out else out) []
theorem ordK_succ (l : List Pt) (n : Nat) : ordK l (n + 1) = if overB (at0 l n) then insO (befI l) n (ordK l n) else ordK l n := by
  unfold ordK; rw [List.range_succ, List.foldl_append]; rfl
theorem ordK_perm (l : List Pt) : ∀ n, (ordK l n).Perm ((List.range n).filter fun i => overB (at0 l i))
  | 0 => List.Perm.refl _
  | n + 1 => by
    rw [ordK_succ, List.range_succ, List.filter_append]
    by_cases h : overB (at0 l n) = true
    · rw [if_pos h]
      refine (insO_perm _ _ _).trans ?_
      have : [n].filter (fun i => overB (at0 l i)) = [n] := by simp [h]
      rw [this]
      exact ((ordK_perm l n).cons n).trans (List.perm_append_singleton n _).symm
    · rw [if_neg h]
      have : [n].filter (fun i => overB (at0 l i)) = [] := by simp [h]
      rw [this, List.append_nil]; exact ordK_perm l n
theorem insO_sorted (l : List Pt) (i : Nat) : ∀ L : List Nat, L.Pairwise (fun x y => befI l y x = false) → (insO (befI l) i L).Pairwise (fun x y => befI l y x = false)
  | [], _ => by simp [insO]
  | x :: xs, h => by
    rw [insO]
    rw [List.pairwise_cons] at h
    have tr : ∀ a b c : Nat, befI l b a = false → befI l c b = false → befI l c a = false := fun a b c h1 h2 => by
      unfold befI at *; rw [bef_no] at *; omega
    split
    · rename_i hx
      have hxi : befI l x i = false := by unfold befI at *; rw [bef_iff] at hx; rw [bef_no]; omega
      rw [List.pairwise_cons]
      refine ⟨fun y hy => ?_, by rw [List.pairwise_cons]; exact h⟩
      rcases List.mem_cons.1 hy with rfl | hy
      · exact hxi
      · exact tr _ _ _ hxi (h.1 y hy)
    · rename_i hx
      rw [List.pairwise_cons]
      refine ⟨fun y hy => ?_, insO_sorted l i xs h.2⟩
      rcases List.mem_cons.1 ((insO_perm _ _ _).mem_iff.1 hy) with rfl | hy
      · simpa using hx
      · exact h.1 y hy
theorem ordK_sorted (l : List Pt) : ∀ n, (ordK l n).Pairwise (fun x y => befI l y x = false)
  | 0 => List.Pairwise.nil
  | n + 1 => by
    rw [ordK_succ]
    split
    · exact insO_sorted l n _ (ordK_sorted l n)
    · exact ordK_sorted l n
/-- No two have their last Begin or Moved in common. -/
def Dist (l : List Pt) : Prop := (l.map (·.si)).Nodup
theorem dist_at {l : List Pt} (h : Dist l) {a b : Nat} (ha : a < l.length) (hb : b < l.length) (e : (at0 l a).si = (at0 l b).si) : a = b := by
  have e1 : (l.map (·.si))[a]'(by simpa using ha) = (l.map (·.si))[b]'(by simpa using hb) := by
    simp only [List.getElem_map]
    simpa [at0, ha, hb] using e
  rcases Nat.lt_trichotomy a b with q | q | q
  · exact absurd e1 ((List.pairwise_iff_getElem.1 h) a b (by simpa using ha) (by simpa using hb) q)
  · exact q
  · exact absurd e1.symm ((List.pairwise_iff_getElem.1 h) b a (by simpa using hb) (by simpa using ha) q)
theorem ord_merge {l : List Pt} (h : Dist l) (E : List Nat) (hE : E.Perm ((List.range l.length).filter fun i => overB (at0 l i))) : E.mergeSort (fun x y => !befI l y x) = ordK l l.length := by
  refine List.Perm.eq_of_pairwise (le := fun x y : Nat => befI l y x = false) ?_ ?_ (ordK_sorted l _) (((List.mergeSort_perm E _).trans hE).trans (ordK_perm l _).symm)
  · intro x y hx hy h1 h2
    have mx : x < l.length := by
      have := ((List.mergeSort_perm E _).trans hE).mem_iff.1 hx
      simp at this; exact this.1
    have my : y < l.length := by
      have := (ordK_perm l _).mem_iff.1 hy
      simp at this; exact this.1
    apply dist_at h mx my
    unfold befI at h1 h2
    rw [bef_no] at h1 h2; omega
  · have := List.pairwise_mergeSort (le := fun x y : Nat => !befI l y x) (fun a b c h1 h2 => by
      unfold befI at *; simp only [Bool.not_eq_true'] at *; rw [bef_no] at *; omega) (fun a b => by
      unfold befI at *
      simp only [Bool.or_eq_true, Bool.not_eq_true']
      rw [bef_no, bef_no]; omega) E
    exact this.imp fun h => by simpa using h
/-- What all blocks keep to. -/
structure PInv (T : Wt) (k : Nat) : Prop where
  dist : Dist T.l
  len : T.l.length ≤ k
  bd : ∀ p ∈ T.l, (0 ≤ p.fi ∧ p.fi < k) ∧ (0 ≤ p.la ∧ p.la < k) ∧ (0 ≤ p.si ∧ p.si < k) ∧ p.rs.length ≤ k ∧ p.ws.length ≤ k
  o : ∀ t i, T.o t = some i → i < T.l.length
theorem pinv0 : PInv wt0 0 := ⟨List.nodup_nil, Nat.le_refl _, fun p hp => by simp [wt0] at hp, fun t i h => by simp [wt0] at h⟩
theorem noteP_si (p : Pt) (k : Int) (e : Ev) : (noteP p k e).si = p.si ∨ (noteP p k e).si = k := by
  unfold noteP; (repeat' split) <;> simp
theorem noteP_rs (p : Pt) (k : Int) (e : Ev) : (noteP p k e).rs.length ≤ p.rs.length + 1 ∧ (noteP p k e).ws.length ≤ p.ws.length + 1 := by
  unfold noteP; (repeat' split) <;> simp
theorem pinv_step {T : Wt} {k : Nat} (h : PInv T k) (e : Ev) : PInv (stepW T k e) (k + 1) := by
  unfold stepW openW
  by_cases h1 : e.kd = 1
  · have hm : markW ⟨T.l ++ [freshP e.th k], fun t => if t = e.th then some T.l.length else T.o t⟩ k e = ⟨T.l ++ [newP e k], fun t => if t = e.th then some T.l.length else T.o t⟩ := by
      unfold markW
      simp only [if_true]
      have hg : ((T.l ++ [freshP e.th k])[T.l.length]?).getD pt0 = freshP e.th k := by simp
      simp only [hg]
      rw [show noteP (freshP e.th k) k e = newP e k from rfl, if_pos (newP_kd k h1)]
      congr 1
      rw [List.set_append_right _ _ (Nat.le_refl _)]; simp
    rw [if_pos h1, hm]
    have hn : newP e k = ⟨e.th, 5, k, k, e.wd / 2, false, 0, [], [], k, false⟩ := by simp [newP, noteP, freshP, h1]
    refine ⟨?_, by simp; exact h.len, fun p hp => ?_, fun t i hi => ?_⟩
    · unfold Dist
      rw [List.map_append, List.nodup_append]
      refine ⟨h.dist, by simp, fun a ha b hb => ?_⟩
      simp [hn] at hb
      subst hb
      obtain ⟨p, hp, rfl⟩ := List.mem_map.1 ha
      have := (h.bd p hp).2.2.1; omega
    · rcases List.mem_append.1 hp with hp | hp
      · have := h.bd p hp; omega
      · simp only [List.mem_singleton] at hp
        subst hp
        rw [hn]; simp; omega
    · simp only [List.length_append, List.length_singleton]
      simp only at hi
      split at hi
      · cases hi; omega
      · have := h.o t i hi; omega
  · rw [if_neg h1]
    unfold markW
    cases hto : T.o e.th with
    | none => exact ⟨h.dist, by show T.l.length ≤ k + 1; have := h.len; omega, fun p hp => by have := h.bd p hp; omega, h.o⟩
    | some n =>
      have hn := h.o _ _ hto
      have hg : (T.l[n]?).getD pt0 = T.l[n] := by simp [hn]
      simp only [hg]
      have hb := h.bd _ (List.getElem_mem hn)
      have hs := noteP_si (T.l[n]) k e
      have hr := noteP_rs (T.l[n]) k e
      refine ⟨?_, by simp; have := h.len; omega, fun p hp => ?_, fun t i hi => ?_⟩
      · unfold Dist
        rw [List.map_set]
        rcases hs with q | q
        · rw [q]
          have : (T.l.map (·.si)).set n (T.l[n]).si = T.l.map (·.si) := by
            apply List.ext_getElem?
            intro i
            rw [List.getElem?_set]
            split
            · rename_i hi
              subst hi
              simp [hn]
            · rfl
          rw [this]; exact h.dist
        · rw [q]
          have hk : ∀ x ∈ T.l.map (·.si), x ≠ (k : Int) := fun x hx => by
            obtain ⟨p, hp, rfl⟩ := List.mem_map.1 hx
            have := (h.bd p hp).2.2.1; omega
          have hd := h.dist
          unfold Dist at hd
          generalize T.l.map (·.si) = M at hk hd
          clear hg hb hr hn hto q
          induction M generalizing n with
          | nil => simp
          | cons x M ih =>
            rw [List.nodup_cons] at hd
            cases n with
            | zero =>
              rw [List.set_cons_zero, List.nodup_cons]
              exact ⟨fun q => hk _ (List.mem_cons_of_mem _ q) rfl, hd.2⟩
            | succ n =>
              rw [List.set_cons_succ, List.nodup_cons]
              refine ⟨fun q => ?_, ih n (fun y hy => hk y (List.mem_cons_of_mem _ hy)) hd.2⟩
              rcases List.mem_or_eq_of_mem_set q with q | q
              · exact hd.1 q
              · exact hk x (List.mem_cons_self) q
      · rcases List.mem_or_eq_of_mem_set hp with q | q
        · have := h.bd p q; omega
        · have hs := noteP_si (T.l[n]) k e
          rw [q, noteP_fi, noteP_la]
          rcases hs with q | q <;> rw [q] <;> omega
      · simp only [List.length_set]
        simp only at hi
        split at hi
        · exact h.o t i hi
        · by_cases hte : t = e.th
          · simp [hte] at hi
          · simp only [if_neg hte] at hi
            exact h.o t i hi
theorem pinv_all : ∀ (g : List Ev) (T : Wt) (k : Nat), PInv T k → PInv (partsF T g k) (k + g.length)
  | [], T, k, h => h
  | e :: g, T, k, h => by
    have := pinv_all g _ (k + 1) (pinv_step h e)
    rw [partsF]
    simpa [Nat.add_assoc, Nat.add_comm 1] using this
theorem pinv_parts (L : List Ev) : PInv (partsF wt0 L 0) L.length := by simpa using pinv_all L wt0 0 pinv0
/-- The document's answer about two places. -/
def aheadB (l : List Pt) (a b : Int) : Bool := decide (0 ≤ a ∧ a < l.length ∧ 0 ≤ b ∧ b < l.length ∧ (at0 l a.toNat).kd ≠ 5 ∧ (at0 l a.toNat).la < (at0 l b.toNat).fi)
end Go.Proofs.YtjkileijkgbndaaDoor
