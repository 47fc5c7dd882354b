
/- The attempts of a beginning are those of the whole as far as they go (pure). No statement of the seat is proved here. -/
import Derived.Test.YthgkbmfnidehbaaDoorEvA
namespace Go.Proofs.YthgkbmfnidehbaaDoor

/-- An attempt that is open is none that is over; each thread has its own. -/
structure TInv (T : Tr) (k : Nat) : Prop where
  op : ∀ i, T.at i ≠ 0 → ∃ t, T.l[T.at i - 1]? = some t ∧ t.how = 0
  un : ∀ i j, T.at i ≠ 0 → T.at i = T.at j → i = j
  la : ∀ t ∈ T.l, t.la ≤ k
/-- Attempts, and the same further on. -/
def TRel (l l' : List Ty) : Prop := ∀ (i : Nat) (t : Ty), l[i]? = some t → ∃ t', l'[i]? = some t' ∧ t.th = t'.th ∧ t.fi = t'.fi ∧ t.rd ≤ t'.rd ∧ t.la ≤ t'.la ∧ (t.how ≠ 0 → t = t')
theorem TRel.refl (l : List Ty) : TRel l l := fun _ t h => ⟨t, h, rfl, rfl, Int.le_refl _, Int.le_refl _, fun _ => rfl⟩
theorem TRel.trans {a b c : List Ty} (h : TRel a b) (k : TRel b c) : TRel a c := fun i t hi => by
  obtain ⟨t1, q1, a1, a2, a3, a4, a5⟩ := h i t hi
  obtain ⟨t2, q2, b1, b2, b3, b4, b5⟩ := k i t1 q1
  refine ⟨t2, q2, a1.trans b1, a2.trans b2, Int.le_trans a3 b3, Int.le_trans a4 b4, fun hh => ?_⟩
  obtain rfl := a5 hh
  exact b5 hh
theorem TRel.len {a b : List Ty} (h : TRel a b) : a.length ≤ b.length := by
  rcases Nat.lt_or_ge b.length a.length with hlt | hge
  · obtain ⟨t', q, _⟩ := h b.length _ (List.getElem?_eq_getElem hlt)
    rw [List.getElem?_eq_none (Nat.le_refl _)] at q
    cases q
  · exact hge
theorem tr0_inv : TInv tr0 0 := ⟨fun i hi => by
    exfalso; apply hi
    simp only [Tr.at, tr0, List.getElem?_replicate]
    split <;> rfl, fun i j hi => by
    exfalso; apply hi
    simp only [Tr.at, tr0, List.getElem?_replicate]
    split <;> rfl, by simp [tr0]⟩
theorem at_set (l : List Ty) (T : Tr) (i n j : Nat) : (⟨l, T.o.set i n⟩ : Tr).at j = if j = i ∧ i < T.o.length then n else T.at j := by
  simp only [Tr.at, List.getElem?_set]
  by_cases h : i = j
  · subst h
    by_cases hl : i < T.o.length
    · simp [hl]
    · simp [hl]
  · simp [h, Ne.symm h]
theorem open_inv {T : Tr} {k : Nat} (h : TInv T k) (e : Ev) : TInv (openT T k e) k ∧ TRel T.l (openT T k e).l := by
  unfold openT
  by_cases h1 : e.kd = 1
  · rw [if_pos h1]
    have hle : ∀ i, T.at i ≠ 0 → T.at i - 1 < T.l.length := fun i hi => by
      obtain ⟨t, ht, _⟩ := h.op i hi
      exact (List.getElem?_eq_some_iff.1 ht).1
    refine ⟨⟨fun i hi => ?_, fun i j hi hij => ?_, fun t ht => ?_⟩, fun i t hi => ?_⟩
    · rw [at_set] at hi ⊢
      split at hi
      · rename_i hc
        rw [if_pos hc]
        exact ⟨_, by rw [List.getElem?_append_right (by simp)]; simp; rfl, rfl⟩
      · rename_i hc
        rw [if_neg hc]
        obtain ⟨t, ht, h0⟩ := h.op i hi
        exact ⟨t, by show (T.l ++ _)[T.at i - 1]? = _; rw [List.getElem?_append_left (hle i hi)]; exact ht, h0⟩
    · rw [at_set] at hi
      rw [at_set, at_set] at hij
      split at hij <;> split at hij
      · rename_i c1 c2; exact c1.1.trans c2.1.symm
      · rename_i c1 c2
        have hj : T.at j ≠ 0 := by omega
        have := hle j hj
        omega
      · rename_i c1 c2
        rw [if_neg c1] at hi
        have := hle i hi
        omega
      · rename_i c1 c2
        rw [if_neg c1] at hi
        exact h.un i j hi hij
    · rcases List.mem_append.1 ht with ht | ht
      · exact h.la t ht
      · simp at ht; subst ht; exact Int.natCast_nonneg k
    · exact ⟨t, by rw [List.getElem?_append_left (List.getElem?_eq_some_iff.1 hi).1]; exact hi, rfl, rfl, Int.le_refl _, Int.le_refl _, fun _ => rfl⟩
  · rw [if_neg h1]; exact ⟨h, TRel.refl _⟩
theorem mark_inv {T : Tr} {k : Nat} (h : TInv T k) (e : Ev) : TInv (markT T k e) (k + 1) ∧ TRel T.l (markT T k e).l := by
  unfold markT
  by_cases h0 : T.at e.th.toNat = 0
  · rw [if_pos h0]
    exact ⟨⟨h.op, h.un, fun t ht => by have := h.la t ht; omega⟩, TRel.refl _⟩
  · rw [if_neg h0]
    obtain ⟨t, ht, hw⟩ := h.op _ h0
    have hlt := (List.getElem?_eq_some_iff.1 ht).1
    have hg : (T.l[T.at e.th.toNat - 1]?).getD ty0 = t := by rw [ht]; rfl
    simp only [hg]
    have hol : e.th.toNat < T.o.length := by
      rcases Nat.lt_or_ge e.th.toNat T.o.length with q | q
      · exact q
      · exfalso; apply h0; simp [Tr.at, List.getElem?_eq_none q]
    have other : ∀ i, i ≠ e.th.toNat → T.at i ≠ 0 → T.at e.th.toNat - 1 ≠ T.at i - 1 := fun i hi hn hc => by
      have : T.at i = T.at e.th.toNat := by omega
      exact hi (h.un i _ hn this)
    refine ⟨⟨fun i hi => ?_, fun i j hi hij => ?_, fun t' ht' => ?_⟩, fun i t' hi => ?_⟩
    · by_cases hn : (noteT t k e).how = 0
      · simp only [if_pos hn] at hi ⊢
        by_cases hie : i = e.th.toNat
        · subst hie
          exact ⟨noteT t k e, List.getElem?_set_self hlt, hn⟩
        · obtain ⟨u, hu, hw'⟩ := h.op i hi
          exact ⟨u, by show (T.l.set _ _)[T.at i - 1]? = _; rw [List.getElem?_set_ne (other i hie hi)]; exact hu, hw'⟩
      · simp only [if_neg hn] at hi ⊢
        rw [at_set] at hi ⊢
        split at hi
        · exact absurd rfl hi
        · rename_i hc
          rw [if_neg hc]
          have hie : i ≠ e.th.toNat := fun q => hc ⟨q, hol⟩
          obtain ⟨u, hu, hw'⟩ := h.op i hi
          exact ⟨u, by show (T.l.set _ _)[T.at i - 1]? = _; rw [List.getElem?_set_ne (other i hie hi)]; exact hu, hw'⟩
    · by_cases hn : (noteT t k e).how = 0
      · simp only [if_pos hn] at hi hij
        exact h.un i j hi hij
      · simp only [if_neg hn] at hi hij
        rw [at_set] at hi
        rw [at_set, at_set] at hij
        split at hi
        · exact absurd rfl hi
        · rename_i hc
          rw [if_neg hc] at hij
          split at hij
          · exact absurd hij hi
          · exact h.un i j hi hij
    · rcases List.mem_or_eq_of_mem_set ht' with q | rfl
      · have := h.la t' q; omega
      · show (k : Int) ≤ ((k + 1 : Nat) : Int); omega
    · by_cases hie : T.at e.th.toNat - 1 = i
      · subst hie
        obtain rfl := Option.some.inj (ht.symm.trans hi)
        refine ⟨noteT t k e, List.getElem?_set_self hlt, rfl, rfl, ?_, h.la t (List.mem_of_getElem? ht), fun q => absurd hw q⟩
        show t.rd ≤ if e.kd = 2 ∧ e.own = false then t.rd + 1 else t.rd
        split <;> omega
      · exact ⟨t', by rw [List.getElem?_set_ne hie]; exact hi, rfl, rfl, Int.le_refl _, Int.le_refl _, fun _ => rfl⟩
theorem tries_inv : ∀ (h : List Ev) (T : Tr) (k : Nat), TInv T k → TInv (triesF T h k) (k + h.length) ∧ TRel T.l (triesF T h k).l
  | [], T, k, hT => ⟨hT, TRel.refl _⟩
  | e :: h, T, k, hT => by
    rw [triesF]
    obtain ⟨a1, a2⟩ := open_inv hT e
    obtain ⟨b1, b2⟩ := mark_inv a1 e
    obtain ⟨c1, c2⟩ := tries_inv h (stepT T k e) (k + 1) b1
    exact ⟨by rw [List.length_cons, show k + (h.length + 1) = k + 1 + h.length by omega]; exact c1, (a2.trans b2).trans c2⟩
/-- The law's own fact. -/
theorem tries_begins (L : List Ev) (n g : Nat) (hn : n ≤ g) : TRel (triesL (L.take n)) (triesL (L.take g)) := by
  have h1 := (tries_inv (L.take n) tr0 0 tr0_inv).1
  have h2 := (tries_inv ((L.take g).drop n) (triesF tr0 (L.take n) 0) (0 + (L.take n).length) h1).2
  have e : L.take n ++ (L.take g).drop n = L.take g := by
    have := List.take_append_drop n (L.take g)
    rwa [List.take_take, Nat.min_eq_left hn] at this
  rw [← triesF_append, e] at h2
  exact h2
end Go.Proofs.YthgkbmfnidehbaaDoor
