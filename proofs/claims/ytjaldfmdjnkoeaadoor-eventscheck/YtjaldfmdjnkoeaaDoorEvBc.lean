/-
  No statement of the seat is proved here. (Several texts in one: EvBa, EvBb.)
-/
import Derived.Test.YtjaldfmdjnkoeaaDoorEvA
import Derived.Test.YtjaldfmdjnkoeaaDoorEvH

/- The attempts of a beginning are those of the whole as far as they go (pure). No statement of the seat is proved here. -/
namespace Go.Proofs.YtjaldfmdjnkoeaaDoor

/-- An attempt that is open is none that is over; each thread has its own. -/
structure TInv (T : Tr) (k : Nat) : Prop where
  op : ∀ i, T.at i ≠ 0 → ∃ t, T.l[T.at i - 1]? = some t ∧ t.how = 0
  un : ∀ i j, T.at i ≠ 0 → T.at i = T.at j → i = j
  la : ∀ t ∈ T.l, t.la ≤ k
/-- Attempts, and the same further on. -/
def TRel (l l' : List Ty) : Prop := ∀ (i : Nat) (t : Ty), l[i]? = some t → ∃ t', l'[i]? = some t' ∧ t.th = t'.th ∧ t.fi = t'.fi ∧ t.rd ≤ t'.rd ∧ t.la ≤ t'.la ∧ (t.how ≠ 0 → t = t')
theorem TRel.refl (l : List Ty) : TRel l l := fun _ t h => ⟨t, h, rfl, rfl, Int.le_refl _, Int.le_refl _, fun _ => rfl⟩
theorem TRel.trans {a b c : List Ty} (h : TRel a b) (k : TRel b c) : TRel a c := fun i t hi => by
  obtain ⟨t1, q1, a1, a2, a3, a4, a5⟩ := h i t hi
  obtain ⟨t2, q2, b1, b2, b3, b4, b5⟩ := k i t1 q1
  refine ⟨t2, q2, a1.trans b1, a2.trans b2, Int.le_trans a3 b3, Int.le_trans a4 b4, fun hh => ?_⟩
  obtain rfl := a5 hh
  exact b5 hh
theorem TRel.len {a b : List Ty} (h : TRel a b) : a.length ≤ b.length := by
  rcases Nat.lt_or_ge b.length a.length with hlt | hge
  · obtain ⟨t', q, _⟩ := h b.length _ (List.getElem?_eq_getElem hlt)
    rw [List.getElem?_eq_none (Nat.le_refl _)] at q
    cases q
  · exact hge
theorem tr0_inv : TInv tr0 0 := ⟨fun i hi => by
    exfalso; apply hi
    simp only [Tr.at, tr0, List.getElem?_replicate]
    split <;> rfl, fun i j hi => by
    exfalso; apply hi
    simp only [Tr.at, tr0, List.getElem?_replicate]
    split <;> rfl, by simp [tr0]⟩
theorem at_set (l : List Ty) (T : Tr) (i n j : Nat) : (⟨l, T.o.set i n⟩ : Tr).at j = if j = i ∧ i < T.o.length then n else T.at j := by
  simp only [Tr.at, List.getElem?_set]
  by_cases h : i = j
  · subst h
    by_cases hl : i < T.o.length
    · simp [hl]
    · simp [hl]
  · simp [h, Ne.symm h]
theorem open_inv {T : Tr} {k : Nat} (h : TInv T k) (e : Ev) : TInv (openT T k e) k ∧ TRel T.l (openT T k e).l := by
  unfold openT
  by_cases h1 : e.kd = 1
  · rw [if_pos h1]
    have hle : ∀ i, T.at i ≠ 0 → T.at i - 1 < T.l.length := fun i hi => by
      obtain ⟨t, ht, _⟩ := h.op i hi
      exact (List.getElem?_eq_some_iff.1 ht).1
    refine ⟨⟨fun i hi => ?_, fun i j hi hij => ?_, fun t ht => ?_⟩, fun i t hi => ?_⟩
    · rw [at_set] at hi ⊢
      split at hi
      · rename_i hc
        rw [if_pos hc]
        exact ⟨_, by rw [List.getElem?_append_right (by simp)]; simp; rfl, rfl⟩
      · rename_i hc
        rw [if_neg hc]
        obtain ⟨t, ht, h0⟩ := h.op i hi
        exact ⟨t, by show (T.l ++ _)[T.at i - 1]? = _; rw [List.getElem?_append_left (hle i hi)]; exact ht, h0⟩
    · rw [at_set] at hi
      rw [at_set, at_set] at hij
      split at hij <;> split at hij
      · rename_i c1 c2; exact c1.1.trans c2.1.symm
      · rename_i c1 c2
        have hj : T.at j ≠ 0 := by omega
        have := hle j hj
        omega
      · rename_i c1 c2
        rw [if_neg c1] at hi
        have := hle i hi
        omega
      · rename_i c1 c2
        rw [if_neg c1] at hi
        exact h.un i j hi hij
    · rcases List.mem_append.1 ht with ht | ht
      · exact h.la t ht
      · simp at ht; subst ht; exact Int.natCast_nonneg k
    · exact ⟨t, by rw [List.getElem?_append_left (List.getElem?_eq_some_iff.1 hi).1]; exact hi, rfl, rfl, Int.le_refl _, Int.le_refl _, fun _ => rfl⟩
  · rw [if_neg h1]; exact ⟨h, TRel.refl _⟩
theorem mark_inv {T : Tr} {k : Nat} (h : TInv T k) (e : Ev) : TInv (markT T k e) (k + 1) ∧ TRel T.l (markT T k e).l := by
  unfold markT
  by_cases h0 : T.at e.th.toNat = 0
  · rw [if_pos h0]
    exact ⟨⟨h.op, h.un, fun t ht => by have := h.la t ht; omega⟩, TRel.refl _⟩
  · rw [if_neg h0]
    obtain ⟨t, ht, hw⟩ := h.op _ h0
    have hlt := (List.getElem?_eq_some_iff.1 ht).1
    have hg : (T.l[T.at e.th.toNat - 1]?).getD ty0 = t := by rw [ht]; rfl
    simp only [hg]
    have hol : e.th.toNat < T.o.length := by
      rcases Nat.lt_or_ge e.th.toNat T.o.length with q | q
      · exact q
      · exfalso; apply h0; simp [Tr.at, List.getElem?_eq_none q]
    have other : ∀ i, i ≠ e.th.toNat → T.at i ≠ 0 → T.at e.th.toNat - 1 ≠ T.at i - 1 := fun i hi hn hc => by
      have : T.at i = T.at e.th.toNat := by omega
      exact hi (h.un i _ hn this)
    refine ⟨⟨fun i hi => ?_, fun i j hi hij => ?_, fun t' ht' => ?_⟩, fun i t' hi => ?_⟩
    · by_cases hn : (noteT t k e).how = 0
      · simp only [if_pos hn] at hi ⊢
        by_cases hie : i = e.th.toNat
        · subst hie
          exact ⟨noteT t k e, List.getElem?_set_self hlt, hn⟩
        · obtain ⟨u, hu, hw'⟩ := h.op i hi
          exact ⟨u, by show (T.l.set _ _)[T.at i - 1]? = _; rw [List.getElem?_set_ne (other i hie hi)]; exact hu, hw'⟩
      · simp only [if_neg hn] at hi ⊢
        rw [at_set] at hi ⊢
        split at hi
        · exact absurd rfl hi
        · rename_i hc
          rw [if_neg hc]
          have hie : i ≠ e.th.toNat := fun q => hc ⟨q, hol⟩
          obtain ⟨u, hu, hw'⟩ := h.op i hi
          exact ⟨u, by show (T.l.set _ _)[T.at i - 1]? = _; rw [List.getElem?_set_ne (other i hie hi)]; exact hu, hw'⟩
    · by_cases hn : (noteT t k e).how = 0
      · simp only [if_pos hn] at hi hij
        exact h.un i j hi hij
      · simp only [if_neg hn] at hi hij
        rw [at_set] at hi
        rw [at_set, at_set] at hij
        split at hi
        · exact absurd rfl hi
        · rename_i hc
          rw [if_neg hc] at hij
          split at hij
          · exact absurd hij hi
          · exact h.un i j hi hij
    · rcases List.mem_or_eq_of_mem_set ht' with q | rfl
      · have := h.la t' q; omega
      · show (k : Int) ≤ ((k + 1 : Nat) : Int); omega
    · by_cases hie : T.at e.th.toNat - 1 = i
      · subst hie
        obtain rfl := Option.some.inj (ht.symm.trans hi)
        refine ⟨noteT t k e, List.getElem?_set_self hlt, rfl, rfl, ?_, h.la t (List.mem_of_getElem? ht), fun q => absurd hw q⟩
        show t.rd ≤ if e.kd = 2 ∧ e.own = false then t.rd + 1 else t.rd
        split <;> omega
      · exact ⟨t', by rw [List.getElem?_set_ne hie]; exact hi, rfl, rfl, Int.le_refl _, Int.le_refl _, fun _ => rfl⟩
theorem tries_inv : ∀ (h : List Ev) (T : Tr) (k : Nat), TInv T k → TInv (triesF T h k) (k + h.length) ∧ TRel T.l (triesF T h k).l
  | [], T, k, hT => ⟨hT, TRel.refl _⟩
  | e :: h, T, k, hT => by
    rw [triesF]
    obtain ⟨a1, a2⟩ := open_inv hT e
    obtain ⟨b1, b2⟩ := mark_inv a1 e
    obtain ⟨c1, c2⟩ := tries_inv h (stepT T k e) (k + 1) b1
    exact ⟨by rw [List.length_cons, show k + (h.length + 1) = k + 1 + h.length by omega]; exact c1, (a2.trans b2).trans c2⟩
/-- The law's own fact. -/
theorem tries_begins (L : List Ev) (n g : Nat) (hn : n ≤ g) : TRel (triesL (L.take n)) (triesL (L.take g)) := by
  have h1 := (tries_inv (L.take n) tr0 0 tr0_inv).1
  have h2 := (tries_inv ((L.take g).drop n) (triesF tr0 (L.take n) 0) (0 + (L.take n).length) h1).2
  have e : L.take n ++ (L.take g).drop n = L.take g := by
    have := List.take_append_drop n (L.take g)
    rwa [List.take_take, Nat.min_eq_left hn] at this
  rw [← triesF_append, e] at h2
  exact h2
end Go.Proofs.YtjaldfmdjnkoeaaDoor


/- How far a history can be, and how many attempts it has (pure). No statement of the seat is proved here. -/
namespace Go.Proofs.YtjaldfmdjnkoeaaDoor

/-- Up to the event that can't be all can; with it the answer stands. -/
theorem chk_cut : ∀ (h : List Ev) (S : St) (k : Nat), (chk S h k).2 ≠ 0 → ∃ j : Nat, j < h.length ∧ (chk S h k).1 = ((k + j : Nat) : Int) ∧ (∀ n, n ≤ j → (chk S (h.take n) k).2 = 0) ∧ chk S (h.take (j + 1)) k = chk S h k
  | [], S, k, hc => absurd rfl hc
  | e :: h, S, k, hc => by
    rw [chk] at hc ⊢
    by_cases he : errE S e = 0
    · rw [if_pos he] at hc ⊢
      obtain ⟨j, h1, h2, h3, h4⟩ := chk_cut h _ _ hc
      refine ⟨j + 1, by simpa using h1, by rw [h2]; congr 1; omega, fun n hn => ?_, ?_⟩
      · cases n with
        | zero => rfl
        | succ n => rw [List.take_succ_cons, chk, if_pos he]; exact h3 n (by omega)
      · rw [List.take_succ_cons, chk, if_pos he]; exact h4
    · rw [if_neg he] at hc ⊢
      refine ⟨0, by simp, by simp, fun n hn => ?_, ?_⟩
      · obtain rfl : n = 0 := by omega
        rfl
      · rw [List.take_succ_cons, chk, if_neg he]
def opens (T : Tr) : Nat := T.o.countP (fun n => decide (n ≠ 0))
/-- A thread that is in no attempt has none open. -/
structure TCnt (S : St) (T : Tr) (k : Nat) : Prop where
  o8 : T.o.length = 8
  t8 : S.t.length = 8
  out : ∀ i, i < 8 → (S.sd i).st ≠ 2 → (S.sd i).st ≠ 3 → T.at i = 0
  cnt : 2 * T.l.length ≤ k + opens T
theorem opens_le (T : Tr) (h : T.o.length = 8) : opens T ≤ 8 := by
  unfold opens; rw [← h]; exact List.countP_le_length
theorem opens_set (T : Tr) (l : List Ty) (i n : Nat) (h : i < T.o.length) : opens ⟨l, T.o.set i n⟩ + (if T.at i ≠ 0 then 1 else 0) = opens T + (if n ≠ 0 then 1 else 0) := by
  have hat : T.at i = T.o[i] := by simp [Tr.at, List.getElem?_eq_getElem h]
  unfold opens
  rw [List.countP_set h, hat]
  have hp : (if T.o[i] ≠ 0 then 1 else 0) ≤ T.o.countP (fun n => decide (n ≠ 0)) := by
    split
    · rename_i q
      exact List.countP_pos_iff.2 ⟨T.o[i], List.getElem_mem h, by simpa using q⟩
    · omega
  generalize T.o.countP (fun n => decide (n ≠ 0)) = c at hp ⊢
  by_cases q : T.o[i] = 0 <;> by_cases r : n = 0 <;> simp [q, r] at hp ⊢ <;> omega
theorem err_turn {S : St} {e : Ev} (h : errE S e = 0) : formedE e = true ∧ turnN (S.sd e.th.toNat).st e ≠ 0 := by
  unfold errE errS at h
  cases hf : formedE e with
  | false => simp [hf] at h
  | true =>
    refine ⟨rfl, fun ht => ?_⟩
    simp [hf, ht] at h
theorem cnt_step {S : St} {T : Tr} {k : Nat} {e : Ev} (h : TCnt S T k) (hI : TInv T k) (he : errE S e = 0) : TCnt (nextS S e) (stepT T k e) (k + 1) := by
  obtain ⟨hf, ht⟩ := err_turn he
  obtain ⟨f0, f1, f2, f3⟩ := formed_in hf
  have hi8 : e.th.toNat < 8 := by omega
  have hsd := next_sd (S := S) (e := e) h.t8 f0 f1
  have hst : ((nextS S e).sd e.th.toNat).st = turnN (S.sd e.th.toNat).st e := by rw [hsd, if_pos rfl]; rfl
  have hoth : ∀ j, j ≠ e.th.toNat → (nextS S e).sd j = S.sd j := fun j hj => by rw [hsd, if_neg hj]
  have hil : e.th.toNat < T.o.length := by rw [h.o8]; exact hi8
  unfold stepT openT
  by_cases h1 : e.kd = 1
  · have hs1 : (S.sd e.th.toNat).st = 1 := by
      unfold turnN at ht
      by_cases q1 : (S.sd e.th.toNat).st = 1
      · exact q1
      · by_cases q2 : (S.sd e.th.toNat).st = 2
        · simp [q2, h1] at ht
        · by_cases q3 : (S.sd e.th.toNat).st = 3
          · simp [q3, h1] at ht
          · simp [q1, q2, q3] at ht
    have hat := h.out _ hi8 (by omega) (by omega)
    rw [if_pos h1]
    have hA : (⟨T.l ++ [⟨e.th, k, 0, 0, 0, 0, 0⟩], T.o.set e.th.toNat (T.l.length + 1)⟩ : Tr).at e.th.toNat = T.l.length + 1 := by rw [at_set, if_pos ⟨rfl, hil⟩]
    have hop := opens_set T (T.l ++ [⟨e.th, k, 0, 0, 0, 0, 0⟩]) e.th.toNat (T.l.length + 1) hil
    unfold markT
    simp only [hA]
    rw [if_neg (by omega)]
    have hn : (noteT (((T.l ++ [(⟨e.th, k, 0, 0, 0, 0, 0⟩ : Ty)])[T.l.length + 1 - 1]?).getD ty0) k e).how = 0 := by
      rw [List.getElem?_append_right (by omega)]
      simp [noteT, endB, h1]
    simp only [hn, if_true]
    have hlen : ∀ x : Ty, ((T.l ++ [(⟨e.th, k, 0, 0, 0, 0, 0⟩ : Ty)]).set (T.l.length + 1 - 1) x).length = T.l.length + 1 := fun x => by simp
    refine ⟨by simpa using h.o8, next_len h.t8, fun j hj a2 a3 => ?_, ?_⟩
    · by_cases hje : j = e.th.toNat
      · subst hje
        rw [hst, hs1] at a2
        simp [turnN, h1] at a2
      · rw [hoth j hje] at a2 a3
        rw [at_set, if_neg (fun q => hje q.1)]
        exact h.out j hj a2 a3
    · show 2 * ((T.l ++ [(⟨e.th, k, 0, 0, 0, 0, 0⟩ : Ty)]).set (T.l.length + 1 - 1) _).length ≤ _
      rw [hlen]
      have : opens ⟨(T.l ++ [(⟨e.th, k, 0, 0, 0, 0, 0⟩ : Ty)]).set (T.l.length + 1 - 1) (noteT (((T.l ++ [(⟨e.th, k, 0, 0, 0, 0, 0⟩ : Ty)])[T.l.length + 1 - 1]?).getD ty0) k e), T.o.set e.th.toNat (T.l.length + 1)⟩ = opens T + 1 := by
        rw [hat] at hop
        simpa [opens] using hop
      rw [this]
      have := h.cnt
      omega
  · rw [if_neg h1]
    unfold markT
    by_cases h0 : T.at e.th.toNat = 0
    · rw [if_pos h0]
      refine ⟨h.o8, next_len h.t8, fun j hj a2 a3 => ?_, by have := h.cnt; omega⟩
      by_cases hje : j = e.th.toNat
      · subst hje; exact h0
      · rw [hoth j hje] at a2 a3; exact h.out j hj a2 a3
    · rw [if_neg h0]
      obtain ⟨t, htt, hw⟩ := hI.op _ h0
      have hg : (T.l[T.at e.th.toNat - 1]?).getD ty0 = t := by rw [htt]; rfl
      simp only [hg]
      have hop := opens_set T (T.l.set (T.at e.th.toNat - 1) (noteT t k e)) e.th.toNat 0 hil
      have h23 : (S.sd e.th.toNat).st = 2 ∨ (S.sd e.th.toNat).st = 3 := by
        by_cases q2 : (S.sd e.th.toNat).st = 2
        · exact .inl q2
        · by_cases q3 : (S.sd e.th.toNat).st = 3
          · exact .inr q3
          · exact absurd (h.out _ hi8 q2 q3) h0
      by_cases hE : endB e.kd = true
      · have hn : ¬ (noteT t k e).how = 0 := by simp [noteT, hE]; omega
        simp only [if_neg hn]
        refine ⟨by simpa using h.o8, next_len h.t8, fun j hj a2 a3 => ?_, ?_⟩
        · by_cases hje : j = e.th.toNat
          · rw [at_set, if_pos ⟨hje, hil⟩]
          · rw [hoth j hje] at a2 a3
            rw [at_set, if_neg (fun q => hje q.1)]
            exact h.out j hj a2 a3
        · rw [if_pos h0] at hop
          simp only [List.length_set]
          have := h.cnt
          simp at hop
          omega
      · have hn : (noteT t k e).how = 0 := by simp [noteT, hE, hw]
        simp only [if_pos hn]
        refine ⟨h.o8, next_len h.t8, fun j hj a2 a3 => ?_, ?_⟩
        · by_cases hje : j = e.th.toNat
          · subst hje
            exfalso
            rw [hst] at a2 a3
            have hE' : ¬ (6 ≤ e.kd ∧ e.kd ≤ 9) := by simpa [endB] using hE
            unfold turnN at ht a2 a3
            rcases kd12 f2 f3 with c | c | c | c | c | c | c | c | c | c | c | c <;> rcases h23 with q | q <;> simp [q, c] at ht a2 a3 hE' h1
          · rw [hoth j hje] at a2 a3; exact h.out j hj a2 a3
        · simp only [List.length_set]
          have := h.cnt
          show 2 * T.l.length ≤ k + 1 + opens T
          omega
theorem cnt0 : TCnt st0 tr0 0 := ⟨rfl, rfl, fun i hi _ _ => by
    simp only [Tr.at, tr0, List.getElem?_replicate]
    split <;> rfl, by simp [tr0]⟩
theorem tries_cnt : ∀ (h : List Ev) (S : St) (T : Tr) (k : Nat), TCnt S T k → TInv T k → (chk S h k).2 = 0 → TCnt (h.foldl nextS S) (triesF T h k) (k + h.length)
  | [], S, T, k, hc, _, _ => hc
  | e :: h, S, T, k, hc, hi, hz => by
    rw [chk] at hz
    by_cases he : errE S e = 0
    · rw [if_pos he] at hz
      have h1 := cnt_step hc hi he
      have h2 := (mark_inv (open_inv hi e).1 e).1
      have := tries_cnt h (nextS S e) (stepT T k e) (k + 1) h1 h2 hz
      rw [triesF, List.foldl_cons, List.length_cons, show k + (h.length + 1) = k + 1 + h.length by omega]
      exact this
    · rw [if_neg he] at hz; exact absurd hz he
/-- A history that can be has at most half as many attempts as events, and four. -/
theorem tries_few {L : List Ev} (hz : (checkL L).2 = 0) (k : Nat) (hk : k ≤ L.length) : 2 * (triesF tr0 (L.take k) 0).l.length ≤ k + 8 := by
  have h := tries_cnt (L.take k) st0 tr0 0 cnt0 tr0_inv (chk_take hz)
  have h1 := h.cnt
  have h2 := opens_le _ h.o8
  have : (L.take k).length = k := by simp; omega
  omega
end Go.Proofs.YtjaldfmdjnkoeaaDoor
