
/- How far a history can be, and how many attempts it has (pure). No statement of the seat is proved here. -/
import Derived.Test.YthgkbmfnidehbaaDoorEvBa
import Derived.Test.YthgkbmfnidehbaaDoorEvH
namespace Go.Proofs.YthgkbmfnidehbaaDoor

/-- Up to the event that can't be all can; with it the answer stands. -/
theorem chk_cut : ∀ (h : List Ev) (S : St) (k : Nat), (chk S h k).2 ≠ 0 → ∃ j : Nat, j < h.length ∧ (chk S h k).1 = ((k + j : Nat) : Int) ∧ (∀ n, n ≤ j → (chk S (h.take n) k).2 = 0) ∧ chk S (h.take (j + 1)) k = chk S h k
  | [], S, k, hc => absurd rfl hc
  | e :: h, S, k, hc => by
    rw [chk] at hc ⊢
    by_cases he : errE S e = 0
    · rw [if_pos he] at hc ⊢
      obtain ⟨j, h1, h2, h3, h4⟩ := chk_cut h _ _ hc
      refine ⟨j + 1, by simpa using h1, by rw [h2]; congr 1; omega, fun n hn => ?_, ?_⟩
      · cases n with
        | zero => rfl
        | succ n => rw [List.take_succ_cons, chk, if_pos he]; exact h3 n (by omega)
      · rw [List.take_succ_cons, chk, if_pos he]; exact h4
    · rw [if_neg he] at hc ⊢
      refine ⟨0, by simp, by simp, fun n hn => ?_, ?_⟩
      · obtain rfl : n = 0 := by omega
        rfl
      · rw [List.take_succ_cons, chk, if_neg he]
def opens (T : Tr) : Nat := T.o.countP (fun n => decide (n ≠ 0))
/-- A thread that is in no attempt has none open. -/
structure TCnt (S : St) (T : Tr) (k : Nat) : Prop where
  o8 : T.o.length = 8
  t8 : S.t.length = 8
  out : ∀ i, i < 8 → (S.sd i).st ≠ 2 → (S.sd i).st ≠ 3 → T.at i = 0
  cnt : 2 * T.l.length ≤ k + opens T
theorem opens_le (T : Tr) (h : T.o.length = 8) : opens T ≤ 8 := by
  unfold opens; rw [← h]; exact List.countP_le_length
theorem opens_set (T : Tr) (l : List Ty) (i n : Nat) (h : i < T.o.length) : opens ⟨l, T.o.set i n⟩ + (if T.at i ≠ 0 then 1 else 0) = opens T + (if n ≠ 0 then 1 else 0) := by
  have hat : T.at i = T.o[i] := by simp [Tr.at, List.getElem?_eq_getElem h]
  unfold opens
  rw [List.countP_set h, hat]
  have hp : (if T.o[i] ≠ 0 then 1 else 0) ≤ T.o.countP (fun n => decide (n ≠ 0)) := by
    split
    · rename_i q
      exact List.countP_pos_iff.2 ⟨T.o[i], List.getElem_mem h, by simpa using q⟩
    · omega
  generalize T.o.countP (fun n => decide (n ≠ 0)) = c at hp ⊢
  by_cases q : T.o[i] = 0 <;> by_cases r : n = 0 <;> simp [q, r] at hp ⊢ <;> omega
theorem err_turn {S : St} {e : Ev} (h : errE S e = 0) : formedE e = true ∧ turnN (S.sd e.th.toNat).st e ≠ 0 := by
  unfold errE errS at h
  cases hf : formedE e with
  | false => simp [hf] at h
  | true =>
    refine ⟨rfl, fun ht => ?_⟩
    simp [hf, ht] at h
theorem cnt_step {S : St} {T : Tr} {k : Nat} {e : Ev} (h : TCnt S T k) (hI : TInv T k) (he : errE S e = 0) : TCnt (nextS S e) (stepT T k e) (k + 1) := by
  obtain ⟨hf, ht⟩ := err_turn he
  obtain ⟨f0, f1, f2, f3⟩ := formed_in hf
  have hi8 : e.th.toNat < 8 := by omega
  have hsd := next_sd (S := S) (e := e) h.t8 f0 f1
  have hst : ((nextS S e).sd e.th.toNat).st = turnN (S.sd e.th.toNat).st e := by rw [hsd, if_pos rfl]; rfl
  have hoth : ∀ j, j ≠ e.th.toNat → (nextS S e).sd j = S.sd j := fun j hj => by rw [hsd, if_neg hj]
  have hil : e.th.toNat < T.o.length := by rw [h.o8]; exact hi8
  unfold stepT openT
  by_cases h1 : e.kd = 1
  · have hs1 : (S.sd e.th.toNat).st = 1 := by
      unfold turnN at ht
      by_cases q1 : (S.sd e.th.toNat).st = 1
      · exact q1
      · by_cases q2 : (S.sd e.th.toNat).st = 2
        · simp [q2, h1] at ht
        · by_cases q3 : (S.sd e.th.toNat).st = 3
          · simp [q3, h1] at ht
          · simp [q1, q2, q3] at ht
    have hat := h.out _ hi8 (by omega) (by omega)
    rw [if_pos h1]
    have hA : (⟨T.l ++ [⟨e.th, k, 0, 0, 0, 0, 0⟩], T.o.set e.th.toNat (T.l.length + 1)⟩ : Tr).at e.th.toNat = T.l.length + 1 := by rw [at_set, if_pos ⟨rfl, hil⟩]
    have hop := opens_set T (T.l ++ [⟨e.th, k, 0, 0, 0, 0, 0⟩]) e.th.toNat (T.l.length + 1) hil
    unfold markT
    simp only [hA]
    rw [if_neg (by omega)]
    have hn : (noteT (((T.l ++ [(⟨e.th, k, 0, 0, 0, 0, 0⟩ : Ty)])[T.l.length + 1 - 1]?).getD ty0) k e).how = 0 := by
      rw [List.getElem?_append_right (by omega)]
      simp [noteT, endB, h1]
    simp only [hn, if_true]
    have hlen : ∀ x : Ty, ((T.l ++ [(⟨e.th, k, 0, 0, 0, 0, 0⟩ : Ty)]).set (T.l.length + 1 - 1) x).length = T.l.length + 1 := fun x => by simp
    refine ⟨by simpa using h.o8, next_len h.t8, fun j hj a2 a3 => ?_, ?_⟩
    · by_cases hje : j = e.th.toNat
      · subst hje
        rw [hst, hs1] at a2
        simp [turnN, h1] at a2
      · rw [hoth j hje] at a2 a3
        rw [at_set, if_neg (fun q => hje q.1)]
        exact h.out j hj a2 a3
    · show 2 * ((T.l ++ [(⟨e.th, k, 0, 0, 0, 0, 0⟩ : Ty)]).set (T.l.length + 1 - 1) _).length ≤ _
      rw [hlen]
      have : opens ⟨(T.l ++ [(⟨e.th, k, 0, 0, 0, 0, 0⟩ : Ty)]).set (T.l.length + 1 - 1) (noteT (((T.l ++ [(⟨e.th, k, 0, 0, 0, 0, 0⟩ : Ty)])[T.l.length + 1 - 1]?).getD ty0) k e), T.o.set e.th.toNat (T.l.length + 1)⟩ = opens T + 1 := by
        rw [hat] at hop
        simpa [opens] using hop
      rw [this]
      have := h.cnt
      omega
  · rw [if_neg h1]
    unfold markT
    by_cases h0 : T.at e.th.toNat = 0
    · rw [if_pos h0]
      refine ⟨h.o8, next_len h.t8, fun j hj a2 a3 => ?_, by have := h.cnt; omega⟩
      by_cases hje : j = e.th.toNat
      · subst hje; exact h0
      · rw [hoth j hje] at a2 a3; exact h.out j hj a2 a3
    · rw [if_neg h0]
      obtain ⟨t, htt, hw⟩ := hI.op _ h0
      have hg : (T.l[T.at e.th.toNat - 1]?).getD ty0 = t := by rw [htt]; rfl
      simp only [hg]
      have hop := opens_set T (T.l.set (T.at e.th.toNat - 1) (noteT t k e)) e.th.toNat 0 hil
      have h23 : (S.sd e.th.toNat).st = 2 ∨ (S.sd e.th.toNat).st = 3 := by
        by_cases q2 : (S.sd e.th.toNat).st = 2
        · exact .inl q2
        · by_cases q3 : (S.sd e.th.toNat).st = 3
          · exact .inr q3
          · exact absurd (h.out _ hi8 q2 q3) h0
      by_cases hE : endB e.kd = true
      · have hn : ¬ (noteT t k e).how = 0 := by simp [noteT, hE]; omega
        simp only [if_neg hn]
        refine ⟨by simpa using h.o8, next_len h.t8, fun j hj a2 a3 => ?_, ?_⟩
        · by_cases hje : j = e.th.toNat
          · rw [at_set, if_pos ⟨hje, hil⟩]
          · rw [hoth j hje] at a2 a3
            rw [at_set, if_neg (fun q => hje q.1)]
            exact h.out j hj a2 a3
        · rw [if_pos h0] at hop
          simp only [List.length_set]
          have := h.cnt
          simp at hop
          omega
      · have hn : (noteT t k e).how = 0 := by simp [noteT, hE, hw]
        simp only [if_pos hn]
        refine ⟨h.o8, next_len h.t8, fun j hj a2 a3 => ?_, ?_⟩
        · by_cases hje : j = e.th.toNat
          · subst hje
            exfalso
            rw [hst] at a2 a3
            have hE' : ¬ (6 ≤ e.kd ∧ e.kd ≤ 9) := by simpa [endB] using hE
            unfold turnN at ht a2 a3
            rcases kd12 f2 f3 with c | c | c | c | c | c | c | c | c | c | c | c <;> rcases h23 with q | q <;> simp [q, c] at ht a2 a3 hE' h1
          · rw [hoth j hje] at a2 a3; exact h.out j hj a2 a3
        · simp only [List.length_set]
          have := h.cnt
          show 2 * T.l.length ≤ k + 1 + opens T
          omega
theorem cnt0 : TCnt st0 tr0 0 := ⟨rfl, rfl, fun i hi _ _ => by
    simp only [Tr.at, tr0, List.getElem?_replicate]
    split <;> rfl, by simp [tr0]⟩
theorem tries_cnt : ∀ (h : List Ev) (S : St) (T : Tr) (k : Nat), TCnt S T k → TInv T k → (chk S h k).2 = 0 → TCnt (h.foldl nextS S) (triesF T h k) (k + h.length)
  | [], S, T, k, hc, _, _ => hc
  | e :: h, S, T, k, hc, hi, hz => by
    rw [chk] at hz
    by_cases he : errE S e = 0
    · rw [if_pos he] at hz
      have h1 := cnt_step hc hi he
      have h2 := (mark_inv (open_inv hi e).1 e).1
      have := tries_cnt h (nextS S e) (stepT T k e) (k + 1) h1 h2 hz
      rw [triesF, List.foldl_cons, List.length_cons, show k + (h.length + 1) = k + 1 + h.length by omega]
      exact this
    · rw [if_neg he] at hz; exact absurd hz he
/-- A history that can be has at most half as many attempts as events, and four. -/
theorem tries_few {L : List Ev} (hz : (checkL L).2 = 0) (k : Nat) (hk : k ≤ L.length) : 2 * (triesF tr0 (L.take k) 0).l.length ≤ k + 8 := by
  have h := tries_cnt (L.take k) st0 tr0 0 cnt0 tr0_inv (chk_take hz)
  have h1 := h.cnt
  have h2 := opens_le _ h.o8
  have : (L.take k).length = k := by simp; omega
  omega
end Go.Proofs.YthgkbmfnidehbaaDoor
