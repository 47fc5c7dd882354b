
/- Walks of start, take, Check (package events). No statement of the seat is proved here. -/
import Derived.Test.YthgkbmfnidehbaaDoorEvG
namespace Go.Proofs.YthgkbmfnidehbaaDoor
open Go.RowKit Go.Shelf

theorem sd_set {S : St} {i : Nat} {s : Sd} {n : Int} (hl : S.t.length = 8) (hi : i < 8) (j : Nat) : (⟨n, S.t.set i s⟩ : St).sd j = if j = i then s else S.sd j := by
  unfold St.sd
  dsimp only
  rw [List.getElem?_set]
  by_cases h : i = j
  · subst h; simp [hl, hi]
  · have h' : ¬ j = i := fun e => h e.symm
    simp [h, h']
theorem held_iff {S : St} (hl : S.t.length = 8) : heldB S = true ↔ ∃ j, j < 8 ∧ (S.sd j).st = 3 := by
  unfold heldB
  rw [List.any_eq_true]
  constructor
  · rintro ⟨x, hx, h3⟩
    obtain ⟨j, hj, rfl⟩ := List.getElem_of_mem hx
    refine ⟨j, by omega, ?_⟩
    unfold St.sd
    rw [List.getElem?_eq_getElem hj]
    simpa using h3
  · rintro ⟨j, hj, h3⟩
    refine ⟨S.t[j]'(by omega), List.getElem_mem _, ?_⟩
    unfold St.sd at h3
    rw [List.getElem?_eq_getElem (by omega)] at h3
    simpa using h3
/-- At most one thread holds the lock. -/
def Uniq (S : St) : Prop := S.t.length = 8 ∧ ∀ i j, i < 8 → j < 8 → (S.sd i).st = 3 → (S.sd j).st = 3 → i = j
theorem turn3 {st : Nat} {e : Ev} (h : turnN st e = 3) : st = 2 ∧ e.kd = 5 := by
  unfold turnN at h
  repeat' split at h
  all_goals first | omega | (exact ⟨by assumption, by assumption⟩)
theorem turn_of3 {e : Ev} (h : turnN 3 e ≠ 0) : e.kd = 6 ∧ turnN 3 e = 1 := by
  unfold turnN at h ⊢
  simp only [show ¬ (3 = 1) by decide, show ¬ (3 = 2) by decide, if_false, if_true] at h ⊢
  by_cases h6 : e.kd = 6
  · simp [h6]
  · simp [h6] at h
theorem turn_of5 {st : Nat} {e : Ev} (h : turnN st e ≠ 0) (h5 : e.kd = 5) : st = 2 ∧ turnN st e = 3 := by
  unfold turnN at h ⊢
  rw [h5] at h ⊢
  by_cases h1 : st = 1
  · simp [h1] at h
  · by_cases h2 : st = 2
    · simp [h2]
    · by_cases h3 : st = 3
      · simp [h3] at h
      · simp [h1, h2, h3] at h
theorem turn_le {st : Nat} {e : Ev} : turnN st e ≤ 4 := by
  unfold turnN
  repeat' split
  all_goals omega
/-- What an event that can be says. -/
theorem err_ok {S : St} {e : Ev} (h : errE S e = 0) : formedE e = true ∧ turnN (S.sd e.th.toNat).st e ≠ 0 ∧ (heldB S && clkB e.kd) = false ∧ numE S.n (S.sd e.th.toNat) e = true ∧ ownE (S.sd e.th.toNat) e = true := by
  unfold errE errS at h
  by_cases h1 : formedE e = false
  · simp [h1] at h
  · by_cases h2 : turnN (S.sd e.th.toNat).st e = 0
    · simp [h1, h2] at h
    · by_cases h3 : (heldB S && clkB e.kd) = true
      · simp only [h1, h2, h3, if_true, if_false] at h; omega
      · by_cases h4 : numE S.n (S.sd e.th.toNat) e = false
        · simp only [h1, h2, h3, h4, if_true, if_false] at h; omega
        · by_cases h5 : ownE (S.sd e.th.toNat) e = false
          · simp only [h1, h2, h3, h4, h5, if_true, if_false] at h; omega
          · exact ⟨by simpa using h1, h2, by simpa using h3, by simpa using h4, by simpa using h5⟩
theorem next_len {S : St} {e : Ev} (h : S.t.length = 8) : (nextS S e).t.length = 8 := by simp [nextS, h]
theorem next_sd {S : St} {e : Ev} (hl : S.t.length = 8) (h0 : 0 ≤ e.th) (h8 : e.th < 8) (j : Nat) : (nextS S e).sd j = if j = e.th.toNat then nextSd (S.sd e.th.toNat) e else S.sd j := sd_set hl (by omega) j
theorem next_uniq {S : St} {e : Ev} (hu : Uniq S) (h : errE S e = 0) : Uniq (nextS S e) := by
  obtain ⟨h1, h2, h3, h4, h5⟩ := err_ok h
  obtain ⟨t0, t8, k0, k1⟩ := formed_in h1
  refine ⟨next_len hu.1, fun i j hi hj h3i h3j => ?_⟩
  rw [next_sd hu.1 t0 t8] at h3i h3j
  have key : ∀ j, j < 8 → (S.sd j).st = 3 → nextSd (S.sd e.th.toNat) e ≠ nextSd (S.sd e.th.toNat) e ∨ ¬ (nextSd (S.sd e.th.toNat) e).st = 3 := fun j hj hs => .inr fun hn => by
    obtain ⟨a, b⟩ := turn3 hn
    have hh := (held_iff hu.1).2 ⟨j, hj, hs⟩
    rw [hh, b] at h3
    simp [clkB] at h3
  by_cases ei : i = e.th.toNat <;> by_cases ej : j = e.th.toNat
  · omega
  · rw [if_pos ei] at h3i; rw [if_neg ej] at h3j
    rcases key j hj h3j with q | q
    · exact absurd rfl q
    · exact absurd h3i q
  · rw [if_neg ei] at h3i; rw [if_pos ej] at h3j
    rcases key i hi h3i with q | q
    · exact absurd rfl q
    · exact absurd h3j q
  · rw [if_neg ei] at h3i; rw [if_neg ej] at h3j
    exact hu.2 i j hi hj h3i h3j
theorem next_held {S : St} {e : Ev} (hu : Uniq S) (h : errE S e = 0) : heldB (nextS S e) = if e.kd = 5 then true else if e.kd = 6 ∧ (S.sd e.th.toNat).st = 3 then false else heldB S := by
  obtain ⟨h1, h2, h3, h4, h5⟩ := err_ok h
  obtain ⟨t0, t8, k0, k1⟩ := formed_in h1
  have hl := next_len (e := e) hu.1
  by_cases e5 : e.kd = 5
  · rw [if_pos e5, held_iff hl]
    refine ⟨e.th.toNat, by omega, ?_⟩
    rw [next_sd hu.1 t0 t8, if_pos rfl]
    exact (turn_of5 h2 e5).2
  · rw [if_neg e5]
    by_cases e6 : e.kd = 6 ∧ (S.sd e.th.toNat).st = 3
    · rw [if_pos e6, Bool.eq_false_iff, Ne, held_iff hl]
      rintro ⟨j, hj, hs⟩
      rw [next_sd hu.1 t0 t8] at hs
      by_cases ej : j = e.th.toNat
      · rw [if_pos ej] at hs
        exact e5 (turn3 hs).2
      · rw [if_neg ej] at hs
        exact ej (hu.2 j _ hj (by omega) hs e6.2)
    · rw [if_neg e6, Bool.eq_iff_iff, held_iff hl, held_iff hu.1]
      constructor
      · rintro ⟨j, hj, hs⟩
        rw [next_sd hu.1 t0 t8] at hs
        by_cases ej : j = e.th.toNat
        · rw [if_pos ej] at hs
          exact absurd (turn3 hs).2 e5
        · rw [if_neg ej] at hs
          exact ⟨j, hj, hs⟩
      · rintro ⟨j, hj, hs⟩
        refine ⟨j, hj, ?_⟩
        rw [next_sd hu.1 t0 t8]
        by_cases ej : j = e.th.toNat
        · exfalso
          rw [ej] at hs
          rw [hs] at h2
          exact e6 ⟨(turn_of3 h2).1, hs⟩
        · rw [if_neg ej]; exact hs
theorem st0_len : st0.t.length = 8 := rfl
theorem st0_sd (j : Nat) : st0.sd j = sd0 := by
  unfold St.sd st0
  dsimp only
  rw [List.getElem?_replicate]
  split <;> rfl
theorem st0_uniq : Uniq st0 := ⟨rfl, fun i j _ _ h _ => by rw [st0_sd] at h; cases h⟩
theorem run_uniq : ∀ (h : List Ev) (S : St) (k : Nat), Uniq S → (chk S h k).2 = 0 → Uniq (h.foldl nextS S)
  | [], S, _, hu, _ => hu
  | e :: h, S, k, hu, hc => by
    rw [chk] at hc
    by_cases he : errE S e = 0
    · rw [if_pos he] at hc
      exact run_uniq h _ _ (next_uniq hu he) hc
    · rw [if_neg he] at hc; exact absurd hc he
end Go.Proofs.YthgkbmfnidehbaaDoor
