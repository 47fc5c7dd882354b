
/- A word of a row is put (layer 22). No statement of the seat is proved here. -/
import Derived.Test.YtjgibkofenkehaaSlE
namespace Go.Proofs.Ytjgibkofenkehaa
open Go.RowKit

theorem Wr.set {X : World} {B : Nat} {v : Value} {L : List Int} (h : Wr X B v L) {k g : Nat} (hk : k < L.length) (hg : v.ownBlock = some g) (x : Int) : Wr (X.setCell ⟨g, k, none⟩ (.int .u64 x)) B v (L.set k x) := by
  rcases h.2 with ⟨_, e⟩ | ⟨g', cap, cur, e, q1, q2, q3, q4, q5, q6⟩
  · omega
  · have e2 : g' = g := by rw [e] at hg; exact Option.some.inj hg
    subst e2
    refine ⟨by simp [wordsV], .inr ⟨g', cap, cur.setIfInBounds k (.int .u64 x), by rw [List.length_set]; exact e, q1, block_set q2 k _, by rw [List.length_set]; exact q3, q4, by simp; omega, ?_⟩⟩
    rw [List.length_set, Array.toList_setIfInBounds, List.take_set, q6]
    unfold wordsV
    rw [List.map_set]
/-- The first phase: so many marks are put. -/
structure P1 (w : World) (B : Nat) (v : Value) (n k : Nat) (X : World) : Prop where
  kp : Keeps (fun i => v.ownBlock = some i) w X
  wr : ∃ L' : List Int, L'.length = n ∧ (∀ i, i < k → oat L' i = MK) ∧ Wr X B v L'
theorem P1.put {w X : World} {B : Nat} {v : Value} {n k g : Nat} (h : P1 w B v n k X) (hk : k < n) (hg : v.ownBlock = some g) : P1 w B v n (k + 1) (X.setCell ⟨g, k, none⟩ (.int .u64 MK)) := by
  obtain ⟨L', h1, h2, h3⟩ := h.wr
  refine ⟨h.kp.setCell (p := ⟨g, k, none⟩) (.inr hg) _, L'.set k MK, by rw [List.length_set]; exact h1, fun i hi => ?_, h3.set (by omega) hg MK⟩
  unfold oat
  rw [List.getElem?_set]
  by_cases e : k = i
  · subst e
    rw [if_pos rfl, if_pos (by omega)]
    rfl
  · rw [if_neg e]
    exact h2 i (by omega)
theorem P1.ap {w X : World} {B : Nat} {v : Value} {n : Nat} (h : P1 w B v n n X) : Ap X B v v n 0 := by
  obtain ⟨L', h1, h2, h3⟩ := h.wr
  have e : L' = List.replicate n MK := by
    apply List.ext_getElem?
    intro x
    rw [List.getElem?_replicate]
    split
    · rename_i hx
      have := h2 x hx
      unfold oat at this
      rw [List.getElem?_eq_getElem (by omega)] at this ⊢
      simpa using this
    · rw [List.getElem?_eq_none (by omega)]
  subst e
  refine ⟨?_, h3⟩
  obtain ⟨a, c, e1⟩ := h3.form
  rw [List.length_replicate] at e1
  refine ⟨a, c, e1, fun i hi => ?_⟩
  obtain ⟨g, q1, q2⟩ := wr_cell h3 (i := i) (by simp; exact hi)
  rw [oat_rep _ hi] at q2
  rcases h3.2 with ⟨_, e⟩ | ⟨g', cap, cur, e, _⟩
  · simp at e; omega
  · rw [e1] at e q1
    injection e with e4 _ _
    subst e4
    have e5 : g' = g := Option.some.inj q1
    subst e5
    exact ⟨g', rfl, q2⟩
end Go.Proofs.Ytjgibkofenkehaa
