/-
  A look asks no more slots than there are keys, and one. No program, and no statement of the seat.
-/
import Derived.Test.YtbhocajmcfdffaaDoorTabC
namespace Go.Proofs.YtbhocajmcfdffaaDoor

theorem look_le {n : Nat} {h : Int → Nat} {K : List (Option Int)} {O : List Int} (I : Inv n h K O) (k : Int) : lookN n K (h k) k ≤ O.length := by
  obtain ⟨h1, h2, h3⟩ := look_spec (I.home k) k I.free
  have key : ∀ m, m ≤ lookN n K (h k) k → ∃ L : List Int, L.length = m ∧ L.Nodup ∧ ∀ q, q ∈ L → ∃ j, j < m ∧ sl K (wrapN n (h k + j)) = some q := by
    intro m
    induction m with
    | zero => intro _; exact ⟨[], rfl, by simp, fun q hq => by cases hq⟩
    | succ m ih =>
      intro hm
      obtain ⟨L, hl, hd, hs⟩ := ih (by omega)
      have he := h3 m (by omega)
      cases hsl : sl K (wrapN n (h k + m)) with
      | none => rw [ends_none hsl] at he; cases he
      | some q =>
        refine ⟨L ++ [q], by simp [hl], ?_, ?_⟩
        · rw [List.nodup_append]
          refine ⟨hd, by simp, fun a ha b hb => ?_⟩
          simp at hb
          subst hb
          rintro rfl
          obtain ⟨j, hj, e⟩ := hs _ ha
          have := wrap_inj (I.home k) (by omega) (by omega) (I.inj _ _ _ e hsl)
          omega
        · intro r hr
          rw [List.mem_append, List.mem_singleton] at hr
          rcases hr with hr | rfl
          · obtain ⟨j, hj, e⟩ := hs r hr
            exact ⟨j, by omega, e⟩
          · exact ⟨m, by omega, hsl⟩
  obtain ⟨L, hl, hd, hs⟩ := key _ (Nat.le_refl _)
  rw [← hl]
  exact nodup_len L O hd (fun q hq => by obtain ⟨j, _, e⟩ := hs q hq; exact (I.mem q).2 ⟨_, e⟩)
end Go.Proofs.YtbhocajmcfdffaaDoor
