
/- Towards a round of RoomApart (layer 20). No statement of the seat is proved here. -/
import Derived.Test.YthelfalmjihkdaaRaE
namespace Go.Proofs.Ythelfalmjihkdaa
open Go.RowKit

/-- One more word behind a row of the call's own; what changes. -/
theorem Wr.push2 {w : World} {base : Nat} {v : Value} {l : List Int} (h : Wr w base v l) (hb : base ≤ w.heap.size) (hl : l.length < 17592186044415) (x : Int) :
    ∃ v' w', (Builtin.append_ #[22, 22] 22 #[v, .slice (some ⟨w.heap.size, 0, none⟩) 1 1]).run Try.prog (w.alloc (.cells #[.int .u64 x] 31)) = .ok v' w' ∧ Wr w' base v' (l ++ [x]) ∧ Keeps (fun q => v.ownBlock = some q) w w' ∧ (∀ q, v'.ownBlock = some q → v.ownBlock = some q ∨ w.heap.size ≤ q) := by
  have h0 : (w.alloc (.cells #[.int .u64 x] 31)).ownsRow base 31 1 v l.length (wordsV l) := own_keeps h ((Keeps.refl (fun _ => False) w).alloc _) (fun _ _ f => f)
  obtain ⟨v', w', r1, r2, r3, r4⟩ := own_push (P := Try.prog) (w.alloc (.cells #[.int .u64 x] 31)) base 22 22 31 (.int .u64 0) 1 8 Try.underlying22 info_word rfl (by decide) v l.length (wordsV l) h0 ⟨w.heap.size, 0, none⟩ 1 1 [.int .u64 x] rfl (fun j u hj => by
    obtain rfl : j = 0 := by
      have := (List.getElem?_eq_some_iff.1 hj).1
      simpa using this
    simp at hj
    subst hj
    rw [addr_add]
    exact cell_of_block (alloc_block w _) 0) (fun u hu => by simp at hu; subst hu; rfl) (by omega) (by decide) (by simp; omega)
  refine ⟨v', w', r1, ?_, ((Keeps.refl _ w).alloc _).step (keeps_grown r3) (fun g _ e => e), fun q hq => ?_⟩
  · unfold Wr
    rw [wordsV_append, List.length_append]
    exact r2
  · rcases r4 with r4 | r4
    · rw [r4] at hq; exact .inl hq
    · exact .inr (by have := r4 q hq; simp at this; omega)

theorem Ow.cut2 {w : World} {base g cap : Nat} {O : List (Int × Int)} (h : Ow w base (.slice (some ⟨g, 0, none⟩) O.length cap) O) (hb : base ≤ w.heap.size) (hl : O.length < 8796093022208) {k : Nat} (hk : k < O.length) (hcap : O.length ≤ cap) (c : Nat) :
    ∃ v' w', (Builtin.append_ #[42, 42] 42 #[.slice (some ⟨g, 0, none⟩) k k, .slice (if cap = k + 1 then some ⟨g, 0, none⟩ else some ⟨g, (k + 1) * 2, none⟩) (O.length - (k + 1)) c]).run Try.prog w = .ok v' w' ∧ Ow w' base v' (O.eraseIdx k) ∧ Keeps (fun _ => False) w w' ∧ (∀ q, v'.ownBlock = some q → q = g ∨ w.heap.size ≤ q) := by
  by_cases hc : cap = k + 1
  · rw [if_pos hc]
    have hm : O.length - (k + 1) = 0 := by omega
    obtain ⟨v', w', r1, r2, r3, r4⟩ := h.cut hb hl hk c
    rw [hm] at r1 ⊢
    obtain ⟨i, hi, hz0, hz1, hz2⟩ := info_parts info_pair
    rcases h with ⟨e, _⟩ | ⟨g', cap', cur, e, h1, h2, h3, h4, h5⟩
    · cases e
    injection e with e1 e2 e3
    injection e1 with e1
    injection e1 with e1
    subst e1
    have s1 := run_append_room (P := Try.prog) w 42 42 46 i Try.underlying42 hi g k k cur h2 ⟨g, (k + 1) * 2, none⟩ 0 c [] (by simp) (fun j u hj => by simp at hj) (fun u hu => by simp at hu) (Nat.le_refl _) (by rw [hz1]; simp; omega)
    have s2 := run_append_room (P := Try.prog) w 42 42 46 i Try.underlying42 hi g k k cur h2 ⟨g, 0, none⟩ 0 c [] (by simp) (fun j u hj => by simp at hj) (fun u hu => by simp at hu) (Nat.le_refl _) (by rw [hz1]; simp; omega)
    exact ⟨v', w', by rw [s2, ← s1]; exact r1, r2, r3, r4⟩
  · rw [if_neg hc]
    exact h.cut hb hl hk c
end Go.Proofs.Ythelfalmjihkdaa
