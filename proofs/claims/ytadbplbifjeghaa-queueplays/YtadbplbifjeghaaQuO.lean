
/- Rows of a chain's nodes of the call's own (layer 23). No statement of the seat is proved here. -/
import Derived.Test.YtadbplbifjeghaaQuT
import Derived.Laws.CopyRow
import Derived.Laws.Tables
namespace Go.Proofs.Ytadbplbifjeghaa
open Go.RowKit

theorem info_pair : (Try.prog.info? 84).map (fun i => (i.zero, i.size, i.bytes)) = some (some (.agg #[.int .u64 0, .int .u64 0]), 2, 16) := by kernel_rfl
/-- Pairs as cells. -/
def pcs (O : List (Int × Int)) : List Value := O.flatMap fun p => [.int .u64 p.1, .int .u64 p.2]
theorem pcs_len (O : List (Int × Int)) : (pcs O).length = O.length * 2 := by
  induction O with
  | nil => rfl
  | cons p O ih => simp only [pcs, List.flatMap_cons, List.length_append, List.length_cons, List.length_nil] at ih ⊢; omega
theorem pcs_append (a b : List (Int × Int)) : pcs (a ++ b) = pcs a ++ pcs b := by unfold pcs; rw [List.flatMap_append]
theorem pcs_get : ∀ (O : List (Int × Int)) (k : Nat) (p : Int × Int), O[k]? = some p → (pcs O)[k * 2]? = some (.int .u64 p.1) ∧ (pcs O)[k * 2 + 1]? = some (.int .u64 p.2)
  | [], k, p, h => by simp at h
  | q :: O, 0, p, h => by
    simp at h
    subst h
    simp [pcs]
  | q :: O, k + 1, p, h => by
    have ih := pcs_get O k p (by simpa using h)
    have e : pcs (q :: O) = .int .u64 q.1 :: .int .u64 q.2 :: pcs O := by simp [pcs]
    rw [e, show (k + 1) * 2 = k * 2 + 1 + 1 by omega, show k * 2 + 1 + 1 + 1 = (k * 2 + 1) + 1 + 1 by omega]
    simpa using ih
theorem pcs_one (O : List (Int × Int)) : ∀ u ∈ pcs O, u.oneCell' = true := fun u hu => by
  unfold pcs at hu
  obtain ⟨p, _, hp⟩ := List.mem_flatMap.1 hu
  simp at hp
  rcases hp with rfl | rfl <;> rfl
theorem pcs_take (O : List (Int × Int)) (k : Nat) : (pcs O).take (k * 2) = pcs (O.take k) := by
  induction k generalizing O with
  | zero => simp [pcs]
  | succ k ih =>
    cases O with
    | nil => simp [pcs]
    | cons p O =>
      have e : pcs (p :: O) = .int .u64 p.1 :: .int .u64 p.2 :: pcs O := by simp [pcs]
      have e2 : pcs (p :: O.take k) = .int .u64 p.1 :: .int .u64 p.2 :: pcs (O.take k) := by simp [pcs]
      rw [e, List.take_succ_cons, e2, show (k + 1) * 2 = k * 2 + 1 + 1 by omega]
      simp [ih]
theorem pcs_drop (O : List (Int × Int)) (k : Nat) : (pcs O).drop (k * 2) = pcs (O.drop k) := by
  induction k generalizing O with
  | zero => simp
  | succ k ih =>
    cases O with
    | nil => simp [pcs]
    | cons p O =>
      have e : pcs (p :: O) = .int .u64 p.1 :: .int .u64 p.2 :: pcs O := by simp [pcs]
      rw [e, List.drop_succ_cons, show (k + 1) * 2 = k * 2 + 1 + 1 by omega]
      simp [ih]

/-- A row of pairs of the call's own. -/
def Ow (w : World) (base : Nat) (v : Value) (O : List (Int × Int)) : Prop :=
  (v = .slice none 0 0 ∧ O = []) ∨ ∃ g cap cur, v = .slice (some ⟨g, 0, none⟩) O.length cap ∧ base ≤ g ∧ w.heap[g]? = some (.cells cur 84 (0, 0)) ∧ O.length ≤ cap ∧ cap * 2 ≤ cur.size ∧ cur.toList.take (O.length * 2) = pcs O
theorem Ow.nil (w : World) (base : Nat) : Ow w base (.slice none 0 0) [] := .inl ⟨rfl, rfl⟩
theorem Ow.keeps {w w' : World} {base : Nat} {v : Value} {O : List (Int × Int)} {S : Nat → Prop} (h : Ow w base v O) (k : Keeps S w w') (hs : ∀ g, v.ownBlock = some g → ¬ S g) : Ow w' base v O := by
  rcases h with h | ⟨g, cap, cur, rfl, h1, h2, h3⟩
  · exact .inl h
  · exact .inr ⟨g, cap, cur, rfl, h1, (k.block g (lt_of_block h2) (hs g rfl)).trans h2, h3⟩
theorem Ow.own {w : World} {base : Nat} {v : Value} {O : List (Int × Int)} (h : Ow w base v O) {g : Nat} (hg : v.ownBlock = some g) : g < w.heap.size ∧ base ≤ g := by
  rcases h with ⟨rfl, _⟩ | ⟨g', cap, cur, rfl, h1, h2, _⟩
  · cases hg
  · cases hg; exact ⟨lt_of_block h2, h1⟩
theorem Ow.form {w : World} {base : Nat} {v : Value} {O : List (Int × Int)} (h : Ow w base v O) : ∃ a c, v = .slice a O.length c := by
  rcases h with ⟨rfl, rfl⟩ | ⟨g', cap, cur, rfl, _⟩
  · exact ⟨_, _, rfl⟩
  · exact ⟨_, _, rfl⟩
/-- A pair's cells. -/
theorem Ow.at {w : World} {base : Nat} {v : Value} {O : List (Int × Int)} (h : Ow w base v O) {k : Nat} {p : Int × Int} (hk : O[k]? = some p) : ∃ g cap, v = .slice (some ⟨g, 0, none⟩) O.length cap ∧ w.cell? ⟨g, k * 2, none⟩ = some (.int .u64 p.1) ∧ w.cell? ⟨g, k * 2 + 1, none⟩ = some (.int .u64 p.2) := by
  have hlt := (List.getElem?_eq_some_iff.1 hk).1
  rcases h with ⟨_, rfl⟩ | ⟨g, cap, cur, rfl, h1, h2, h3, h4, h5⟩
  · simp at hlt
  · have q := pcs_get O k p hk
    rw [← h5, List.getElem?_take_of_lt (by omega), List.getElem?_take_of_lt (by omega)] at q
    exact ⟨g, cap, rfl, by rw [cell_of_block h2]; simpa using q.1, by rw [cell_of_block h2]; simpa using q.2⟩
theorem fit_pair {n : Nat} (h : n < 8796093022208) : n * 16 ≤ 140737488355328 := by omega
theorem setRow_keeps {w : World} (g : Nat) (cs : Array Value) : Keeps (fun k => k = g) w (w.setRow g cs) := ⟨rfl, rfl, rfl, by simp, fun k _ hk => setRow_other w g k cs hk⟩

set_option maxRecDepth 100000 in
/-- One more. -/
theorem Ow.push {w : World} {base : Nat} {v : Value} {O : List (Int × Int)} (h : Ow w base v O) (hb : base ≤ w.heap.size) (hl : O.length + 1 < 8796093022208) (p : Int × Int) :
    ∃ v' w', (Builtin.append_ #[80, 80] 80 #[v, .slice (some ⟨w.heap.size, 0, none⟩) 1 1]).run Try.prog (w.alloc (.cells #[.int .u64 p.1, .int .u64 p.2] 84)) = .ok v' w' ∧ Ow w' base v' (O ++ [p]) ∧ Keeps (fun g => v.ownBlock = some g) w w' ∧ (∀ g, v'.ownBlock = some g → v.ownBlock = some g ∨ w.heap.size ≤ g) := by
  obtain ⟨i, hi, hz0, hz1, hz2⟩ := info_parts info_pair
  have hu : ∀ (j : Nat) (u : Value), (pcs [p])[j]? = some u → (w.alloc (.cells #[.int .u64 p.1, .int .u64 p.2] 84)).cell? ((⟨w.heap.size, 0, none⟩ : Addr).add j) = some u := fun j u hj => by
    rw [addr_add, Nat.zero_add, cell_of_block (alloc_block w _)]
    simpa [pcs] using hj
  rcases h with ⟨rfl, rfl⟩ | ⟨g, cap, cur, rfl, h1, h2, h3, h4, h5⟩
  · obtain ⟨v', w', r1, r2, r3, r4⟩ := own_push (P := Try.prog) (w.alloc (.cells #[.int .u64 p.1, .int .u64 p.2] 84)) base 80 80 84 _ 2 16 Try.underlying80 info_pair rfl (by decide) (.slice none 0 0) 0 [] ⟨rfl, .inl ⟨rfl, rfl⟩⟩ ⟨w.heap.size, 0, none⟩ 1 1 (pcs [p]) rfl hu (pcs_one _) (by omega) (by decide) (by simp; omega)
    have kk : Keeps (fun g => (Value.slice none 0 0).ownBlock = some g) w w' := ((Keeps.refl _ w).alloc _).step (keeps_grown r3) (fun _ _ e => e)
    refine ⟨v', w', r1, ?_, kk, fun q hq => ?_⟩
    · rcases id r2.2 with ⟨rfl, e⟩ | ⟨g, cap, cur, rfl, q1, q2, q3, q4, q5, q6⟩
      · omega
      · exact .inr ⟨g, cap, cur, rfl, q1, q2, q3, by omega, q6⟩
    · rcases r4 with r4 | r4
      · rw [r4] at hq; exact .inl hq
      · exact .inr (by have := r4 q hq; simp at this; omega)
  · have hg0 := lt_of_block h2
    have h2' : (w.alloc (.cells #[.int .u64 p.1, .int .u64 p.2] 84)).heap[g]? = some (.cells cur 84 (0, 0)) := (Below.heap_alloc _ _ _ hg0).trans h2
    by_cases hc : O.length + 1 ≤ cap
    · have s1 := run_append_room (P := Try.prog) (w.alloc (.cells #[.int .u64 p.1, .int .u64 p.2] 84)) 80 80 84 i Try.underlying80 hi g O.length cap cur h2' ⟨w.heap.size, 0, none⟩ 1 1 (pcs [p]) (by rw [hz1]; rfl) hu (pcs_one _) hc (by rw [hz1, pcs_len]; simp; omega)
      refine ⟨_, _, s1, .inr ⟨g, cap, _, by simp, h1, setRow_heap _ g cur _ _ _ h2', by simpa using hc, ?_, ?_⟩, ?_, fun q hq => .inl hq⟩
      · simp [hz1, pcs_len]; omega
      · rw [hz1, pcs_append, List.length_append]
        simp only [List.length_singleton]
        rw [h5, List.append_assoc, show (O.length + 1) * 2 = (pcs O ++ pcs [p]).length by rw [List.length_append, pcs_len, pcs_len]; simp; omega, ← List.append_assoc, List.take_left]
      · exact ((Keeps.refl _ w).alloc _).step (setRow_keeps g _) (fun q _ e => by subst e; rfl)
    · have s1 := run_append_grow (P := Try.prog) (w.alloc (.cells #[.int .u64 p.1, .int .u64 p.2] 84)) 80 80 84 i _ Try.underlying80 hi hz0 ⟨g, 0, none⟩ O.length cap (pcs O) (by rw [hz1, pcs_len]) (fun j u hj => by
        have hlt : j < O.length * 2 := by have := (List.getElem?_eq_some_iff.1 hj).1; rwa [pcs_len] at this
        rw [addr_add, Nat.zero_add, cell_of_block h2']
        rw [← h5, List.getElem?_take_of_lt hlt] at hj
        simpa using hj) ⟨w.heap.size, 0, none⟩ 1 1 (pcs [p]) (by rw [hz1]; rfl) hu (by omega) (by omega) (growslice_fits (by omega) (by rw [hz2]; exact fit_pair hl))
      have hge := grownCap_ge (w.alloc (.cells #[.int .u64 p.1, .int .u64 p.2] 84)) (O.length + 1) cap 84
      refine ⟨_, _, s1, .inr ⟨_, _, _, by simp; rfl, ?_, alloc_block (World.drew _) _, by simpa using hge, ?_, ?_⟩, ((Keeps.refl _ w).alloc _).drew.alloc _, fun q hq => .inr ?_⟩
      · simp; omega
      · have z2 : (Value.agg #[.int .u64 0, .int .u64 0]).cells.size = 2 := rfl
        simp only [Array.size_append, List.size_toArray, pcs_len, Builtin.zeroCells, z2]
        simp
        omega
      · rw [pcs_append]
        simp only [Array.toList_append]
        rw [show (O ++ [p]).length * 2 = (pcs O ++ pcs [p]).length by rw [← pcs_append, pcs_len], List.take_left]
      · simp [Value.ownBlock] at hq; omega

theorem Ow.base {w : World} {base base' : Nat} {v : Value} {O : List (Int × Int)} (h : Ow w base v O) (hb : base' ≤ base) : Ow w base' v O := by
  rcases h with h | ⟨g, cap, cur, h0, h1, h2⟩
  · exact .inl h
  · exact .inr ⟨g, cap, cur, h0, Nat.le_trans hb h1, h2⟩
theorem Ow.kept {w w' : World} {base : Nat} {v : Value} {O : List (Int × Int)} {S : Nat → Prop} (h : Ow w base v O) (k : Keeps S w w') (hs : ∀ g, S g → g < base) : Ow w' base v O :=
  h.keeps k (fun g hg hS => by have := hs g hS; have := (h.own hg).2; omega)
end Go.Proofs.Ytadbplbifjeghaa
