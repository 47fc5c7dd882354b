
/- Rows of words that begin anywhere in their block, and a queue of the document's as it lies (layer 23). No statement of the seat is proved here. -/
import Derived.Test.YtadbplbifjeghaaQxE
import Derived.Deep.AppendSrc
namespace Go.Proofs.Ytadbplbifjeghaa
open Go.RowKit

/-- The block in which a slice lies. -/
def vb : Value → Option Nat
  | .slice (some a) _ _ => some a.block
  | _ => none
def Rw (w : World) (v : Value) (l : List Int) : Prop := (v = .slice none 0 0 ∧ l = []) ∨ ∃ g off cap cur, v = .slice (some ⟨g, off, none⟩) l.length cap ∧ w.heap[g]? = some (.cells cur 33 (0, 0)) ∧ l.length ≤ cap ∧ off + cap ≤ cur.size ∧ ∀ i, i < l.length → cur[off + i]? = some (.int .u64 (oat l i))
section
variable {w w' : World} {v : Value} {l : List Int}
theorem Rw.nil (w : World) : Rw w (.slice none 0 0) [] := .inl ⟨rfl, rfl⟩
theorem Rw.lt (h : Rw w v l) {g : Nat} (hg : vb v = some g) : g < w.heap.size := by
  rcases h with ⟨rfl, _⟩ | ⟨g', off, cap, cur, rfl, h1, _⟩
  · cases hg
  · cases hg; exact lt_of_block h1
theorem Rw.keeps {S : Nat → Prop} (h : Rw w v l) (k : Keeps S w w') (hs : ∀ g, vb v = some g → ¬ S g) : Rw w' v l := by
  rcases h with h | ⟨g, off, cap, cur, rfl, h1, h2⟩
  · exact .inl h
  · exact .inr ⟨g, off, cap, cur, rfl, (k.block g (lt_of_block h1) (hs g rfl)).trans h1, h2⟩
theorem Rw.lies (h : Rw w v l) : Lies w v l := by
  rcases h with ⟨rfl, rfl⟩ | ⟨g, off, cap, cur, rfl, h1, h2, h3, h4⟩
  · exact ⟨none, 0, rfl, fun i hi => by simp at hi⟩
  · exact ⟨_, cap, rfl, fun i hi => ⟨g, off, rfl, by rw [cell_of_block h1]; exact h4 i hi⟩⟩
theorem Rw.form (h : Rw w v l) : ∃ a c, v = .slice a l.length c := h.lies.form
/-- Its first word taken off. -/
theorem Rw.cut {x : Int} (h : Rw w v (x :: l)) : ∃ g off cap, v = .slice (some ⟨g, off, none⟩) (l.length + 1) cap ∧ 1 ≤ cap ∧ w.cell? ⟨g, off, none⟩ = some (.int .u64 x) ∧ Rw w (.slice (if cap = 1 then some ⟨g, off, none⟩ else some ⟨g, off + 1, none⟩) l.length (cap - 1)) l := by
  rcases h with ⟨_, h⟩ | ⟨g, off, cap, cur, rfl, h1, h2, h3, h4⟩
  · cases h
  · have h2' : l.length + 1 ≤ cap := h2
    refine ⟨g, off, cap, rfl, by omega, by rw [cell_of_block h1]; exact h4 0 (by simp), ?_⟩
    by_cases hc : cap = 1
    · have hl : l = [] := List.eq_nil_of_length_eq_zero (by omega)
      subst hl
      rw [if_pos hc]
      exact .inr ⟨g, off, cap - 1, cur, rfl, h1, by simp, by omega, fun i hi => by simp at hi⟩
    · rw [if_neg hc]
      refine .inr ⟨g, off + 1, cap - 1, cur, rfl, h1, by omega, by omega, fun i hi => ?_⟩
      have q := h4 (i + 1) (by simp; omega)
      rw [show off + 1 + i = off + (i + 1) by omega, q]
      simp [oat]
set_option maxRecDepth 100000 in
/-- One word more. -/
theorem Rw.push (h : Rw w v l) (hl : l.length < 100000) (x : Int) :
    ∃ v' w', (Builtin.append_ #[36, 36] 36 #[v, .slice (some ⟨w.heap.size, 0, none⟩) 1 1]).run Try.prog (w.alloc (.cells #[.int .u64 x] 33)) = .ok v' w' ∧ Rw w' v' (l ++ [x]) ∧ Keeps (fun g => vb v = some g) w w' ∧ (∀ g, vb v' = some g → vb v = some g ∨ w.heap.size ≤ g) := by
  obtain ⟨i, hi, hz0, hz1, hz2⟩ := info_parts info_word
  have hu : ∀ (j : Nat) (u : Value), ([.int .u64 x] : List Value)[j]? = some u → (w.alloc (.cells #[.int .u64 x] 33)).cell? ((⟨w.heap.size, 0, none⟩ : Addr).add j) = some u := fun j u hj => by
    rw [addr_add, Nat.zero_add, cell_of_block (alloc_block w _)]
    simpa using hj
  have hsz : (w.alloc (.cells #[.int .u64 x] 33)).heap.size = w.heap.size + 1 := by simp
  rcases h with ⟨rfl, rfl⟩ | ⟨g, off, cap, cur, rfl, h1, h2, h3, h4⟩
  · have s1 := run_append_nil (P := Try.prog) (w.alloc (.cells #[.int .u64 x] 33)) 36 36 33 i _ Try.underlying36 hi hz0 ⟨w.heap.size, 0, none⟩ 1 1 [.int .u64 x] (by rw [hz1]; rfl) hu (by omega) (by omega) (by rw [hz2]; omega)
    have hge := grownCap_ge (w.alloc (.cells #[.int .u64 x] 33)) 1 0 33
    refine ⟨_, _, s1, .inr ⟨_, 0, _, _, rfl, alloc_block (World.drew _) _, by simpa using hge, ?_, fun j hj => ?_⟩, ((Keeps.refl _ w).alloc _).drew.alloc _, fun q hq => .inr ?_⟩
    · have z2 : (Value.int .u64 0).cells.size = 1 := rfl
      simp only [Array.size_append, List.size_toArray, Builtin.zeroCells, z2]
      simp
      omega
    · obtain rfl : j = 0 := by simpa using hj
      rw [Array.getElem?_append_left (by simp)]
      simp [oat]
    · simp only [vb] at hq
      injection hq with hq
      rw [← hq, hsz]; omega
  · have hg0 := lt_of_block h1
    have h1' : (w.alloc (.cells #[.int .u64 x] 33)).heap[g]? = some (.cells cur 33 (0, 0)) := (Below.heap_alloc _ _ _ hg0).trans h1
    have hsrc : Src Try.prog i.size 36 (.slice (some ⟨w.heap.size, 0, none⟩) 1 1) 1 [.int .u64 x] (w.alloc (.cells #[.int .u64 x] 33)) := Src.ofSlice _ Try.underlying36 _ 1 1 _ (by rw [hz1]; rfl) hu (fun u hu => by simp at hu; subst hu; rfl)
    by_cases hc : l.length + 1 ≤ cap
    · have s1 := run_append_room_src (P := Try.prog) (w.alloc (.cells #[.int .u64 x] 33)) 36 36 36 33 i Try.underlying36 hi g off l.length cap _ 1 _ hsrc hc (fun j hj => by
        obtain rfl : j = 0 := by simpa using hj
        rw [cell_of_block h1', hz1, Nat.add_zero, Nat.mul_one]
        have : off + l.length < cur.size := by omega
        simp [this]) (fun j hj => frozen_of_block h1' _)
      rw [hz1, Nat.mul_one] at s1
      have e1 : (w.alloc (.cells #[.int .u64 x] 33)).setCells g (off + l.length) [.int .u64 x] = (w.alloc (.cells #[.int .u64 x] 33)).setCell ⟨g, off + l.length, none⟩ (.int .u64 x) := rfl
      rw [e1] at s1
      refine ⟨_, _, s1, .inr ⟨g, off, cap, _, by simp, block_set h1' _ _, by simpa using hc, by simpa using h3, fun j hj => ?_⟩, ((Keeps.refl (fun q => vb (Value.slice (some ⟨g, off, none⟩) l.length cap) = some q) w).alloc _).setCell (p := ⟨g, off + l.length, none⟩) (.inr rfl) _, fun q hq => .inl hq⟩
      rw [Array.getElem?_setIfInBounds]
      by_cases e : off + l.length = off + j
      · have hj' : j = l.length := by omega
        subst hj'
        simp [show off + l.length < cur.size by omega, oat]
      · have hj' : j < l.length := by simp at hj; omega
        rw [if_neg e, h4 j hj']
        unfold oat
        rw [List.getElem?_append_left hj']
    · have s1 := run_append_grow (P := Try.prog) (w.alloc (.cells #[.int .u64 x] 33)) 36 36 33 i _ Try.underlying36 hi hz0 ⟨g, off, none⟩ l.length cap (wordsV l) (by rw [hz1]; simp [wordsV]) (fun j u hj => by
        have hlt : j < l.length := by have := (List.getElem?_eq_some_iff.1 hj).1; simpa [wordsV] using this
        rw [addr_add, cell_of_block h1', h4 j hlt, ← hj]
        simp [wordsV, oat, hlt]) ⟨w.heap.size, 0, none⟩ 1 1 [.int .u64 x] (by rw [hz1]; rfl) hu (by omega) (by omega) (growslice_fits (by omega) (by rw [hz2]; omega))
      have hge := grownCap_ge (w.alloc (.cells #[.int .u64 x] 33)) (l.length + 1) cap 33
      refine ⟨_, _, s1, .inr ⟨_, 0, _, _, by simp; rfl, alloc_block (World.drew _) _, by simpa using hge, ?_, fun j hj => ?_⟩, ((Keeps.refl _ w).alloc _).drew.alloc _, fun q hq => .inr ?_⟩
      · have z2 : (Value.int .u64 0).cells.size = 1 := rfl
        simp only [Array.size_append, List.size_toArray, Builtin.zeroCells, z2, wordsV]
        simp
        omega
      · rw [Nat.zero_add]
        have hjl : j < l.length + 1 := by simpa using hj
        rw [Array.getElem?_append_left (by simp [wordsV]; omega)]
        by_cases e : j < l.length
        · rw [Array.getElem?_append_left (by simpa [wordsV] using e)]
          simp [wordsV, oat, e]
          rw [List.getElem?_append_left e]
          simp [e]
        · obtain rfl : j = l.length := by omega
          rw [Array.getElem?_append_right (by simp [wordsV])]
          simp [wordsV, oat]
      · simp only [vb] at hq
        injection hq with hq
        rw [← hq, hsz]; omega
end
end Go.Proofs.Ytadbplbifjeghaa
