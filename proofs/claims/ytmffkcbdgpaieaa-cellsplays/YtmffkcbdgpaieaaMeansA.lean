/-
  What the accesses of a row return at an address that is there, and at one that is not (for the law CellsMeans); slices of addresses with words. No statement of the seat is proved here.
-/
import Derived.Test.YtmffkcbdgpaieaaMath
import Derived.Test.YtmffkcbdgpaieaaOf
import Derived.Test.YtmffkcbdgpaieaaDiffer
import Derived.Test.YtmffkcbdgpaieaaKnown
namespace Go.Proofs.Ytmffkcbdgpaieaa
open Go.RowKit

theorem store_in (b c : Nat) (ws : List Int) (n a v : Int) (w : World) (h : RowAt w 74 36 b c ws n) (h0 : 0 ≤ a) (ha : a < (ws.length : Int)) : Calls Try.prog 24 #[.pointer (some ⟨b, 0, none⟩), .int .u64 a, .int .u64 v] w fun e w' => e = .returned (.int .i64 0) ∧ RowAt w' 74 36 b c (putAt ws a v) (more n) ∧ Keeps (fun k => k = b ∨ k = c) w w' := by
  have h' := store_at b c ws n a v w h h0
  rw [show errAt ws.length a = 0 from if_pos ha] at h'
  exact h'
theorem store_out (b c : Nat) (ws : List Int) (n a v : Int) (w : World) (h : RowAt w 74 36 b c ws n) (h0 : 0 ≤ a) (ha : ¬ a < (ws.length : Int)) : Calls Try.prog 24 #[.pointer (some ⟨b, 0, none⟩), .int .u64 a, .int .u64 v] w fun e w' => e = .returned (.int .i64 4) ∧ RowAt w' 74 36 b c (putAt ws a v) (more n) ∧ Keeps (fun k => k = b ∨ k = c) w w' := by
  have h' := store_at b c ws n a v w h h0
  rw [show errAt ws.length a = 4 from if_neg ha] at h'
  exact h'
theorem load_in (b c : Nat) (ws : List Int) (n a v : Int) (w : World) (h : RowAt w 74 36 b c ws n) (h0 : 0 ≤ a) (ha : a < (ws.length : Int)) (hv : wordAt ws a = v) : Calls Try.prog 29 #[.pointer (some ⟨b, 0, none⟩), .int .u64 a] w fun e w' => e = .returned (.tuple #[.int .u64 v, .int .i64 0]) ∧ RowAt w' 74 36 b c ws (more n) ∧ Keeps (fun k => k = b ∨ k = c) w w' := by
  have h' := load_at b c ws n a w h h0
  rw [show errAt ws.length a = 0 from if_pos ha, hv] at h'
  exact h'
theorem load_out (b c : Nat) (ws : List Int) (n a : Int) (w : World) (h : RowAt w 74 36 b c ws n) (h0 : 0 ≤ a) (ha : ¬ a < (ws.length : Int)) : Calls Try.prog 29 #[.pointer (some ⟨b, 0, none⟩), .int .u64 a] w fun e w' => e = .returned (.tuple #[.int .u64 0, .int .i64 4]) ∧ RowAt w' 74 36 b c ws (more n) ∧ Keeps (fun k => k = b ∨ k = c) w w' := by
  have h' := load_at b c ws n a w h h0
  rw [show errAt ws.length a = 4 from if_neg ha, show wordAt ws a = 0 from if_neg ha] at h'
  exact h'
theorem swap_in (b c : Nat) (ws : List Int) (n a v : Int) (w : World) (h : RowAt w 74 36 b c ws n) (h0 : 0 ≤ a) (o : Int) (ha : a < (ws.length : Int)) (hv : wordAt ws a = v) (hvo : (v == o) = false) (u : Int) : Calls Try.prog 30 #[.pointer (some ⟨b, 0, none⟩), .int .u64 a, .int .u64 o, .int .u64 u] w fun e w' => e = .returned (.tuple #[.bool false, .int .i64 0]) ∧ RowAt w' 74 36 b c ws (more n) ∧ Keeps (fun k => k = b ∨ k = c) w w' := by
  have h' := swap_at b c ws n a o u w h h0
  have hw : ws[a.toNat]?.getD 0 = v := by rw [← hv]; exact (if_pos ha).symm
  rw [show errAt ws.length a = 0 from if_pos ha, show swaps ws a o = false from by unfold swaps; rw [hw, hvo]; simp, if_neg (by simp)] at h'
  exact h'
theorem swap_out (b c : Nat) (ws : List Int) (n a : Int) (w : World) (h : RowAt w 74 36 b c ws n) (h0 : 0 ≤ a) (o : Int) (ha : ¬ a < (ws.length : Int)) (u : Int) : Calls Try.prog 30 #[.pointer (some ⟨b, 0, none⟩), .int .u64 a, .int .u64 o, .int .u64 u] w fun e w' => e = .returned (.tuple #[.bool false, .int .i64 4]) ∧ RowAt w' 74 36 b c ws (more n) ∧ Keeps (fun k => k = b ∨ k = c) w w' := by
  have h' := swap_at b c ws n a o u w h h0
  rw [show errAt ws.length a = 4 from if_neg ha, show swaps ws a o = false from by simp [swaps, ha], if_neg (by simp)] at h'
  exact h'

theorem wordAt_put (ws : List Int) (a v : Int) (h0 : 0 ≤ a) (ha : a < (ws.length : Int)) : wordAt (putAt ws a v) a = v := by
  unfold wordAt
  rw [putAt_len, if_pos ha]
  unfold putAt
  rw [if_pos ha, List.getElem?_set_self (by omega)]
  rfl
theorem succ_ne (v : Int) : (v == IntKind.u64.wrap (v + 1)) = false := by
  rw [wrap_u64, beq_eq_false_iff_ne]
  omega

/-- A slice of addresses with words, as it stands in memory. -/
def Pairs (w : World) (sp : Option Addr) (cs : List (Int × Int)) : Prop := ∀ i, i < cs.length → ∃ b o, sp = some ⟨b, o, none⟩ ∧ w.cell? ⟨b, o + i * 2, none⟩ = some (.int .u64 (cs[i]?.getD (0, 0)).1) ∧ w.cell? ⟨b, o + i * 2 + 1, none⟩ = some (.int .u64 (cs[i]?.getD (0, 0)).2)
theorem Pairs.kept {w w' : World} {sp : Option Addr} {cs : List (Int × Int)} (h : Pairs w sp cs) {S : Nat → Prop} (k : Keeps S w w') (hS : ∀ b o s, sp = some ⟨b, o, s⟩ → ¬ S b) : Pairs w' sp cs := fun i hi => by
  obtain ⟨b, o, rfl, h1, h2⟩ := h i hi
  have hb := hS b o none rfl
  have e := k.block b (World.block_lt_of_cell? _ _ h1) hb
  exact ⟨b, o, rfl, (World.cell?_of_block (w := w) (a := ⟨b, o + i * 2, none⟩) e).trans h1, (World.cell?_of_block (w := w) (a := ⟨b, o + i * 2 + 1, none⟩) e).trans h2⟩
theorem Pairs.lt {w : World} {sp : Option Addr} {cs : List (Int × Int)} (h : Pairs w sp cs) (hc : 0 < cs.length) : ∀ b o s, sp = some ⟨b, o, s⟩ → b < w.heap.size := fun b o s e => by
  obtain ⟨b', o', e', h1, _⟩ := h 0 hc
  rw [e] at e'
  cases e'
  exact World.block_lt_of_cell? _ _ h1

/-- What Differ answers, as a slice of addresses with words. -/
theorem pairs_own {w : World} {base : Nat} {v : Value} {l : List (Nat × Int)} (h : w.ownsRow base 58 2 v l.length (cellsV l)) : ∃ sp cap, v = .slice sp l.length cap ∧ Pairs w sp (asInts l) ∧ ∀ b o s, sp = some ⟨b, o, s⟩ → base ≤ b ∧ b < w.heap.size := by
  rcases h.2 with ⟨rfl, h0⟩ | ⟨g, cap, cur, rfl, h1, h2, h3, h4, h5, h6⟩
  · exact ⟨none, 0, by rw [h0], fun i hi => by simp [asInts] at hi; omega, fun b o s e => by cases e⟩
  · refine ⟨_, cap, rfl, fun i hi => ⟨g, 0, rfl, ?_⟩, fun b o s e => by cases e; exact ⟨h1, lt_of_block h2⟩⟩
    have hi' : i < l.length := by simpa [asInts] using hi
    have hg : ∀ j, j < l.length * 2 → cur[j]? = (cellsV l)[j]? := fun j hj => by
      rw [← h6, List.getElem?_take_of_lt hj]
      simp
    have hv : ∀ (m : List (Nat × Int)) (j : Nat), j < m.length → (cellsV m)[j * 2]? = some (.int .u64 ((asInts m)[j]?.getD (0, 0)).1) ∧ (cellsV m)[j * 2 + 1]? = some (.int .u64 ((asInts m)[j]?.getD (0, 0)).2) := fun m => by
      induction m with
      | nil => intro j hj; simp at hj
      | cons x m ih =>
        intro j hj
        cases j with
        | zero => simp [cellsV, asInts]
        | succ j =>
          have := ih j (by simpa using hj)
          rw [show (j + 1) * 2 = j * 2 + 1 + 1 by omega]
          simpa [cellsV, asInts] using this
    rw [cell_of_block h2, cell_of_block h2, Nat.zero_add, hg _ (by omega), hg _ (by omega)]
    exact hv l i hi'

end Go.Proofs.Ytmffkcbdgpaieaa
