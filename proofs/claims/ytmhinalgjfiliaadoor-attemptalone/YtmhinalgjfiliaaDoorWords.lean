
/-
  Rows of words of the call's own, and the walk of the document's SameWords. No statement of the seat is proved here.
-/
import Derived.Test.YtmhinalgjfiliaaDoorTabC
import Derived.WalkSpells
import Derived.OpenShut
namespace Go.Proofs.YtmhinalgjfiliaaDoor
open Go.RowKit Go.Shelf

theorem info_word : (Tryd.prog.info? 34).map (fun i => (i.zero, i.size, i.bytes)) = some (some (.int .u64 0), 1, 8) := by kernel_rfl
theorem run_words (n : Nat) (hn : n ≤ 35184372088832) (w : World) : (Instr.makeSlice 22 (.int .i64 0) (.int .i64 n)).run Tryd.prog w =
    .ok (.slice (some ⟨w.heap.size, 0, none⟩) 0 n) (w.alloc (.cells (madeCells #[.int .u64 0] n) 34)) := by
  obtain ⟨i0, hi, hz0, hz1, hz2⟩ := info_parts info_word
  have h := run_make (P := Tryd.prog) w 22 34 i0 _ Tryd.underlying22 hi hz0 .i64 .i64 0 n (by omega) (by omega) (by rw [hz2]; omega) (by omega)
  rw [h, hz1, Int.toNat_natCast, Nat.mul_one]
  rfl

/-- Words as values. -/
def wordsV (l : List Int) : List Value := l.map fun x => .int .u64 x


/-- A slice that reads as these words. -/
def Lies (w : World) (v : Value) (xs : List Int) : Prop := ∃ a c, v = .slice a xs.length c ∧ ∀ i, i < xs.length → ∃ g off, a = some ⟨g, off, none⟩ ∧ w.cell? ⟨g, off + i, none⟩ = some (.int .u64 (oat xs i))
/-- The same, and it is not too long. -/
def Reads (w : World) (v : Value) (xs : List Int) : Prop := xs.length ≤ 35184372088832 ∧ Lies w v xs

theorem reads_own {w : World} {base : Nat} {v : Value} {xs : List Int} (hl : xs.length ≤ 35184372088832) (h : w.ownsRow base 34 1 v xs.length (wordsV xs)) : Reads w v xs := by
  refine ⟨hl, ?_⟩
  rcases h.2 with ⟨h1, h2⟩ | ⟨g, cap, cur, rfl, hb, hg, hc, hm, hs, ht⟩
  · exact ⟨none, 0, by rw [h1, h2], fun i hi => by omega⟩
  · refine ⟨_, cap, rfl, fun i hi => ⟨g, 0, rfl, ?_⟩⟩
    rw [Nat.zero_add, World.ownsRow.cellAt h i (by omega)]
    simp [wordsV, oat, hi]
theorem Reads.below {w w' : World} {v : Value} {xs : List Int} (h : Reads w v xs) (hb : Below w.heap.size w w') : Reads w' v xs := by
  obtain ⟨h1, a, c, hv, hc⟩ := h
  refine ⟨h1, a, c, hv, fun i hi => ?_⟩
  obtain ⟨g, off, ha, hcell⟩ := hc i hi
  exact ⟨g, off, ha, (hb.cell (p := ⟨g, off + i, none⟩) (World.block_lt_of_cell? _ _ hcell)).trans hcell⟩
theorem Reads.form {w : World} {v : Value} {xs : List Int} (h : Reads w v xs) : ∃ a c, v = .slice a xs.length c := by
  obtain ⟨_, a, c, hv, _⟩ := h
  exact ⟨a, c, hv⟩
theorem Reads.at {w : World} {a : Option Addr} {n c : Nat} {xs : List Int} (h : Reads w (.slice a n c) xs) {i : Nat} (hi : i < xs.length) : ∃ g off, a = some ⟨g, off, none⟩ ∧ w.cell? ⟨g, off + i, none⟩ = some (.int .u64 (oat xs i)) := by
  obtain ⟨_, a', c', hv, hc⟩ := h
  injection hv with e1 e2 e3
  subst e1
  exact hc i hi

/-- The worlds part in how much was drawn alone. -/
def Drew (w w' : World) : Prop := ∃ m, w' = w.drewN m
theorem Drew.refl (w : World) : Drew w w := ⟨0, rfl⟩
theorem Drew.like {w w' : World} (h : Drew w w') : Like w' w := by obtain ⟨m, rfl⟩ := h; exact like_drewN w m

set_option maxHeartbeats 400000 in
theorem same_at (va vb : Value) (a : List Int) (w : World) (ha : Reads w va a) (hb : Reads w vb a) :
    Calls Tryd.prog 30 #[va, vb] w fun e w' => e = .returned (.bool true) ∧ Drew w w' := by
  have hla := ha.1
  obtain ⟨aa, ca, rfl⟩ := ha.form
  obtain ⟨ab, cb, rfl⟩ := hb.form
  go_enter Tryd.func30, Tryd.ntmps30
  go_wp2_with fail
  go_loopw [5] (fun i wr => ∃ k : Nat, k ≤ a.length ∧ i = .int .i64 k ∧ Drew w wr) (fun i _ => a.length - (intOf i).toNat)
  case atStart => exact ⟨0, by omega, rfl, Drew.refl _⟩
  case round =>
    obtain ⟨k, hk, rfl, mm, rfl⟩ := hrel
    by_cases hlt : k < a.length
    · obtain ⟨g, off, rfl, d1⟩ := ha.at hlt
      obtain ⟨g', off', rfl, d2⟩ := hb.at hlt
      clear ha hb
      go_wp2_with fail
      go_quiet (fail)
      go_wp2_with fail
      go_roundw
      case rel => exact ⟨k + 1, by omega, by go_num, ⟨_, rfl⟩⟩
      case measure => simp [intOf]; omega
    · obtain rfl : k = a.length := by omega
      clear ha hb
      go_wp2_with fail
      go_ret
      exact ⟨rfl, ⟨_, rfl⟩⟩
end Go.Proofs.YtmhinalgjfiliaaDoor
