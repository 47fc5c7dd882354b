/-
  The law's plays once more, with whence the tables' blocks are. No statement of the seat is proved here.
-/
import Derived.Test.YtbhocajmcfdffaaDoorPlayA
namespace Go.Proofs.YtbhocajmcfdffaaDoor
open Go.RowKit Go.Shelf

set_option maxRecDepth 100000 in
set_option maxHeartbeats 1000000 in
theorem plays_putO (w W : World) (bt br p : Nat) (K : List (Option Int)) (O : List Int) (uf : Int → Int) (Ot Or : Nat → Prop) (h : Pair w W bt br p K O uf Ot Or) (hw : Tz w) (who to leave key value : Int) (hO : O.length < 4398046511104) :
    Calls Tryd.prog 14 #[.pointer (some ⟨bt, 0, none⟩), .pointer (some ⟨br, 0, none⟩), stepV 1 who to leave key value] W fun e W' => e = .returned (.bool true) ∧
      ∃ Ot' Or', Pair w W' bt br (putP p K O key).1 (putP p K O key).2 (putO O key) (upd uf key value) Ot' Or' ∧ Keeps (fun q => Ot q ∨ Or q) W W' ∧ ∀ q, Ot' q ∨ Or' q → (Ot q ∨ Or q) ∨ W.heap.size ≤ q := by
  have h1 := hw.pos'
  have hWA : W.heap.size ≤ (W.alloc (.cells (stepC 1 who to leave key value) 31)).heap.size := by simp
  obtain ⟨hA, hs, hnt, hnr⟩ := h.laid (.cells (stepC 1 who to leave key value) 31)
  have hkn := fun W1 W2 => keeps_both (W := W) (Ot := Ot) (Or := Or) (W1 := W1) (W2 := W2) (o := .cells (stepC 1 who to leave key value) 31)
  unfold stepV
  unfold stepC at *
  go_enter Tryd.func14, Tryd.ntmps14
  go_wp2_with fail
  generalize hN : W.heap.size = N at *
  have HN : Hid (W.heap.size = N) := hN
  clear hN
  generalize W.alloc (.cells #[.int .i64 1, .int .i64 who, .int .i64 to, .int .i64 leave, .int .u64 key, .int .u64 value] 31) = WA at *
  refine (U.hold_put bt p K O (wv uf) Ot key value WA hA.t (hw.below hA.below) (hA.post h1) (by omega)).mono ?_
  rintro e W1 ⟨rfl, ⟨Ot', hHt, hOt⟩, hK1⟩
  rw [upd_wv] at hHt
  rw [if_wv]
  obtain ⟨hr1, hb1⟩ := hA.mid hK1
  have hs1 := hK1.old hs hnt
  have c4 : W1.cell? ⟨N, 4, none⟩ = some (.int .u64 key) := cell_of_block hs1 4
  have c5 : W1.cell? ⟨N, 5, none⟩ = some (.int .u64 value) := cell_of_block hs1 5
  have hput := R.hold_put br p K O uf Or key value W1 hr1 hO
  generalize (if key ∈ O then uf key else 0) = V at *
  generalize decide (key ∈ O) = d at *
  go_wp2_with fail
  refine hput.mono ?_
  rintro e W2 ⟨rfl, ⟨Or', hHr, hOr⟩, hK2⟩
  have hP := hA.step hHt hOt hK1 hHr hOr hK2
  have hsl := U.hold_slots bt _ _ _ _ _ W2 hP.t
  have hrl := R.hold_slots br _ _ _ _ _ W2 hP.r
  have hfin := hkn W1 W2 hK1 hK2
  generalize 2 ^ (putP p K O key).1 = q at hsl hrl
  have hown : ∀ q, Ot' q ∨ Or' q → (Ot q ∨ Or q) ∨ N ≤ q := fun q hq => by
    have := hK1.size
    rcases hq with hq | hq
    · rcases hOt q hq with e | e
      · exact .inl (.inl e)
      · exact .inr (by omega)
    · rcases hOr q hq with e | e
      · exact .inl (.inr e)
      · exact .inr (by omega)
  clear hput c4 c5 hs1 hs hkn
  go_wp2_with (first
    | (go_at_call 40; refine (num_any _ _).mono ?_; rintro e w' ⟨rfl, hw'⟩; replace hw' := hw'.symm; subst hw')
    | (go_at_call 49; refine hsl.mono ?_; rintro e w' ⟨rfl, hw'⟩; replace hw' := hw'.symm; subst hw')
    | (go_at_call 50; refine hrl.mono ?_; rintro e w' ⟨rfl, hw'⟩; replace hw' := hw'.symm; subst hw'))
  go_ret
  exact ⟨rfl, _, _, hP, hfin, by rw [HN.out]; exact hown⟩

set_option maxRecDepth 100000 in
set_option maxHeartbeats 1000000 in
theorem plays_takeO (w W : World) (bt br p : Nat) (K : List (Option Int)) (O : List Int) (uf : Int → Int) (Ot Or : Nat → Prop) (h : Pair w W bt br p K O uf Ot Or) (hw : Tz w) (who to leave key value : Int) :
    Calls Tryd.prog 14 #[.pointer (some ⟨bt, 0, none⟩), .pointer (some ⟨br, 0, none⟩), stepV 3 who to leave key value] W fun e W' => e = .returned (.bool true) ∧
      ∃ Ot' Or', Pair w W' bt br p (takeP p K O key) (O.filter (fun q => decide (q ≠ key))) uf Ot' Or' ∧ Keeps (fun q => Ot q ∨ Or q) W W' ∧ ∀ q, Ot' q ∨ Or' q → (Ot q ∨ Or q) ∨ W.heap.size ≤ q := by
  have h1 := hw.pos'
  have hWA : W.heap.size ≤ (W.alloc (.cells (stepC 3 who to leave key value) 31)).heap.size := by simp
  obtain ⟨hA, hs, hnt, hnr⟩ := h.laid (.cells (stepC 3 who to leave key value) 31)
  have hkn := fun W1 W2 => keeps_both (W := W) (Ot := Ot) (Or := Or) (W1 := W1) (W2 := W2) (o := .cells (stepC 3 who to leave key value) 31)
  unfold stepV
  unfold stepC at *
  go_enter Tryd.func14, Tryd.ntmps14
  go_wp2_with fail
  generalize hN : W.heap.size = N at *
  have HN : Hid (W.heap.size = N) := hN
  clear hN
  generalize W.alloc (.cells #[.int .i64 3, .int .i64 who, .int .i64 to, .int .i64 leave, .int .u64 key, .int .u64 value] 31) = WA at *
  refine (U.hold_take bt p K O (wv uf) Ot key WA hA.t (hw.below hA.below) (hA.post h1)).mono ?_
  rintro e W1 ⟨rfl, ⟨Ot', hHt, hOt⟩, hK1⟩
  rw [if_wv]
  obtain ⟨hr1, hb1⟩ := hA.mid hK1
  have hs1 := hK1.old hs hnt
  have c4 : W1.cell? ⟨N, 4, none⟩ = some (.int .u64 key) := cell_of_block hs1 4
  have htake := R.hold_take br p K O uf Or key W1 hr1 (by have := hb1.size; omega)
  generalize (if key ∈ O then uf key else 0) = V at *
  generalize hd : decide (key ∈ O) = d at *
  go_wp2_with fail
  refine htake.mono ?_
  rintro e W2 ⟨rfl, ⟨Or', hHr, hOr⟩, hK2⟩
  have hP : Pair w W2 bt br p (takeP p K O key) _ uf Ot' Or' := hA.step hHt (fun q hq => .inl (hOt q hq)) hK1 hHr hOr hK2
  have hfin := hkn W1 W2 hK1 hK2
  have hown : ∀ q, Ot' q ∨ Or' q → (Ot q ∨ Or q) ∨ N ≤ q := fun q hq => by
    have := hK1.size
    rcases hq with hq | hq
    · exact .inl (.inl (hOt q hq))
    · rcases hOr q hq with e | e
      · exact .inl (.inr e)
      · exact .inr (by omega)
  clear htake c4 hs1 hs hkn hHt hHr
  go_wp2_with fail
  go_ret
  exact ⟨rfl, _, _, hP, hfin, by rw [HN.out]; exact hown⟩
end Go.Proofs.YtbhocajmcfdffaaDoor
