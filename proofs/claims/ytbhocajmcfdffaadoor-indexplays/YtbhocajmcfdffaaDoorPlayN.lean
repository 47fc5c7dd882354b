/-
  The law's tells and plays at tables that are not there. No statement of the seat is proved here.
-/
import Derived.Test.YtbhocajmcfdffaaDoorPlayC
namespace Go.Proofs.YtbhocajmcfdffaaDoor
open Go.RowKit Go.Shelf

theorem reads_nil (W : World) : Reads W (.slice none 0 0) [] := ⟨by simp, none, 0, rfl, fun i hi => absurd hi (by simp)⟩

set_option maxRecDepth 100000 in
set_option maxHeartbeats 4000000 in
theorem tells_nil (W : World) (key : Int) :
    Calls Tryd.prog 15 #[.pointer none, .pointer none, .int .u64 key] W fun e W' => e = .returned (.bool true) ∧ Below W.heap.size W W' := by
  go_enter Tryd.func15, Tryd.ntmps15
  go_wp2_with (first
    | (go_at_call 57; refine (U.keys_no none _ (.inl rfl)).mono ?_; rintro e w' ⟨rfl, hw'⟩; replace hw' := hw'.symm; subst hw')
    | (go_at_call 58; refine (R.keys_nil _).mono ?_; rintro e w' ⟨rfl, hw'⟩; replace hw' := hw'.symm; subst hw'))
  refine (same_at _ _ [] _ (reads_nil _) (reads_nil _)).mono ?_
  rintro e W3 ⟨rfl, m3, hW3⟩
  have hB3 : Below W.heap.size W W3 := by rw [hW3]; exact ⟨rfl, rfl, rfl, Nat.le_refl _, fun _ _ => rfl⟩
  clear hW3
  go_wp2_with (first
    | (go_at_call 59; refine (U.len_no none _ (.inl rfl)).mono ?_; rintro e w' ⟨rfl, hw'⟩; replace hw' := hw'.symm; subst hw')
    | (go_at_call 21; refine (R.len_nil _).mono ?_; rintro e w' ⟨rfl, hw'⟩; replace hw' := hw'.symm; subst hw')
    | (go_at_call 49; refine (U.slots_no none _ (.inl rfl)).mono ?_; rintro e w' ⟨rfl, hw'⟩; replace hw' := hw'.symm; subst hw')
    | (go_at_call 50; refine (R.slots_nil _).mono ?_; rintro e w' ⟨rfl, hw'⟩; replace hw' := hw'.symm; subst hw')
    | (go_at_call 17; refine (U.asked_no none _ _ (.inl rfl)).mono ?_; rintro e w' ⟨rfl, hw'⟩; replace hw' := hw'.symm; subst hw')
    | (go_at_call 18; refine (R.asked_nil _ _).mono ?_; rintro e w' ⟨rfl, hw'⟩; replace hw' := hw'.symm; subst hw'))
  go_loopw [9] (fun i wr => i = .int .i64 0 ∧ wr = W3) (fun _ _ => 0)
  case atStart => exact ⟨rfl, rfl⟩
  case round =>
    obtain ⟨rfl, hwr⟩ := hrel
    subst hwr
    go_wp2_with fail
    go_loopw [7, 10] (fun a i wr => ∃ (k : Nat) (L : List Int), k ≤ 40 ∧ i = .int .i64 k ∧ L.length = k ∧ wr.ownsRow W.heap.size 25 1 a L.length (wordsV L) ∧ Below W.heap.size W wr) (fun _ i _ => 40 - (intOf i).toNat)
    case atStart => exact ⟨0, [], by omega, rfl, rfl, World.ownsRow_nil _ _ _ _, hB3⟩
    case round =>
      clear hB3
      obtain ⟨k, L, hk, rfl, hL, hrow, hB⟩ := hrel
      by_cases hlt : k < 40
      · obtain ⟨a, c, rfl⟩ := R.row_form hrow
        have hwz := hB.size
        obtain ⟨g, cap, w1, hr, ho, hg, hgb⟩ := R.append_word 99 hrow (by omega) (by omega)
        have hlt' := fun q hq => hrow.lt q hq
        have hB1 : Below W.heap.size W w1 := ⟨hg.os.trans hB.os, hg.tape.trans hB.tape, hg.output.trans hB.output, by have := hg.size; simp at this; omega, fun q hq => ((hg.block q (by simp; omega) (fun e => by have := (hlt' q e.symm).1; omega)).trans (Below.heap_alloc _ _ _ (by omega))).trans (hB.block q hq)⟩
        have HE : Hid (w1.ownsRow W.heap.size 25 1 (.slice (some ⟨g, 0, none⟩) (L.length + 1) cap) (L ++ [99]).length (wordsV (L ++ [99]))) := ho
        have hL2 : (L ++ [99]).length = k + 1 := by simp; omega
        have HRR : Hid (_ = _) := hr
        clear hr ho hg hgb hrow hB hlt'
        go_wp2_with (at_builtin; refine R.wpList_append_run rfl _ _ 37 rfl rfl rfl HRR.out ?_; clear HRR)
        go_roundw
        case rel => exact ⟨k + 1, L ++ [99], by omega, by go_num, hL2, by rw [← hL]; exact HE.out, hB1⟩
        case measure => simp [intOf]; omega
      · obtain rfl : k = 40 := by omega
        obtain ⟨a, c, rfl⟩ := R.row_form hrow
        clear hrow
        have hLl : (40 : Int) ≤ (L.length : Int) := by omega
        go_wp2_with (go_at_call 58; refine (R.keys_nil _).mono ?_; rintro e w' ⟨rfl, hw'⟩; replace hw' := hw'.symm; subst hw')
        refine (same_at _ _ [] _ (reads_nil _) (reads_nil _)).mono ?_
        rintro e W7 ⟨rfl, m7, hW7⟩
        subst hW7
        go_wp2_with fail
        refine (goes_nil _ 0).mono ?_
        rintro e W8 ⟨rfl, hb8⟩
        go_wp2_with fail
        go_ret
        exact ⟨rfl, hB.trans (⟨hb8.os, hb8.tape, hb8.output, hb8.size, fun q hq => hb8.block q (by have := hB.size; show q < wr.heap.size; omega)⟩)⟩

set_option maxRecDepth 100000 in
set_option maxHeartbeats 1000000 in
theorem plays_nil (W : World) (kind who to leave key value : Int) :
    Calls Tryd.prog 14 #[.pointer none, .pointer none, stepV kind who to leave key value] W fun e W' => e = .returned (.bool true) ∧ Below W.heap.size W W' := by
  by_cases hk : kind < 1 ∨ 6 < kind
  · exact plays_other none none W kind who to leave key value hk
  have hkn : Below W.heap.size W (W.alloc (.cells (stepC kind who to leave key value) 31)) := (Below.refl _ W).alloc (Nat.le_refl _) _
  have hcase : kind = 1 ∨ kind = 2 ∨ kind = 3 ∨ kind = 4 ∨ kind = 5 ∨ kind = 6 := by omega
  clear hk
  unfold stepV
  unfold stepC at *
  rcases hcase with rfl | rfl | rfl | rfl | rfl | rfl
  · go_enter Tryd.func14, Tryd.ntmps14
    go_wp2_with (first
      | (go_at_call 40; refine (num_any _ _).mono ?_; rintro e w' ⟨rfl, hw'⟩; replace hw' := hw'.symm; subst hw')
      | (go_at_call 47; refine (U.put_no none _ _ _ (.inl rfl)).mono ?_; rintro e w' ⟨rfl, rfl⟩)
      | (go_at_call 48; refine (R.put_nil _ _ _).mono ?_; rintro e w' ⟨rfl, rfl⟩)
      | (go_at_call 49; refine (U.slots_no none _ (.inl rfl)).mono ?_; rintro e w' ⟨rfl, rfl⟩)
      | (go_at_call 50; refine (R.slots_nil _).mono ?_; rintro e w' ⟨rfl, rfl⟩))
    go_ret
    exact ⟨rfl, hkn⟩
  · go_enter Tryd.func14, Tryd.ntmps14
    go_wp2_with (first
      | (go_at_call 51; refine (U.get_no none _ _ (.inl rfl)).mono ?_; rintro e w' ⟨rfl, rfl⟩)
      | (go_at_call 20; refine (R.get_nil _ _).mono ?_; rintro e w' ⟨rfl, rfl⟩))
    go_ret
    exact ⟨rfl, hkn⟩
  · go_enter Tryd.func14, Tryd.ntmps14
    go_wp2_with (first
      | (go_at_call 52; refine (U.take_no none _ _ (.inl rfl)).mono ?_; rintro e w' ⟨rfl, rfl⟩)
      | (go_at_call 53; refine (R.take_nil _ _).mono ?_; rintro e w' ⟨rfl, rfl⟩))
    go_ret
    exact ⟨rfl, hkn⟩
  · go_enter Tryd.func14, Tryd.ntmps14
    go_wp2_with fail
    refine (goes_nil _ leave).mono ?_
    rintro e W1 ⟨rfl, hb⟩
    have hf := hkn.trans (hb.mono hkn.size)
    clear hb hkn
    go_wp2_with fail
    go_ret
    exact ⟨rfl, hf⟩
  · go_enter Tryd.func14, Tryd.ntmps14
    go_wp2_with fail
    refine (tells_nil _ key).mono ?_
    rintro e W1 ⟨rfl, hb⟩
    have hf := hkn.trans (hb.mono hkn.size)
    clear hb hkn
    go_wp2_with fail
    go_ret
    exact ⟨rfl, hf⟩
  · go_enter Tryd.func14, Tryd.ntmps14
    go_wp2_with (first
      | (go_at_call 55; refine (U.clear_no none _ (.inl rfl)).mono ?_; rintro e w' ⟨⟨v1, rfl⟩, rfl⟩)
      | (go_at_call 56; refine (R.clear_nil _).mono ?_; rintro e w' ⟨⟨v2, rfl⟩, rfl⟩))
    go_ret
    exact ⟨rfl, hkn⟩
end Go.Proofs.YtbhocajmcfdffaaDoor
