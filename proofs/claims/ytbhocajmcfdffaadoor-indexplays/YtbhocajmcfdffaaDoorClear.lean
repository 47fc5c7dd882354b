/-
  Clear, of the program and of the document's answer. No statement of the seat is proved here.
-/
import Derived.Test.YtbhocajmcfdffaaDoorCopyU
import Derived.Test.YtbhocajmcfdffaaDoorWas
namespace Go.Proofs.YtbhocajmcfdffaaDoor
open Go.RowKit Go.Shelf

set_option maxHeartbeats 400000 in
theorem R.copy_nil (w : World) : Calls Tryd.prog 13 #[.pointer none] w fun e w' => e = .returned (.pointer none) ∧ w' = w := by
  go_enter Tryd.func13, Tryd.ntmps13
  go_wp2
  go_ret
  exact ⟨rfl, rfl⟩

set_option maxHeartbeats 400000 in
theorem R.clear_nil (w : World) : Calls Tryd.prog 56 #[.pointer none] w fun e w' => (∃ v, e = .returned v) ∧ w' = w := by
  go_enter Tryd.func56, Tryd.ntmps56
  go_wp2
  go_end0
  exact ⟨⟨_, rfl⟩, rfl⟩

set_option maxRecDepth 100000 in
set_option maxHeartbeats 400000 in
theorem R.hold_clear (b p : Nat) (K : List (Option Int)) (O : List Int) (uf : Int → Int) (Or : Nat → Prop) (w : World) (h : R.Holds w b p K O uf Or) :
    Calls Tryd.prog 56 #[.pointer (some ⟨b, 0, none⟩)] w fun e w' => (∃ v, e = .returned v) ∧ (∃ Ow, R.Holds w' b 3 (List.replicate 8 none) [] uf Ow ∧ ∀ q, Ow q → Or q ∨ w.heap.size ≤ q) ∧ Keeps Or w w' := by
  obtain ⟨s, v, hF, hO⟩ := h
  obtain ⟨cc, htab⟩ := hF.tab.tab
  have hb : Or b := (hO b).2 (.inl rfl)
  have hlb := lt_of_block htab
  have c0 : w.cell? ⟨b, 0, none⟩ = some (.slice (some ⟨s, 0, none⟩) K.length cc) := by rw [cell_of_block htab]; rfl
  have c1 := hF.tab.c1
  have f0 := hF.tab.fb 0
  have f1 := hF.tab.fb 1
  have hmk : ∀ w : World, (Instr.makeSlice 46 (.int .i64 8) (.int .i64 8)).run Tryd.prog w =
    .ok (.slice (some ⟨w.heap.size, 0, none⟩) 8 8) (w.alloc (.cells (R.refCells uf (List.replicate 8 none)) 95)) := R.run_rslots uf 8 (by omega)
  generalize hcs : R.refCells uf (List.replicate 8 none) = cs at *
  have HC : Hid (R.refCells uf (List.replicate 8 none) = cs) := hcs
  clear hcs
  obtain ⟨a, c, rfl⟩ := R.row_form hF.tab.row
  have hbx : b ≠ w.heap.size := by omega
  clear hF
  go_enter Tryd.func56, Tryd.ntmps56
  go_wp2_with fail
  go_end0
  have ht := alloc_old (block_set (block_set htab 0 (.slice (some ⟨w.heap.size, 0, none⟩) 8 8)) 1 (.slice none 0 0)) (.cells cs 95)
  have hs := alloc_block ((w.setCell ⟨b, 0, none⟩ (.slice (some ⟨w.heap.size, 0, none⟩) 8 8)).setCell ⟨b, 1, none⟩ (.slice none 0 0)) (.cells cs 95)
  simp only [World.size_setCell] at hs
  refine ⟨⟨_, rfl⟩, ⟨_, ⟨w.heap.size, .slice none 0 0, ⟨⟨⟨_, ht⟩, ⟨#[], by rw [Array.append_empty, HC.out]; exact hs⟩, World.ownsRow_nil _ _ _ _, hbx⟩, Inv.empty (fun k => homeP_lt 3 (by decide) k) (by decide), by simp, by decide, by decide, by simp⟩, fun q => Iff.rfl⟩, ?_⟩, (((Keeps.refl Or w).setCell (p := ⟨b, 0, none⟩) (.inr hb) _).setCell (p := ⟨b, 1, none⟩) (.inr hb) _).alloc _⟩
  rintro q (rfl | rfl | e)
  · exact .inl hb
  · exact .inr (Nat.le_refl _)
  · simp [Value.ownBlock] at e

set_option maxRecDepth 100000 in
set_option maxHeartbeats 400000 in
theorem U.hold_clear (b p : Nat) (K : List (Option Int)) (O : List Int) (vf : Int → Value) (Ow : Nat → Prop) (w : World) (h : U.Holds w b p K O vf Ow) :
    Calls Tryd.prog 55 #[.pointer (some ⟨b, 0, none⟩)] w fun e w' => (∃ v, e = .returned v) ∧ (∃ Ow', U.Holds w' b 3 (List.replicate 8 none) [] vf Ow' ∧ ∀ q, Ow' q → Ow q ∨ w.heap.size ≤ q) ∧ Keeps Ow w w' := by
  obtain ⟨s, e0, bf, hG, hO⟩ := h
  have hb : Ow b := (hO b).2 (.inl rfl)
  have hm := hG.made
  have hlb := lt_of_block hG.tab.tab
  go_enter Tryd.func55, Tryd.ntmps55
  go_wp2_with (go_at_call 43; refine hm.mono ?_; rintro e w' ⟨rfl, hw'⟩; replace hw' := hw'.symm; subst hw')
  refine (U.new_at vf _).mono ?_
  rintro e w1 ⟨rfl, hT1, hk1, hz1⟩
  have htb := hk1.old hG.tab.tab (fun f => f)
  have n0 := hT1.c0
  have n1 := hT1.c1
  have n2 := hT1.c2
  rw [List.length_replicate] at n0
  rw [List.length_nil] at n1
  have d0 : w1.cell? ⟨b, 0, none⟩ = some _ := cell_of_block htb 0
  have d1 : w1.cell? ⟨b, 1, none⟩ = some _ := cell_of_block htb 1
  have d2 : w1.cell? ⟨b, 2, none⟩ = some _ := cell_of_block htb 2
  have f0 := frozen_of_block htb 0
  have f1 := frozen_of_block htb 1
  have f2 := frozen_of_block htb 2
  have HZ : Hid (w1.heap.size = w.heap.size + 3) := hz1
  clear hz1
  go_wp2_with fail
  go_end0
  have hne0 : w.heap.size ≠ b := by omega
  have hne1 : w.heap.size + 1 ≠ b := by omega
  have hT : TabAt U.kinds (((w1.setCell ⟨b, 0, none⟩ (.slice (some ⟨w.heap.size + 1, 0, none⟩) 8 8)).setCell ⟨b, 1, none⟩ (.int .i64 0)).setCell ⟨b, 2, none⟩ (.pointer (some ⟨w.heap.size, 0, none⟩))) b (w.heap.size + 1) w.heap.size (List.replicate 8 none) [] (fun _ => 0) vf :=
    ⟨block_set (block_set (block_set htb 0 _) 1 _) 2 _, block_other (block_other (block_other hT1.slots hne1 0 _) hne1 1 _) hne1 2 _, block_other (block_other (block_other hT1.sent hne0 0 _) hne0 1 _) hne0 2 _, fun i hi => absurd hi (by simp), Ne.symm hne1, Ne.symm hne0, by omega, fun k hk => absurd hk (by simp), fun k q hk => absurd hk (by simp), by simp⟩
  have hk2 : Keeps Ow w w1 := ⟨hk1.os, hk1.tape, hk1.output, hk1.size, fun q hq _ => hk1.block q hq (fun f => f)⟩
  refine ⟨⟨_, rfl⟩, ⟨_, ⟨_, _, _, ⟨hT, Inv.empty (fun k => homeP_lt 3 (by decide) k) (by decide), by decide, by decide, by decide, by decide⟩, fun q => Iff.rfl⟩, ?_⟩, ((hk2.setCell (p := ⟨b, 0, none⟩) (.inr hb) _).setCell (p := ⟨b, 1, none⟩) (.inr hb) _).setCell (p := ⟨b, 2, none⟩) (.inr hb) _⟩
  rintro q (rfl | rfl | rfl | ⟨k, hk, _⟩)
  · exact .inl hb
  · exact .inr (by omega)
  · exact .inr (Nat.le_refl _)
  · simp at hk

/-- The program's Copy, of a table with its own blocks. -/
theorem U.hold_copy (b p : Nat) (K : List (Option Int)) (O : List Int) (uf : Int → Int) (Ow : Nat → Prop) (w : World) (h : U.Holds w b p K O (wv uf) Ow) (hw : Tz w) :
    Calls Tryd.prog 12 #[.pointer (some ⟨b, 0, none⟩)] w fun e w' => ∃ b', e = .returned (.pointer (some ⟨b', 0, none⟩)) ∧ (∃ Ow', U.Holds w' b' p K O (wv uf) Ow' ∧ ∀ q, Ow' q → w.heap.size ≤ q) ∧ Keeps (fun _ => False) w w' := by
  obtain ⟨s, e0, bf, hG, hO⟩ := h
  refine (U.copy_at b s e0 p K O bf uf w hG hw).mono ?_
  rintro e w' ⟨b', s', e0', bf', rfl, h1, h2, h3⟩
  exact ⟨b', rfl, ⟨_, ⟨s', e0', bf', h1, fun q => Iff.rfl⟩, h2⟩, h3⟩
end Go.Proofs.YtbhocajmcfdffaaDoor
