/-
  The walk of the law CellsMeans. No statement of the seat is proved here.
-/
import Derived.Test.YtmffkcbdgpaieaaMeansA
import Derived.Deep.RegionHeld3
import Derived.Deep.QuietTactic
import Derived.BigQuiet
namespace Go.Proofs.Ytmffkcbdgpaieaa
open Go.RowKit

theorem Reads.kept {w w' : World} {sp : Option Addr} {ws : List Int} (h : Reads w sp ws) (k : Keeps (fun _ => False) w w') : Reads w' sp ws := fun i hi => by
  obtain ⟨a, rfl, h1⟩ := h i hi
  exact ⟨a, rfl, (World.cell?_of_block (w := w) (k.block _ (World.block_lt_of_cell? _ _ h1) (fun f => f))).trans h1⟩

set_option maxRecDepth 100000 in
set_option maxHeartbeats 1000000 in
theorem means_no (sp : Option Addr) (l c : Nat) (ws : List Int) (v1 v2 : Value) (w : World) (hn : ws.length = l) (hr : Reads w sp ws) (h0 : sp = none → c = 0) (hb : l * 8 ≤ 140737488351232) (hl : l < 1 ∨ 65536 < l) :
    Calls Try.prog 5 #[.slice sp l c, v1, v2] w fun e w' => e = .returned (.bool true) ∧ Keeps (fun _ => False) w w' := by
  have H0 : Hid (sp = none → c = 0) := h0
  have HB : Hid (l * 8 ≤ 140737488351232) := hb
  have HN : Hid (ws.length = l) := hn
  have HL : Hid (l < 1 ∨ 65536 < l) := hl
  have hfin : ((l : Int) == 0) = true ∨ (((l : Int) == 0) = false ∧ (65536 : Int) < l) := by
    rcases hl with h | h
    · exact .inl (by simp; omega)
    · exact .inr ⟨by simp; omega, by omega⟩
  clear h0 hb hn hl
  go_enter Try.func5, Try.ntmps5
  go_wp2_with fail
  refine (known_any _).mono ?_
  rintro e w1 ⟨rfl, k1⟩
  go_wp2_with fail
  refine (lent_any sp l c ws _ HN.out (hr.kept k1) H0.out HB.out).mono ?_
  rintro e w2 ⟨g, cap, rfl, hg, hL, k2⟩
  replace k2 := k1.trans k2
  clear k1
  go_wp2_with fail
  refine (of_no _ l _ _ HL.out).mono ?_
  rintro e w3 ⟨rfl, rfl⟩
  go_wp2_with fail
  refine (lent_any sp l c ws _ HN.out (hr.kept k2) H0.out HB.out).mono ?_
  rintro e w4 ⟨g2, cap2, rfl, hg2, hL2, k4⟩
  replace k4 := k2.trans k4
  clear k2
  go_wp2_with fail
  refine (of_no _ l _ _ HL.out).mono ?_
  rintro e w5 ⟨rfl, rfl⟩
  rcases hfin with hq | ⟨hq, hq2⟩
  all_goals
    go_wp2_with (go_at_call 13; refine (num_any _ _).mono ?_; rintro e w' ⟨rfl, rfl⟩)
    go_ret
    exact ⟨rfl, k4⟩

end Go.Proofs.Ytmffkcbdgpaieaa
