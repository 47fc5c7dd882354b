/-
  No statement of the seat is proved here. (Several texts in one: NoRedo, RdoOut.)
-/
import Derived.Test.YtbgnlenhncbceaaDoorRdoM
import Derived.Test.YtbgnlenhncbceaaDoorWalkL
import Derived.Test.YtbgnlenhncbceaaDoorWorks

/-
  A redo log that is none: nil, or zero. No statement of the seat is proved here.
-/
namespace Go.Proofs.YtbgnlenhncbceaaDoor
open Go.RowKit Go.Shelf
attribute [local go_sem] Oper.semAt_some

def zeroRedo : Obj := .cells #[.int .i64 0, .slice none 0 0, .pointer none, .slice none 0 0] 57 (0, 0)
/-- A redo log that is none. -/
def NoRed (w : World) (p : Option Addr) : Prop := p = none ∨ ∃ r, p = some ⟨r, 0, none⟩ ∧ w.heap[r]? = some zeroRedo
theorem NoRed.keeps {w w' : World} {p : Option Addr} (h : NoRed w p) (k : Keeps (fun _ => False) w w') : NoRed w' p := by
  rcases h with h | ⟨r, h, hb⟩
  · exact .inl h
  · exact .inr ⟨r, h, k.old hb (fun f => f)⟩
theorem nr_there (p : Option Addr) (w : World) (h : NoRed w p) : Calls Tryd.prog 47 #[.pointer p] w fun e w' => e = .returned (.bool false) ∧ w' = w := by
  rcases h with rfl | ⟨r, rfl, hb⟩
  · go_enter Tryd.func47, Tryd.ntmps47
    go_wp2_with fail
    go_ret
    exact ⟨rfl, rfl⟩
  · have c0 : w.cell? ⟨r, 2, none⟩ = some (.pointer none) := cell_of_block hb 2
    clear hb
    go_enter Tryd.func47, Tryd.ntmps47
    go_wp2_with fail
    go_ret
    exact ⟨rfl, rfl⟩
theorem nr_handed (p : Option Addr) (w : World) (h : NoRed w p) : Calls Tryd.prog 48 #[.pointer p] w fun e w' => ∃ a c, e = .returned (.slice a 0 c) ∧ Keeps (fun _ => False) w w' := by
  rcases h with rfl | ⟨r, rfl, hb⟩
  · go_enter Tryd.func48, Tryd.ntmps48
    go_wp2_with fail
    go_ret
    exact ⟨_, _, rfl, Keeps.refl _ _⟩
  · have c0 : w.cell? ⟨r, 1, none⟩ = some (.slice none 0 0) := cell_of_block hb 1
    have hcl := clone_cells (.slice none 0 0) [] w (row_nil _ _ _) (by simp)
    clear hb
    go_enter Tryd.func48, Tryd.ntmps48
    go_wp2_with fail
    refine hcl.mono ?_
    rintro e w' ⟨v', rfl, hrow, _, hk, _⟩
    obtain ⟨a, c, rfl, _, _⟩ := hrow.form
    clear hcl hrow
    go_wp2_with fail
    go_ret
    exact ⟨_, _, rfl, hk⟩
theorem nr_len (p : Option Addr) (w : World) (h : NoRed w p) : Calls Tryd.prog 35 #[.pointer p] w fun e w' => e = .returned (.int .i64 0) ∧ w' = w := by
  rcases h with rfl | ⟨r, rfl, hb⟩
  · go_enter Tryd.func35, Tryd.ntmps35
    go_wp2_with fail
    go_ret
    exact ⟨rfl, rfl⟩
  · exact redo_len r none 0 0 w (cell_of_block hb 1)
theorem nr_mark (p : Option Addr) (w : World) (h : NoRed w p) : Calls Tryd.prog 33 #[.pointer p] w fun e w' => e = .returned (.int .i64 0) ∧ w' = w := by
  rcases h with rfl | ⟨r, rfl, hb⟩
  · go_enter Tryd.func33, Tryd.ntmps33
    go_wp2_with fail
    go_ret
    exact ⟨rfl, rfl⟩
  · exact redo_mark r none 0 0 w (cell_of_block hb 3)
theorem nr_put (p : Option Addr) (a x : Int) (w : World) (h : NoRed w p) : Calls Tryd.prog 29 #[.pointer p, .int .u64 a, .int .u64 x] w fun e w' => e = .returned (.int .i64 1) ∧ w' = w := by
  have ht := nr_there p w h
  clear h
  go_enter Tryd.func29, Tryd.ntmps29
  go_wp2_with (first | (go_at_call 47; refine ht.mono ?_; rintro e w' ⟨rfl, hw'⟩; replace hw' := hw'.symm; subst hw'))
  go_ret
  exact ⟨rfl, rfl⟩
theorem nr_back (p : Option Addr) (n : Int) (w : World) (h : NoRed w p) : Calls Tryd.prog 34 #[.pointer p, .int .i64 n] w fun e w' => e = .returned (.int .i64 1) ∧ Keeps (fun _ => False) w w' := by
  have hka : Keeps (fun _ => False) w (w.alloc (.cells #[.pointer p] 50)) := (Keeps.refl _ w).alloc _
  have ht := nr_there p _ (h.keeps hka)
  have hb := cell_of_block (alloc_block w (.cells #[.pointer p] 50)) 0
  simp only [List.getElem?_toArray, List.getElem?_cons_zero] at hb
  clear h
  go_enter Tryd.func34, Tryd.ntmps34
  go_wp2_with (first | (go_at_call 47; refine ht.mono ?_; rintro e w' ⟨rfl, hw'⟩; replace hw' := hw'.symm; subst hw'))
  go_ret
  exact ⟨rfl, hka⟩
theorem nr_copy (p : Option Addr) (w : World) (h : NoRed w p) : Calls Tryd.prog 18 #[.pointer p] w fun e w' => e = .returned (.pointer none) ∧ w' = w := by
  have ht := nr_there p w h
  clear h
  go_enter Tryd.func18, Tryd.ntmps18
  go_wp2_with (first | (go_at_call 47; refine ht.mono ?_; rintro e w' ⟨rfl, hw'⟩; replace hw' := hw'.symm; subst hw'))
  go_ret
  exact ⟨rfl, rfl⟩
theorem nr_get (p : Option Addr) (a : Int) (w : World) (h : NoRed w p) : Calls Tryd.prog 37 #[.pointer p, .int .u64 a] w fun e w' => e = .returned (.tuple #[.int .u64 0, .bool false]) ∧ w' = w := by
  have ht := nr_there p w h
  clear h
  go_enter Tryd.func37, Tryd.ntmps37
  go_wp2_with (first | (go_at_call 47; refine ht.mono ?_; rintro e w' ⟨rfl, hw'⟩; replace hw' := hw'.symm; subst hw'))
  go_ret2
  exact ⟨rfl, rfl⟩
theorem nr_over (p : Option Addr) (v : Value) (w : World) (h : NoRed w p) : Calls Tryd.prog 20 #[.pointer p, v] w fun e w' => e = .returned (.tuple #[.slice none 0 0, .int .i64 1]) ∧ w' = w := by
  have ht := nr_there p w h
  clear h
  go_enter Tryd.func20, Tryd.ntmps20
  go_wp2_with (first | (go_at_call 47; refine ht.mono ?_; rintro e w' ⟨rfl, hw'⟩; replace hw' := hw'.symm; subst hw'))
  go_ret2
  exact ⟨rfl, rfl⟩
set_option maxRecDepth 100000 in
set_option maxHeartbeats 400000 in
theorem nr_at (p : Option Addr) (k : Int) (w : World) (h : NoRed w p) : Calls Tryd.prog 36 #[.pointer p, .int .i64 k] w fun e w' => e = .returned (.tuple #[.agg #[.int .u64 0, .int .u64 0], .bool false]) ∧ Keeps (fun _ => False) w w' := by
  have hka : Keeps (fun _ => False) w (w.alloc (.cells #[.int .u64 0, .int .u64 0] 72)) := (Keeps.refl _ w).alloc _
  have hb := alloc_block w (.cells #[.int .u64 0, .int .u64 0] 72)
  rcases h with rfl | ⟨r, rfl, hbr⟩
  · have e0 : (w.alloc (.cells #[.int .u64 0, .int .u64 0] 72)).cell? ⟨w.heap.size, 0, none⟩ = some (.int .u64 0) := cell_of_block hb 0
    have e1 : (w.alloc (.cells #[.int .u64 0, .int .u64 0] 72)).cell? ⟨w.heap.size, 1, none⟩ = some (.int .u64 0) := cell_of_block hb 1
    have f0 := frozen_of_block hb 0
    have f1 := frozen_of_block hb 1
    go_enter Tryd.func36, Tryd.ntmps36
    go_wp2_with fail
    refine bodyPost_ret (v := .tuple #[.agg #[.int .u64 0, .int .u64 0], .bool false]) (by rw [results_cell_tmp rfl]; go_simp) rfl ?_
    exact ⟨rfl, hka⟩
  · have hat := at_any (.slice none 0 0) [] k (w.alloc (.cells #[.int .u64 0, .int .u64 0] 72)) ⟨none, 0, rfl, fun i hi => by simp at hi⟩
    obtain ⟨e1, e2⟩ := atC_no (es := []) (k := k) (by simp; omega)
    rw [e1, e2] at hat
    have c1 : (w.alloc (.cells #[.int .u64 0, .int .u64 0] 72)).cell? ⟨r, 1, none⟩ = some (.slice none 0 0) := cell_of_block (alloc_old hbr _) 1
    clear hbr e1 e2
    go_enter Tryd.func36, Tryd.ntmps36
    go_wp2_with fail
    generalize w.alloc (.cells #[.int .u64 0, .int .u64 0] 72) = W1 at *
    refine hat.mono ?_
    rintro e w2 ⟨rfl, hk2⟩
    have hb2 := hk2.old hb (fun f => f)
    have hkk := (hka.trans hk2)
    have e0 : w2.cell? ⟨w.heap.size, 0, none⟩ = some (.int .u64 0) := cell_of_block hb2 0
    have e1 : w2.cell? ⟨w.heap.size, 1, none⟩ = some (.int .u64 0) := cell_of_block hb2 1
    have f0 : w2.frozen? ⟨w.heap.size, 0, none⟩ = false := frozen_of_block hb2 0
    have f1 : w2.frozen? ⟨w.heap.size, 1, none⟩ = false := frozen_of_block hb2 1
    clear hat
    go_wp2_with fail
    refine bodyPost_ret (v := .tuple #[.agg #[.int .u64 0, .int .u64 0], .bool false]) (by rw [results_cell_tmp rfl]; go_simp) rfl ?_
    refine ⟨rfl, ?_⟩
    exact (hkk.setCell (p := ⟨w.heap.size, 0, none⟩) (.inl (Nat.le_refl _)) _).setCell (p := ⟨w.heap.size, 1, none⟩) (.inl (Nat.le_refl _)) _
theorem nr_walk (p : Option Addr) (bx : Nat) (m : Int) (w : World) (h : NoRed w p) (hbx : w.heap[bx]? = some (.cells #[.func (.func 48) #[.pointer p] #[]] 69 (0, 0))) :
    Calls Tryd.prog 14 #[.func (.func 58) #[] #[.pointer (some ⟨bx, 0, none⟩)], .slice none 0 0, .int .i64 m] w fun e w' => e = .returned (.bool true) ∧ Keeps (fun _ => False) w w' :=
  lwalk bx 48 p [] (by simp) (.slice none 0 0) m (fun _ _ => False) (0, 0) w (enters_of Tryd.func48 (by kernel_rfl) rfl) hbx ⟨none, 0, rfl, fun i hi => by simp at hi⟩ (fun _ _ _ f => f.elim)
    (fun W hk => (nr_handed p W (h.keeps hk)).mono fun e w' ⟨a, c, h1, h2⟩ => ⟨a, c, h1, fun i hi => by simp at hi, h2⟩)

set_option maxRecDepth 100000 in
set_option maxHeartbeats 1000000 in
theorem noRedo_true (p : Option Addr) (w : World) (h : NoRed w p) : Calls Tryd.prog 17 #[.pointer p] w fun e w' => e = .returned (.bool true) ∧ Keeps (fun _ => False) w w' := by
  have HN : Hid (∀ W, Keeps (fun _ => False) w W → NoRed W p) := fun W hk => h.keeps hk
  clear h
  go_enter Tryd.func17, Tryd.ntmps17
  go_wp2_with fail
  refine (nr_at p 0 _ (HN.out _ (Keeps.refl _ _))).mono ?_
  rintro e w1 ⟨rfl, hk1⟩
  have hka := hk1.alloc (.cells #[.int .u64 0, .int .u64 0] 72)
  have hba := alloc_block w1 (.cells #[.int .u64 0, .int .u64 0] 72)
  have hg1 := nr_get p 0 _ (HN.out _ hka)
  go_wp2_with (go_at_call 37; refine hg1.mono ?_; rintro e w' ⟨rfl, hw'⟩; replace hw' := hw'.symm; subst hw')
  have hk2 := hka.alloc (.cells #[.int .u64 1] 38)
  have hb2 := alloc_old hba (.cells #[.int .u64 1] 38)
  refine (nr_over p _ _ (HN.out _ hk2)).mono ?_
  rintro e w3 ⟨rfl, hw3⟩
  rw [← hw3] at hk2 hb2
  clear hw3 hk1 hka hba hg1
  generalize w1.heap.size = B at *
  have n3 := HN.out _ hk2
  have hp3 := nr_put p 0 0 w3 n3
  have hc3 := nr_back p 0 w3 n3
  clear n3
  go_wp2_with (first
    | (go_at_call 29; refine hp3.mono ?_; rintro e w' ⟨rfl, hw'⟩; replace hw' := hw'.symm; subst hw')
    | (go_at_call 8; refine (num_any _ _).mono ?_; rintro e w' ⟨rfl, hw'⟩; replace hw' := hw'.symm; subst hw'))
  refine hc3.mono ?_
  rintro e w4 ⟨rfl, hk4⟩
  have hk4' := hk2.trans hk4
  have hb4 := hk4.old hb2 (fun f => f)
  have x0 : w4.cell? ⟨B, 0, none⟩ = some (.int .u64 0) := cell_of_block hb4 0
  have x1 : w4.cell? ⟨B, 1, none⟩ = some (.int .u64 0) := cell_of_block hb4 1
  have n4 := HN.out _ hk4'
  have hl4 := nr_len p w4 n4
  have hm4 := nr_mark p w4 n4
  clear hp3 hc3 hk4 hk2 hb2 n4
  go_wp2_with (first
    | (go_at_call 35; refine hl4.mono ?_; rintro e w' ⟨rfl, hw'⟩; replace hw' := hw'.symm; subst hw')
    | (go_at_call 33; refine hm4.mono ?_; rintro e w' ⟨rfl, hw'⟩; replace hw' := hw'.symm; subst hw')
    | (go_at_call 8; refine (num_any _ _).mono ?_; rintro e w' ⟨rfl, hw'⟩; replace hw' := hw'.symm; subst hw'))
  refine (all_redo p w4).mono ?_
  rintro e w5 ⟨rfl, hw5⟩
  have hb5 : w5.heap[w4.heap.size]? = some (.cells #[.func (.func 48) #[.pointer p] #[]] 69 (0, 0)) := by rw [hw5]; exact alloc_block _ _
  have hk5 : Keeps (fun _ => False) w w5 := by rw [hw5]; exact hk4'.alloc _
  clear hw5 hl4 hm4 x0 x1 hb4 hk4'
  have hwn := nr_walk p w4.heap.size 0 w5 (HN.out _ hk5) hb5
  go_wp2_with fail
  refine hwn.mono ?_
  rintro e w6 ⟨rfl, hk6⟩
  have hk6' := hk5.trans hk6
  have hcn := nr_copy p w6 (HN.out _ hk6')
  clear hwn hb5 hk5 hk6
  go_wp2_with (go_at_call 18; refine hcn.mono ?_; rintro e w' ⟨rfl, hw'⟩; replace hw' := hw'.symm; subst hw')
  go_ret
  exact ⟨rfl, hk6'⟩
end Go.Proofs.YtbgnlenhncbceaaDoor


/-
  LogsRedo where no log is made. The statement itself is not proved here.
-/
namespace Go.Proofs.YtbgnlenhncbceaaDoor
open Go.RowKit Go.Shelf
attribute [local go_sem] Oper.semAt_some

set_option maxRecDepth 100000 in
set_option maxHeartbeats 1000000 in
theorem rdo_out (most : Int) (hm : most < 0 ∨ 1048576 < most) (a : Option Addr) (n c : Nat) (w : World) (hw : Tz w) :
    Calls Tryd.prog 4 #[.int .i64 most, .slice a n c] w fun e w' => e = .returned (.bool true) ∧ Keeps (fun _ => False) w w' := by
  have hnew := redo_new_no most hm w
  have hno := noRedo_true none w (.inl rfl)
  go_enter Tryd.func4, Tryd.ntmps4
  by_cases h0 : most < 0
  all_goals
    first
    | (have hga : decide (most < 0) = false := by simp; omega
       replace hm : 1048576 < most := by omega)
    | clear hm
    go_wp2_with (first
      | (go_at_call 16; refine hnew.mono ?_; rintro e w' ⟨rfl, hw'⟩; replace hw' := hw'.symm; subst hw')
      | (go_at_call 8; refine (num_any _ _).mono ?_; rintro e w' ⟨rfl, hw'⟩; replace hw' := hw'.symm; subst hw'))
    refine hno.mono ?_
    rintro e w1 ⟨rfl, hk1⟩
    clear hno hnew
    have hk2 : Keeps (fun _ => False) w (w1.alloc (.cells #[.int .i64 0, .slice none 0 0, .pointer none, .slice none 0 0] 57)) := hk1.alloc _
    have hb2 := alloc_block w1 (.cells #[.int .i64 0, .slice none 0 0, .pointer none, .slice none 0 0] 57)
    have hno2 := noRedo_true (some ⟨w1.heap.size, 0, none⟩) _ (.inr ⟨_, rfl, hb2⟩)
    go_wp2_with fail
    refine hno2.mono ?_
    rintro e w3 ⟨rfl, hk3⟩
    have hk3' := hk2.trans hk3
    have hwk := works_any w3 (hw.keeps hk3' (fun f => f))
    clear hk1 hk2 hk3 hb2 hno2
    go_wp2_with fail
    refine hwk.mono ?_
    rintro e w4 ⟨rfl, hk4⟩
    have hk4' := hk3'.trans hk4
    go_wp2_with fail
    go_ret
    exact ⟨rfl, hk4'⟩
end Go.Proofs.YtbgnlenhncbceaaDoor
