
/-
  Calls of the program's attempts where there is none, or no row or clock. No statement of the seat is proved here.
-/
import Derived.Test.YtmhinalgjfiliaaGreatDoorAtL
namespace Go.Proofs.YtmhinalgjfiliaaGreatDoor
open Go.RowKit Go.Shelf

/-- No attempt: nil, or one without a phase. -/
def NoAt (w : World) (p : Option Addr) : Prop := p = none ∨ ∃ b, p = some ⟨b, 0, none⟩ ∧ w.cell? ⟨b, 5, none⟩ = some (.int .i64 0)
theorem NoAt.keeps {w W : World} {p : Option Addr} (h : NoAt w p) (k : Keeps (fun _ => False) w W) : NoAt W p := by
  rcases h with h | ⟨b, h1, h2⟩
  · exact .inl h
  · exact .inr ⟨b, h1, by rw [← h2]; exact World.cell?_of_block (k.block b (World.block_lt_of_cell? _ _ h2) (fun f => f))⟩

theorem made_no (p : Option Addr) (w : World) (h : NoAt w p) : Calls Tryz.prog 38 #[.pointer p] w fun e w' => e = .returned (.bool false) ∧ w' = w := by
  rcases h with rfl | ⟨b, rfl, h⟩
  · exact made_nil w
  · exact made_at b 0 w h
set_option maxHeartbeats 400000 in
theorem idle_none (p : Option Addr) (w : World) (h : NoAt w p) : Calls Tryz.prog 61 #[.pointer p] w fun e w' => e = .returned (.int .i64 1) ∧ w' = w := by
  have hm := made_no p w h
  clear h
  go_enter Tryz.func61, Tryz.ntmps61
  go_wp2_with (go_at_call 38; refine hm.mono ?_; rintro e w' ⟨rfl, hw'⟩; replace hw' := hw'.symm; subst hw')
  go_ret
  exact ⟨rfl, rfl⟩
set_option maxHeartbeats 400000 in
theorem phase_none (p : Option Addr) (w : World) (h : NoAt w p) : Calls Tryz.prog 30 #[.pointer p] w fun e w' => e = .returned (.int .i64 0) ∧ w' = w := by
  have hm := made_no p w h
  clear h
  go_enter Tryz.func30, Tryz.ntmps30
  go_wp2_with (go_at_call 38; refine hm.mono ?_; rintro e w' ⟨rfl, hw'⟩; replace hw' := hw'.symm; subst hw')
  go_ret
  exact ⟨rfl, rfl⟩
set_option maxHeartbeats 400000 in
theorem locked_none (p : Option Addr) (w : World) (h : NoAt w p) : Calls Tryz.prog 49 #[.pointer p] w fun e w' => e = .returned (.bool false) ∧ w' = w := by
  have hm := phase_none p w h
  clear h
  go_enter Tryz.func49, Tryz.ntmps49
  go_wp2_with (go_at_call 30; refine hm.mono ?_; rintro e w' ⟨rfl, hw'⟩; replace hw' := hw'.symm; subst hw')
  go_ret
  exact ⟨rfl, rfl⟩
set_option maxHeartbeats 400000 in
theorem drop_none (p : Option Addr) (w : World) (h : NoAt w p) : Calls Tryz.prog 59 #[.pointer p] w fun e w' => e = .returned (.int .i64 1) ∧ w' = w := by
  have hm := made_no p w h
  clear h
  go_enter Tryz.func59, Tryz.ntmps59
  go_wp2_with (go_at_call 38; refine hm.mono ?_; rintro e w' ⟨rfl, hw'⟩; replace hw' := hw'.symm; subst hw')
  go_ret
  exact ⟨rfl, rfl⟩
set_option maxHeartbeats 400000 in
theorem get_none (p : Option Addr) (d : Int) (w : World) (h : NoAt w p) : Calls Tryz.prog 24 #[.pointer p, .int .u64 d] w fun e w' => e = .returned (.tuple #[turn0, .int .i64 1]) ∧ w' = w.alloc (.cells zeroT 66) := by
  have hm := idle_none p _ (h.keeps (Keeps.al w (.cells zeroT 66)))
  clear h
  unfold turn0 turnV
  go_enter Tryz.func24, Tryz.ntmps24
  go_wp2_with (go_at_call 61; refine hm.mono ?_; rintro e w' ⟨rfl, rfl⟩; unfold zeroT)
  refine bodyPost_ret (v := .tuple #[turn0, .int .i64 1]) (by rw [results_cell_tmp rfl]; unfold turn0 turnV; go_simp) rfl ?_
  exact ⟨rfl, rfl⟩
set_option maxHeartbeats 400000 in
theorem put_none (p : Option Addr) (d y : Int) (w : World) (h : NoAt w p) : Calls Tryz.prog 26 #[.pointer p, .int .u64 d, .int .u64 y] w fun e w' => e = .returned (.tuple #[turn0, .int .i64 1]) ∧ w' = w.alloc (.cells zeroT 66) := by
  have hm := idle_none p _ (h.keeps (Keeps.al w (.cells zeroT 66)))
  clear h
  unfold turn0 turnV
  go_enter Tryz.func26, Tryz.ntmps26
  go_wp2_with (go_at_call 61; refine hm.mono ?_; rintro e w' ⟨rfl, rfl⟩; unfold zeroT)
  refine bodyPost_ret (v := .tuple #[turn0, .int .i64 1]) (by rw [results_cell_tmp rfl]; unfold turn0 turnV; go_simp) rfl ?_
  exact ⟨rfl, rfl⟩
set_option maxHeartbeats 400000 in
theorem end_nil (p : Option Addr) (w : World) (h : NoAt w p) : Calls Tryz.prog 27 #[.pointer p] w fun e w' => e = .returned (.tuple #[turn0, .int .i64 1]) ∧ w' = w.alloc (.cells zeroT 66) := by
  have hm := idle_none p _ (h.keeps (Keeps.al w (.cells zeroT 66)))
  clear h
  unfold turn0 turnV
  go_enter Tryz.func27, Tryz.ntmps27
  go_wp2_with (go_at_call 61; refine hm.mono ?_; rintro e w' ⟨rfl, rfl⟩; unfold zeroT)
  refine bodyPost_ret (v := .tuple #[turn0, .int .i64 1]) (by rw [results_cell_tmp rfl]; unfold turn0 turnV; go_simp) rfl ?_
  exact ⟨rfl, rfl⟩
set_option maxHeartbeats 400000 in
theorem step_none (p : Option Addr) (w : World) (h : NoAt w p) : Calls Tryz.prog 25 #[.pointer p] w fun e w' => e = .returned (.tuple #[turn0, .int .i64 1]) ∧ w' = w.alloc (.cells zeroT 66) := by
  have hm := made_no p _ (h.keeps (Keeps.al w (.cells zeroT 66)))
  clear h
  unfold turn0 turnV
  go_enter Tryz.func25, Tryz.ntmps25
  go_wp2_with (go_at_call 38; refine hm.mono ?_; rintro e w' ⟨rfl, rfl⟩; unfold zeroT)
  refine bodyPost_ret (v := .tuple #[turn0, .int .i64 1]) (by rw [results_cell_tmp rfl]; unfold turn0 turnV; go_simp) rfl ?_
  exact ⟨rfl, rfl⟩

/-- The state of no attempt. -/
def sdZ : Sd := ⟨0, [], [], 0, 0, 0, 0, 0, 0⟩
def stZ : Array Value := #[.int .u64 0, .slice none 0 0, .slice none 0 0, .int .i64 0, .int .i64 0, .int .u64 0, .int .u64 0, .int .u64 0, .int .i64 0]
set_option maxHeartbeats 400000 in
theorem state_none (p : Option Addr) (w : World) (h : NoAt w p) : Calls Tryz.prog 9 #[.pointer p] w fun e w' => e = .returned (.agg stZ) ∧ w' = w.alloc (.cells stZ 44) := by
  have hm := made_no p _ (h.keeps (Keeps.al w (.cells stZ 44)))
  clear h
  unfold stZ
  go_enter Tryz.func9, Tryz.ntmps9
  go_wp2_with (go_at_call 38; refine hm.mono ?_; rintro e w' ⟨rfl, rfl⟩; unfold stZ)
  refine bodyPost_ret (v := .agg stZ) (by rw [results_cell rfl]; unfold stZ; go_simp) rfl ?_
  exact ⟨rfl, rfl⟩
set_option maxHeartbeats 400000 in
theorem samec_nil (w : World) : Calls Tryz.prog 56 #[.slice none 0 0, .slice none 0 0] w fun e w' => e = .returned (.bool true) ∧ w' = w := by
  go_enter Tryz.func56, Tryz.ntmps56
  go_wp2_with fail
  go_loopw [5] (fun v wr => v = .int .i64 0 ∧ wr = w) (fun _ _ => 0)
  case atStart => exact ⟨rfl, rfl⟩
  case round =>
    obtain ⟨rfl, rfl⟩ := hrel
    go_wp2_with fail
    go_ret
    exact ⟨rfl, rfl⟩
set_option maxRecDepth 100000 in
set_option maxHeartbeats 400000 in
theorem same_nil (w : World) : Calls Tryz.prog 16 #[.agg stZ, .agg stZ] w fun e w' => e = .returned (.bool true) ∧ Keeps (fun _ => False) w w' := by
  have hs := fun w => samec_nil w
  have hk := fun (o o' : Obj) => (Keeps.al w o).trans (Keeps.al _ o')
  have HK : Hid (∀ o o', Keeps (fun _ => False) w ((w.alloc o).alloc o')) := hk
  clear hk
  unfold stZ
  go_enter Tryz.func16, Tryz.ntmps16
  go_wp2_with (go_at_call 56; refine (hs _).mono ?_; rintro e w' ⟨rfl, hw'⟩; replace hw' := hw'.symm; subst hw')
  go_ret
  exact ⟨rfl, HK.out _ _⟩

set_option maxHeartbeats 400000 in
theorem there_norow (q : Option Addr) (w : World) : Calls Tryz.prog 51 #[.pointer none, .pointer q] w fun e w' => e = .returned (.bool false) ∧ w' = w := by
  have hl := C.len_nil w
  go_enter Tryz.func51, Tryz.ntmps51
  go_wp2_with (go_at_call 86; refine hl.mono ?_; rintro e w' ⟨rfl, hw'⟩; replace hw' := hw'.symm; subst hw')
  go_ret
  exact ⟨rfl, rfl⟩
set_option maxHeartbeats 400000 in
theorem ccopy_nil (w : World) : Calls Tryz.prog 87 #[.pointer none] w fun e w' => e = .returned (.pointer none) ∧ w' = w := by
  have hm := C.cmade_nil w
  go_enter Tryz.func87, Tryz.ntmps87
  go_wp2_with (go_at_call 70; refine hm.mono ?_; rintro e w' ⟨rfl, hw'⟩; replace hw' := hw'.symm; subst hw')
  go_ret
  exact ⟨rfl, rfl⟩
set_option maxHeartbeats 400000 in
theorem there_noclock (b : Nat) (s : Option Addr) (l c : Nat) (w : World) (h : w.cell? ⟨b, 0, none⟩ = some (.slice s l c)) (hl : 0 < l) : Calls Tryz.prog 51 #[.pointer (some ⟨b, 0, none⟩), .pointer none] w fun e w' => e = .returned (.bool false) ∧ w' = w := by
  have hl' := C.len_at b s l c w h
  have hc := ccopy_nil w
  have hp : (0 : Int) < (l : Int) := by omega
  go_enter Tryz.func51, Tryz.ntmps51
  go_wp2_with (first | (go_at_call 86; refine hl'.mono ?_; rintro e w' ⟨rfl, hw'⟩; replace hw' := hw'.symm; subst hw') | (go_at_call 87; refine hc.mono ?_; rintro e w' ⟨rfl, hw'⟩; replace hw' := hw'.symm; subst hw'))
  go_ret
  exact ⟨rfl, rfl⟩
set_option maxHeartbeats 400000 in
theorem begin_not (p q : Option Addr) (w : World) (ht : ∀ o, Calls Tryz.prog 51 #[.pointer p, .pointer q] (w.alloc o) fun e w' => e = .returned (.bool false) ∧ w' = w.alloc o) :
    Calls Tryz.prog 19 #[.pointer p, .pointer q] w fun e w' => e = .returned (.tuple #[.pointer none, turn0, .int .i64 1]) ∧ w' = w.alloc (.cells zeroT 66) := by
  have hm := ht (.cells zeroT 66)
  clear ht
  unfold turn0 turnV
  go_enter Tryz.func19, Tryz.ntmps19
  go_wp2_with (go_at_call 51; refine hm.mono ?_; rintro e w' ⟨rfl, rfl⟩; unfold zeroT)
  refine bodyPost_ret (v := .tuple #[.pointer none, turn0, .int .i64 1]) (by rw [results_tct rfl]; unfold turn0 turnV; go_simp) rfl ?_
  exact ⟨rfl, rfl⟩
/-- The state of one who is idle, without entries. -/
def stI : Array Value := #[.int .u64 0, .slice none 0 0, .slice none 0 0, .int .i64 1, .int .i64 0, .int .u64 0, .int .u64 0, .int .u64 0, .int .i64 0]
set_option maxHeartbeats 400000 in
theorem from_not (p q : Option Addr) (w : World) (ht : ∀ o, Calls Tryz.prog 51 #[.pointer p, .pointer q] (w.alloc o) fun e w' => e = .returned (.bool false) ∧ w' = w.alloc o) :
    Calls Tryz.prog 13 #[.agg stI, .pointer p, .pointer q] w fun e w' => e = .returned (.tuple #[.pointer none, .int .i64 1]) ∧ w' = w.alloc (.cells stI 44) := by
  have hm := ht (.cells stI 44)
  clear ht
  unfold stI
  go_enter Tryz.func13, Tryz.ntmps13
  go_wp2_with (go_at_call 51; refine hm.mono ?_; rintro e w' ⟨rfl, rfl⟩; unfold stI)
  go_ret2
  exact ⟨rfl, rfl⟩
end Go.Proofs.YtmhinalgjfiliaaGreatDoor
