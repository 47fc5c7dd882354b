
/-
  Step of the program's attempts, by the phase. No statement of the seat is proved here.
-/
import Derived.Test.YtmhinalgjfiliaaDoorAtI
namespace Go.Proofs.YtmhinalgjfiliaaDoor
open Go.RowKit Go.Shelf

set_option maxRecDepth 100000 in
set_option maxHeartbeats 1000000 in
theorem step_look (a : Nat) (c : Array Value) (tv : Array Value) (n : Int) (Ps Qs : World → Prop) (w : World) (h : w.heap[a]? = some (.cells c 80 (0, 0))) (hc5 : c[5]? = some (.int .i64 3)) (hcf : c[14]? = some (mv 60 a)) (ht : tv.size = 8) (h1 : tv.all (·.oneCell') = true)
    (hdo : ∀ W, Like W (w.alloc (.cells zeroT 39)) → Calls Tryd.prog 60 #[.pointer (some ⟨a, 0, none⟩)] W fun e W' => e = .returned (.tuple #[.agg tv, .int .i64 n]) ∧ W'.heap[w.heap.size]? = some (.cells zeroT 39 (0, 0)) ∧ Ps W')
    (hP : ∀ W, Ps W → Qs (W.setRow w.heap.size tv)) :
    Calls Tryd.prog 16 #[.pointer (some ⟨a, 0, none⟩)] w fun e w' => e = .returned (.tuple #[.agg tv, .int .i64 n]) ∧ Qs w' := by
  have c5 : w.cell? ⟨a, 5, none⟩ = some (.int .i64 3) := (cell_of_block h 5).trans hc5
  have cf : w.cell? ⟨a, 14, none⟩ = some (.func (.func 60) #[.pointer (some ⟨a, 0, none⟩)] #[]) := (cell_of_block h _).trans hcf
  have hlt := lt_of_block h
  have HM := made_at a 3 _ ((cell_of_block (alloc_old h (.cells zeroT 39)) 5).trans hc5)
  rw [ph_ne (by decide)] at HM
  have hnn : ∀ W, (binOp .eql 52 (.func (.func 60) #[.pointer (some ⟨a, 0, none⟩)] #[]) .nilFunc).run Tryd.prog W = .ok (.bool false) W := fun W => by kernel_rfl
  have HD : Hid (∀ W, Like W (w.alloc (.cells zeroT 39)) → Calls Tryd.prog 60 #[.pointer (some ⟨a, 0, none⟩)] W fun e W' => e = .returned (.tuple #[.agg tv, .int .i64 n]) ∧ W'.heap[w.heap.size]? = some (.cells zeroT 39 (0, 0)) ∧ Hid (Ps W')) := hdo
  have HP : Hid (∀ W, Ps W → Qs (W.setRow w.heap.size tv)) := hP
  have HT : Hid (tv.size = 8) := ht
  have H1 : Hid (tv.all (·.oneCell') = true) := h1
  clear h hc5 hcf hdo hP ht h1
  go_enter Tryd.func16, Tryd.ntmps16
  go_wp2_with (go_at_call 36; refine HM.mono ?_; rintro e w' ⟨rfl, hw'⟩; replace hw' := hw'.symm; subst hw')
  go_quiet (fail)
  go_wp2_with (first
    | (go_at_call 60; refine (HD.out _ (by exact ⟨rfl, rfl, rfl, rfl⟩)).mono ?_; rintro e W1 ⟨rfl, b1, h1⟩)
    | (refine wpList_store_row' rfl 39 _ _ rfl w.heap.size tv rfl rfl 39 zeroT b1 (by rw [HT.out]; exact size_turn) (by rw [HT.out]; rfl) H1.out ?_))
  refine bodyPost_ret (turn_ret rfl _ _ w.heap.size _ _ b1 HT.out rfl) rfl ?_
  exact ⟨rfl, HP.out _ h1.out⟩

set_option maxRecDepth 100000 in
set_option maxHeartbeats 1000000 in
theorem step_store (a : Nat) (c : Array Value) (tv : Array Value) (n : Int) (Ps Qs : World → Prop) (w : World) (h : w.heap[a]? = some (.cells c 80 (0, 0))) (hc5 : c[5]? = some (.int .i64 8)) (hcf : c[19]? = some (mv 64 a)) (ht : tv.size = 8) (h1 : tv.all (·.oneCell') = true)
    (hdo : ∀ W, Like W (w.alloc (.cells zeroT 39)) → Calls Tryd.prog 64 #[.pointer (some ⟨a, 0, none⟩)] W fun e W' => e = .returned (.tuple #[.agg tv, .int .i64 n]) ∧ W'.heap[w.heap.size]? = some (.cells zeroT 39 (0, 0)) ∧ Ps W')
    (hP : ∀ W, Ps W → Qs (W.setRow w.heap.size tv)) :
    Calls Tryd.prog 16 #[.pointer (some ⟨a, 0, none⟩)] w fun e w' => e = .returned (.tuple #[.agg tv, .int .i64 n]) ∧ Qs w' := by
  have c5 : w.cell? ⟨a, 5, none⟩ = some (.int .i64 8) := (cell_of_block h 5).trans hc5
  have cf : w.cell? ⟨a, 19, none⟩ = some (.func (.func 64) #[.pointer (some ⟨a, 0, none⟩)] #[]) := (cell_of_block h _).trans hcf
  have hlt := lt_of_block h
  have HM := made_at a 8 _ ((cell_of_block (alloc_old h (.cells zeroT 39)) 5).trans hc5)
  rw [ph_ne (by decide)] at HM
  have hnn : ∀ W, (binOp .eql 52 (.func (.func 64) #[.pointer (some ⟨a, 0, none⟩)] #[]) .nilFunc).run Tryd.prog W = .ok (.bool false) W := fun W => by kernel_rfl
  have HD : Hid (∀ W, Like W (w.alloc (.cells zeroT 39)) → Calls Tryd.prog 64 #[.pointer (some ⟨a, 0, none⟩)] W fun e W' => e = .returned (.tuple #[.agg tv, .int .i64 n]) ∧ W'.heap[w.heap.size]? = some (.cells zeroT 39 (0, 0)) ∧ Hid (Ps W')) := hdo
  have HP : Hid (∀ W, Ps W → Qs (W.setRow w.heap.size tv)) := hP
  have HT : Hid (tv.size = 8) := ht
  have H1 : Hid (tv.all (·.oneCell') = true) := h1
  clear h hc5 hcf hdo hP ht h1
  go_enter Tryd.func16, Tryd.ntmps16
  go_wp2_with (go_at_call 36; refine HM.mono ?_; rintro e w' ⟨rfl, hw'⟩; replace hw' := hw'.symm; subst hw')
  go_quiet (fail)
  go_wp2_with (first
    | (go_at_call 64; refine (HD.out _ (by exact ⟨rfl, rfl, rfl, rfl⟩)).mono ?_; rintro e W1 ⟨rfl, b1, h1⟩)
    | (refine wpList_store_row' rfl 39 _ _ rfl w.heap.size tv rfl rfl 39 zeroT b1 (by rw [HT.out]; exact size_turn) (by rw [HT.out]; rfl) H1.out ?_))
  refine bodyPost_ret (turn_ret rfl _ _ w.heap.size _ _ b1 HT.out rfl) rfl ?_
  exact ⟨rfl, HP.out _ h1.out⟩

set_option maxRecDepth 100000 in
set_option maxHeartbeats 1000000 in
theorem step_free (a : Nat) (c : Array Value) (tv : Array Value) (n : Int) (Ps Qs : World → Prop) (w : World) (h : w.heap[a]? = some (.cells c 80 (0, 0))) (hc5 : c[5]? = some (.int .i64 9)) (hcf : c[20]? = some (mv 65 a)) (ht : tv.size = 8) (h1 : tv.all (·.oneCell') = true)
    (hdo : ∀ W, Like W (w.alloc (.cells zeroT 39)) → Calls Tryd.prog 65 #[.pointer (some ⟨a, 0, none⟩)] W fun e W' => e = .returned (.tuple #[.agg tv, .int .i64 n]) ∧ W'.heap[w.heap.size]? = some (.cells zeroT 39 (0, 0)) ∧ Ps W')
    (hP : ∀ W, Ps W → Qs (W.setRow w.heap.size tv)) :
    Calls Tryd.prog 16 #[.pointer (some ⟨a, 0, none⟩)] w fun e w' => e = .returned (.tuple #[.agg tv, .int .i64 n]) ∧ Qs w' := by
  have c5 : w.cell? ⟨a, 5, none⟩ = some (.int .i64 9) := (cell_of_block h 5).trans hc5
  have cf : w.cell? ⟨a, 20, none⟩ = some (.func (.func 65) #[.pointer (some ⟨a, 0, none⟩)] #[]) := (cell_of_block h _).trans hcf
  have hlt := lt_of_block h
  have HM := made_at a 9 _ ((cell_of_block (alloc_old h (.cells zeroT 39)) 5).trans hc5)
  rw [ph_ne (by decide)] at HM
  have hnn : ∀ W, (binOp .eql 52 (.func (.func 65) #[.pointer (some ⟨a, 0, none⟩)] #[]) .nilFunc).run Tryd.prog W = .ok (.bool false) W := fun W => by kernel_rfl
  have HD : Hid (∀ W, Like W (w.alloc (.cells zeroT 39)) → Calls Tryd.prog 65 #[.pointer (some ⟨a, 0, none⟩)] W fun e W' => e = .returned (.tuple #[.agg tv, .int .i64 n]) ∧ W'.heap[w.heap.size]? = some (.cells zeroT 39 (0, 0)) ∧ Hid (Ps W')) := hdo
  have HP : Hid (∀ W, Ps W → Qs (W.setRow w.heap.size tv)) := hP
  have HT : Hid (tv.size = 8) := ht
  have H1 : Hid (tv.all (·.oneCell') = true) := h1
  clear h hc5 hcf hdo hP ht h1
  go_enter Tryd.func16, Tryd.ntmps16
  go_wp2_with (go_at_call 36; refine HM.mono ?_; rintro e w' ⟨rfl, hw'⟩; replace hw' := hw'.symm; subst hw')
  go_quiet (fail)
  go_wp2_with (first
    | (go_at_call 65; refine (HD.out _ (by exact ⟨rfl, rfl, rfl, rfl⟩)).mono ?_; rintro e W1 ⟨rfl, b1, h1⟩)
    | (refine wpList_store_row' rfl 39 _ _ rfl w.heap.size tv rfl rfl 39 zeroT b1 (by rw [HT.out]; exact size_turn) (by rw [HT.out]; rfl) H1.out ?_))
  refine bodyPost_ret (turn_ret rfl _ _ w.heap.size _ _ b1 HT.out rfl) rfl ?_
  exact ⟨rfl, HP.out _ h1.out⟩
end Go.Proofs.YtmhinalgjfiliaaDoor
