
/- EventsNames: the law's walk (package parleylaw13). No statement of the seat is proved here. -/
import Derived.Test.YtjaldfmdjnkoeabDoorEvT
namespace Go.Proofs.YtjaldfmdjnkoeabDoor
open Go.RowKit Go.Shelf

def nmV : Array Value := #[.int .i64 1, .int .i64 2, .int .i64 3, .int .i64 4, .int .i64 5, .int .i64 6, .int .i64 7, .int .i64 8, .int .i64 9, .int .i64 10, .int .i64 11, .int .i64 12]
theorem nm_at {w : World} {g : Nat} (h : w.heap[g]? = some (.cells nmV 22 (0, 0))) (k : Nat) (hk : k < 12) : w.cell? ⟨g, k, none⟩ = some (.int .i64 ((k : Int) + 1)) := by
  rw [cell_of_block h]
  match k, hk with
  | 0, _ => rfl
  | 1, _ => rfl
  | 2, _ => rfl
  | 3, _ => rfl
  | 4, _ => rfl
  | 5, _ => rfl
  | 6, _ => rfl
  | 7, _ => rfl
  | 8, _ => rfl
  | 9, _ => rfl
  | 10, _ => rfl
  | 11, _ => rfl
set_option maxRecDepth 100000 in
set_option maxHeartbeats 2000000 in
theorem names_law (w : World) (hg : Gv w) (h8 : 8 ≤ w.heap.size) : Calls Tryd.prog 3 #[] w fun ex w' => ex = .returned (.bool true) ∧ Keeps (fun _ => False) w w' := by
  have HK : Hid (∀ X, Keeps (fun _ => False) w X → Calls Tryd.prog 4 #[] X fun ex w' => ex = .returned (.bool true) ∧ Keeps (fun _ => False) X w') := fun X k => known_any X (hg.keeps k) (Nat.le_trans h8 k.size)
  have k0 := (Keeps.refl (fun _ => False) w).alloc (.cells nmV 22)
  have b0 := (MapKept.heap_alloc w (.cells nmV 22)).1
  clear hg h8
  go_enter Tryd.func3, Tryd.ntmps3
  go_wp2_with fail
  go_loopw [2] (fun u wr => ∃ (k : Nat), u = .int .i64 k ∧ k ≤ 12 ∧ wr.heap[w.heap.size]? = some (.cells nmV 22 (0, 0)) ∧ Keeps (fun _ => False) w wr) (fun u _ => 12 - (intOf u).toNat)
  case atStart => exact ⟨0, rfl, by omega, b0, k0⟩
  case round =>
    obtain ⟨k, rfl, hk, br, kr⟩ := hrel
    by_cases hlt : k < 12
    · have c := nm_at br k hlt
      have hki : (k : Int) < 12 := by omega
      have hk0 : (0 : Int) ≤ k := by omega
      go_wp2_with fail
      go_roundw
      · exact ⟨k + 1, by simp, by omega, br, kr⟩
      · simp [intOf]; omega
    · obtain rfl : k = 12 := by omega
      go_wp2_with fail
      refine (HK.out _ kr).mono ?_
      rintro ex w1 ⟨rfl, k1⟩
      go_wp2_with fail
      go_ret
      exact ⟨rfl, kr.trans k1⟩
end Go.Proofs.YtjaldfmdjnkoeabDoor
