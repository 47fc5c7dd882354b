
/- Walks of sideBehind and followers (package check). No statement of the seat is proved here. -/
import Derived.Test.YtljapgoeomedkaaDoorChB
import Derived.Test.YtljapgoeomedkaaDoorChI
import Derived.Lib.SlicesCompact
namespace Go.Proofs.YtljapgoeomedkaaDoor
open Go.RowKit Go.Shelf

def sideN (s : Bool) : Int := if s then 1 else 0
theorem behind_any (op : Int) (s : Bool) (w : World) : Calls Tryd.prog 57 #[.int .i64 op, .int .i64 (sideN s)] w fun e w' => e = .returned (.int .i64 (sideN (sideB op s))) ∧ w' = w := by
  unfold sideB
  generalize hs : sideN s = z
  by_cases h1 : op = 12
  · subst h1
    go_enter Tryd.func57, Tryd.ntmps57
    go_wp2_with fail
    go_ret
    exact ⟨rfl, rfl⟩
  · by_cases h2 : op = 15
    · subst h2
      go_enter Tryd.func57, Tryd.ntmps57
      go_wp2_with fail
      go_ret
      exact ⟨rfl, rfl⟩
    · by_cases h3 : op = 16
      · subst h3
        go_enter Tryd.func57, Tryd.ntmps57
        go_wp2_with fail
        go_ret
        exact ⟨rfl, rfl⟩
      · rw [if_neg h1, if_neg (by omega), hs]
        go_enter Tryd.func57, Tryd.ntmps57
        go_wp2_with fail
        go_ret
        exact ⟨rfl, rfl⟩

theorem fol_sorted (i : I5) (a : Nat) (h : i.op = 9) : Lib.compact (([((a : Int) + 1), (tgtN i : Int)]).mergeSort fun x y => decide (x ≤ y)) = (folL i a).map fun (n : Nat) => (n : Int) := by
  unfold folL
  rw [if_neg (by omega), if_neg (by omega), if_pos h]
  generalize tgtN i = t
  have hm : ∀ x y : Int, ([x, y]).mergeSort (fun x y => decide (x ≤ y)) = if x ≤ y then [x, y] else [y, x] := by
    intro x y
    simp [List.mergeSort, List.MergeSort.Internal.splitInTwo, List.merge]
  have hc : ∀ x y : Int, Lib.compact [x, y] = if x = y then [x] else [x, y] := by
    intro x y
    simp [Lib.compact, Lib.compactUpTo, Lib.keeps, List.range_succ, List.filter_cons]
    split <;> rename_i h
    · simp [h]
    · simp [show ¬ x = y from fun e => h e.symm]
  rw [hm]
  by_cases h1 : t < a + 1
  · rw [if_neg (by omega), if_pos h1, hc, if_neg (by omega)]; simp
  · rw [if_pos (by omega), if_neg h1, hc]
    by_cases h2 : a + 1 < t
    · rw [if_neg (by omega), if_pos h2]; simp
    · rw [if_pos (by omega), if_neg h2]; simp
theorem one_sorted (x : Int) : Lib.compact (([x]).mergeSort fun x y => decide (x ≤ y)) = [x] := by
  simp [Lib.compact, Lib.compactUpTo, Lib.keeps, List.range_succ]
theorem none_sorted : Lib.compact (([] : List Int).mergeSort fun x y => decide (x ≤ y)) = [] := by
  simp [Lib.compact, Lib.compactUpTo]
theorem tgt_int {i : I5} (h : i.wf) : (tgtN i : Int) = min i.n 2147483647 := by
  have := h.2.2.2.2
  unfold tgtN
  omega
/-- What followers answers. -/
def FPost (i : I5) (a : Nat) (w : World) (e : Ending) (w' : World) : Prop := ∃ v, e = .returned v ∧ Its w' w.heap.size v ((folL i a).map fun (n : Nat) => (n : Int)) ∧ Keeps (fun _ => False) w w'
/-- Of every instruction at every place. -/
def FolOk : Prop := ∀ (i : I5), i.wf → ∀ a : Nat, a < 4611686018427387904 → ∀ w : World, Calls Tryd.prog 40 #[.agg i.cells, .int .i64 a] w (FPost i a w)
end Go.Proofs.YtljapgoeomedkaaDoor
