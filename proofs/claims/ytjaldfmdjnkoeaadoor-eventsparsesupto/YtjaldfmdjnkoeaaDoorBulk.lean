
/-
  A slice among arguments of small bulk is short. No statement of the seat is proved here.
-/
import Derived.Test.YtjaldfmdjnkoeaaDoorRows
namespace Go.Proofs.YtjaldfmdjnkoeaaDoor.bulks
open Go.Proofs.YtjaldfmdjnkoeaaDoor.Rows

theorem all_parts {H : Type} : ∀ l : List (DataW H), l.length ≤ uptoBulkAll l ∧ ∀ d, d ∈ l → uptoBulk d ≤ uptoBulkAll l
  | [] => ⟨Nat.zero_le _, fun _ h => nomatch h⟩
  | x :: r => by
    have hr := all_parts r
    have hx : 0 < uptoBulk x := by
      rcases x with (l | _ | _ | _ | _ | _ | _ | _)
      · cases l <;> simp [uptoBulk]
      all_goals simp [uptoBulk]
    refine ⟨by simp only [uptoBulkAll, List.length_cons]; omega, fun d hd => ?_⟩
    simp only [uptoBulkAll]
    rcases List.mem_cons.1 hd with rfl | hd
    · omega
    · have := hr.2 d hd
      omega
/-- The length of a slice that is handed in. -/
theorem slice_len {H : Type} {l : List (DataW H)} (hk : uptoSmall H l = true) {e s : List (DataW H)} (hm : .slice e s ∈ l) : e.length ≤ 1048576 := by
  have h1 := (all_parts l).2 _ hm
  have h2 := (all_parts e).1
  simp only [uptoSmall, decide_eq_true_eq] at hk
  simp only [uptoBulk] at h1
  omega
end Go.Proofs.YtjaldfmdjnkoeaaDoor.bulks
