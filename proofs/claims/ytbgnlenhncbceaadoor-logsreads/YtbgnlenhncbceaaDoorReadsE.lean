
/-
  One call of the law on a read log and on the document's. No statement of the seat is proved here.
-/
import Derived.Test.YtbgnlenhncbceaaDoorTwoA
namespace Go.Proofs.YtbgnlenhncbceaaDoor
open Go.RowKit Go.Shelf
attribute [local go_sem] Oper.semAt_some

set_option maxRecDepth 100000 in
/-- append([]api.Cell{}, v...). -/
theorem app_empty (v : Value) (es : List (Int × Int)) (w : World) (h : Row w 72 2 v es.length (entV es)) (hes : es.length < 4398046511104) :
    ∃ v' w', Hid ((Builtin.append_ #[29, 29] 29 #[.slice (some ⟨w.heap.size, 0, none⟩) 0 0, v]).run Tryd.prog (w.alloc (.cells #[] 72)) = .ok v' w') ∧ Row w' 72 2 v' es.length (entV es) ∧ (∀ g, v'.ownBlock = some g → w.heap.size ≤ g) ∧ Keeps (fun _ => False) w w' := by
  obtain ⟨i0, hi0, hz0, hz1, hzb⟩ := info_parts info_cell
  have hka : Keeps (fun _ => False) w (w.alloc (.cells #[] 72)) := (Keeps.refl _ w).alloc _
  have hrow0 : Row (w.alloc (.cells #[] 72)) 72 2 (.slice (some ⟨w.heap.size, 0, none⟩) 0 0) 0 [] := ⟨rfl, .inr ⟨w.heap.size, 0, #[], rfl, alloc_block w _, Nat.le_refl _, by unfold maxLen; omega, by simp, by simp⟩⟩
  rcases h.2 with ⟨rfl, hn⟩ | ⟨g, cap, cur, rfl, hg, h1, h2, h3, h4⟩
  · obtain rfl : es = [] := List.eq_nil_of_length_eq_zero hn
    exact ⟨_, _, run_append_nothing _ 29 29 29 72 i0 Tryd.underlying29 hi0 (some ⟨w.heap.size, 0, none⟩) 0 0 (Nat.le_refl _) _ (Src.ofNil _ (e' := 72) Tryd.underlying29 0), hrow0, fun q hq => by simp [Value.ownBlock] at hq; omega, hka⟩
  · by_cases hn : es.length = 0
    · obtain rfl : es = [] := List.eq_nil_of_length_eq_zero hn
      refine ⟨.slice (some ⟨w.heap.size, 0, none⟩) 0 0, w.alloc (.cells #[] 72), ?_, hrow0, fun q hq => by simp [Value.ownBlock] at hq; omega, hka⟩
      have := run_append_room (P := Tryd.prog) (w.alloc (.cells #[] 72)) 29 29 72 i0 Tryd.underlying29 hi0 w.heap.size 0 0 #[] (alloc_block w _) ⟨g, 0, none⟩ 0 cap [] (by simp) (by simp) (by simp) (by simp) (by simp)
      rw [show (([] : List (Int × Int)).length) = 0 from rfl]
      unfold Hid
      rw [this]
      congr 1
      simp only [World.setRow, World.alloc]
      congr 1
      apply Array.ext_getElem?
      intro j
      rw [Array.getElem?_modify]
      split
      · rename_i e
        subst e
        simp
      · rfl
    · have hcell : ∀ (j : Nat) (u : Value), (entV es)[j]? = some u → (w.alloc (.cells #[] 72)).cell? ((⟨g, 0, none⟩ : Addr).add j) = some u := fun j u hj => by
        rw [addr_add, Nat.zero_add, World.cell?_alloc_lt _ _ ⟨g, j, none⟩ (lt_of_block hg), cell_of_block hg]
        rw [← h4, List.getElem?_take] at hj
        split at hj
        · simpa using hj
        · cases hj
      obtain ⟨g2, cap2, w2, q1, q2, q3⟩ := run_append_row (P := Tryd.prog) (w.alloc (.cells #[] 72)) 29 29 72 i0 _ 2 16 Tryd.underlying29 hi0 hz0 hz1 hzb rfl hrow0 ⟨g, 0, none⟩ es.length cap (by omega) (entV es) (entV_length es) hcell (fun u hu => by
        unfold entV at hu
        obtain ⟨x, _, hx⟩ := List.mem_flatMap.1 hu
        simp at hx
        rcases hx with rfl | rfl <;> rfl) (by unfold maxLen; omega) (by omega)
      simp only [Nat.zero_add, List.nil_append] at q1 q2
      refine ⟨_, w2, q1, q2, fun q hq => ?_, ?_⟩
      · simp [Value.ownBlock] at hq
        subst hq
        rcases q3 with ⟨q3, _⟩ | ⟨q3, _⟩
        · simp at q3
          omega
        · simp [Value.ownBlock] at q3
          omega
      · rcases q3 with ⟨_, q3⟩ | ⟨_, ⟨c0, q4, q5, _⟩, _, q3⟩
        · exact hka.trans q3
        · injection q4 with _ _ q4
          omega

end Go.Proofs.YtbgnlenhncbceaaDoor
