
/- Programs that are joined: plain facts, and programs side by side in memory. No statement of the seat is proved here. -/
import Derived.Test.YtepigjbnpkpanaaDoorIrD
namespace Go.Proofs.YtepigjbnpkpanaaDoor
open Go.RowKit Go.Shelf

theorem shift_zero {i : I5} (h : i.wf) : shift 0 i = i := by
  unfold shift
  split
  · obtain ⟨op, a, b, c, n⟩ := i
    have h1 : 0 ≤ n := h.2.2.2.2.1
    have h2 : n < 18446744073709551616 := h.2.2.2.2.2
    simp only [I5.mk.injEq, true_and]
    simp
    omega
  · rfl
theorem shift_formed (k : Nat) {i : I5} (h : formedB i = true) : formedB (shift k i) = true := by
  obtain ⟨⟨h0, h1⟩, -⟩ := formed_facts h
  unfold shift
  split
  · rename_i ht
    have hn : numB i.op = true := by
      generalize i.op = op at *
      rcases op17 h0 h1 with rfl | rfl | rfl | rfl | rfl | rfl | rfl | rfl | rfl | rfl | rfl | rfl | rfl | rfl | rfl | rfl | rfl <;> first | rfl | cases ht
    unfold formedB at h ⊢
    rw [hn] at h
    dsimp only
    rw [hn]
    simpa using h
  · exact h
theorem jn_two (A B : List I5) : jn [] [A, B] = A.map (shift 0) ++ B.map (shift (A.map (shift 0)).length) := rfl
theorem map_zero {A : List I5} (h : ∀ i ∈ A, i.wf) : A.map (shift 0) = A := by
  have e := List.map_congr_left (f := shift 0) (g := id) (l := A) (fun i hi => shift_zero (h i hi))
  rw [e]
  simp
theorem jn_wf {A B : List I5} (ha : ∀ i ∈ A, i.wf) (hb : ∀ i ∈ B, i.wf) : ∀ i ∈ jn [] [A, B], i.wf := by
  intro i hi
  rw [jn_two] at hi
  rcases List.mem_append.1 hi with hi | hi
  · obtain ⟨x, hx, rfl⟩ := List.mem_map.1 hi; exact shift_wf _ (ha x hx)
  · obtain ⟨x, hx, rfl⟩ := List.mem_map.1 hi; exact shift_wf _ (hb x hx)
theorem jn_formed {A B : List I5} (ha : ∀ i ∈ A, formedB i = true) (hb : ∀ i ∈ B, formedB i = true) : ∀ i ∈ jn [] [A, B], formedB i = true := by
  intro i hi
  rw [jn_two] at hi
  rcases List.mem_append.1 hi with hi | hi
  · obtain ⟨x, hx, rfl⟩ := List.mem_map.1 hi; exact shift_formed _ (ha x hx)
  · obtain ⟨x, hx, rfl⟩ := List.mem_map.1 hi; exact shift_formed _ (hb x hx)
theorem jn_joins {A B C : List I5} (ha : ∀ i ∈ A, i.wf) (hb : ∀ i ∈ B, i.wf) : jn [] [jn [] [A, B], C] = jn [] [A, B, C] := by
  have e : jn [] [A, B, C] = jn [] [A, B] ++ C.map (shift (jn [] [A, B]).length) := rfl
  rw [e, jn_two (jn [] [A, B]) C, map_zero (jn_wf ha hb)]
theorem jn_len2 (A B : List I5) : (jn [] [A, B]).length = A.length + B.length := by rw [jn_two]; simp
theorem jn_len3 (A B C : List I5) : (jn [] [A, B, C]).length = A.length + B.length + C.length := by
  have e : jn [] [A, B, C] = jn [] [A, B] ++ C.map (shift (jn [] [A, B]).length) := rfl
  rw [e, List.length_append, jn_len2]; simp
theorem jn_wf3 {A B C : List I5} (ha : ∀ i ∈ A, i.wf) (hb : ∀ i ∈ B, i.wf) (hc : ∀ i ∈ C, i.wf) : ∀ i ∈ jn [] [A, B, C], i.wf := by
  intro i hi
  have e : jn [] [A, B, C] = jn [] [A, B] ++ C.map (shift (jn [] [A, B]).length) := rfl
  rw [e] at hi
  rcases List.mem_append.1 hi with hi | hi
  · exact jn_wf ha hb i hi
  · obtain ⟨x, hx, rfl⟩ := List.mem_map.1 hi; exact shift_wf _ (hc x hx)

theorem prs3 {w : World} {a1 a2 a3 : Option Addr} {c1 c2 c3 : Nat} {A B C : List I5} (h1 : InsAt w (.slice a1 A.length c1) A) (h2 : InsAt w (.slice a2 B.length c2) B) (h3 : InsAt w (.slice a3 C.length c3) C) (l1 : A.length ≤ 4194304) (l2 : B.length ≤ 4194304) (l3 : C.length ≤ 4194304) :
    PrsAt (w.alloc (.cells #[.slice a1 A.length c1, .slice a2 B.length c2, .slice a3 C.length c3] 50)) (.slice (some ⟨w.heap.size, 0, none⟩) 3 3) [A, B, C] := by
  have kb := (Keeps.refl (fun _ => False) w).alloc (.cells #[.slice a1 A.length c1, .slice a2 B.length c2, .slice a3 C.length c3] 50)
  have bb := (MapKept.heap_alloc w (.cells #[.slice a1 A.length c1, .slice a2 B.length c2, .slice a3 C.length c3] 50)).1
  refine ⟨⟨_, 3, rfl, fun k hk => ?_⟩, by simp, by simp [l1, l2, l3]⟩
  have : k = 0 ∨ k = 1 ∨ k = 2 := by simp at hk; omega
  rcases this with rfl | rfl | rfl
  · exact ⟨_, 0, a1, c1, rfl, by rw [cell_of_block bb]; rfl, h1.keeps kb⟩
  · exact ⟨_, 0, a2, c2, rfl, by rw [cell_of_block bb]; rfl, h2.keeps kb⟩
  · exact ⟨_, 0, a3, c3, rfl, by rw [cell_of_block bb]; rfl, h3.keeps kb⟩
theorem prs2 {w : World} {a1 a2 : Option Addr} {c1 c2 : Nat} {A B : List I5} (h1 : InsAt w (.slice a1 A.length c1) A) (h2 : InsAt w (.slice a2 B.length c2) B) (l1 : A.length ≤ 4194304) (l2 : B.length ≤ 4194304) :
    PrsAt (w.alloc (.cells #[.slice a1 A.length c1, .slice a2 B.length c2] 50)) (.slice (some ⟨w.heap.size, 0, none⟩) 2 2) [A, B] := by
  have kb := (Keeps.refl (fun _ => False) w).alloc (.cells #[.slice a1 A.length c1, .slice a2 B.length c2] 50)
  have bb := (MapKept.heap_alloc w (.cells #[.slice a1 A.length c1, .slice a2 B.length c2] 50)).1
  refine ⟨⟨_, 2, rfl, fun k hk => ?_⟩, by simp, by simp [l1, l2]⟩
  have : k = 0 ∨ k = 1 := by simp at hk; omega
  rcases this with rfl | rfl
  · exact ⟨_, 0, a1, c1, rfl, by rw [cell_of_block bb]; rfl, h1.keeps kb⟩
  · exact ⟨_, 0, a2, c2, rfl, by rw [cell_of_block bb]; rfl, h2.keeps kb⟩
theorem prs0 (w : World) : PrsAt w (.slice none 0 0) [] := ⟨⟨none, 0, rfl, fun k hk => by simp at hk⟩, by simp, by simp⟩
theorem ins0 (w : World) : InsAt w (.slice none 0 0) [] := ⟨⟨none, 0, rfl, fun k hk => by simp at hk⟩, by simp, by simp⟩

/-- Join of none. -/
theorem join_none (w : World) : Calls Tryd.prog 30 #[.slice none 0 0] w fun e w' => ∃ b c, e = .returned (.tuple #[.slice b 0 c, .int .i64 0]) ∧ Keeps (fun _ => False) w w' := by
  refine (join_any _ [] w (prs0 w)).mono fun e w' ⟨h1, h2⟩ => ?_
  obtain ⟨v', rfl, h3⟩ := h1.1 (by simp)
  obtain ⟨b, c, rfl⟩ := h3.form
  exact ⟨b, c, rfl, h2⟩
end Go.Proofs.YtepigjbnpkpanaaDoor
