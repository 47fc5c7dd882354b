
/- A copy of words; what Words and Drop say of a queue that is whole, and of one that is not (layer 23). No statement of the seat is proved here. -/
import Derived.Test.YtadbplbifjeghaaQwE
namespace Go.Proofs.Ytadbplbifjeghaa
open Go.RowKit

set_option maxRecDepth 100000 in
/-- append([]uint64{}, words...): a copy. -/
theorem app_copy (w : World) (v : Value) (xs : List Int) (hr : Lies w v xs) (hb : xs.length * 8 ≤ 140737488351232) :
    ∃ g c w', (Builtin.append_ #[36, 36] 36 #[.slice (some ⟨w.heap.size, 0, none⟩) 0 0, v]).run Try.prog (w.alloc (.cells #[] 33)) = .ok (.slice (some ⟨g, 0, none⟩) xs.length c) w' ∧ Wr w' w.heap.size (.slice (some ⟨g, 0, none⟩) xs.length c) xs ∧ Keeps (fun _ => False) w w' := by
  have ho0 : (w.alloc (.cells #[] 33)).ownsRow w.heap.size 33 1 (.slice (some ⟨w.heap.size, 0, none⟩) 0 0) 0 [] := ⟨rfl, .inr ⟨w.heap.size, 0, #[], rfl, Nat.le_refl _, alloc_block w _, Nat.le_refl _, by unfold maxLen; omega, by simp, by simp⟩⟩
  have hk0 : Keeps (fun _ => False) w (w.alloc (.cells #[] 33)) := (Keeps.refl _ w).alloc _
  obtain ⟨v1, w1, r1, o1, g1⟩ := app_words _ w.heap.size _ 0 [] ho0 v xs (hr.keeps hk0 (fun _ _ _ _ f => f)) (by omega) hk0.size
  have k1 : Keeps (fun _ => False) w w1 := hk0.step (keeps_grown g1) (fun k hk e => by simp [Value.ownBlock] at e; omega)
  simp only [Nat.zero_add, List.nil_append] at o1
  have key : ∃ g c, v1 = .slice (some ⟨g, 0, none⟩) xs.length c := by
    rcases id o1.2 with ⟨h1, h2⟩ | ⟨g, cap, cur, rfl, _⟩
    · obtain ⟨i0, hi, hz0, hz1, hz2⟩ := info_parts info_word
      obtain ⟨sp, c, rfl, hc⟩ := hr
      rw [h2] at r1
      cases sp with
      | none =>
        have hsrc : Src Try.prog i0.size 36 (.slice none 0 c) 0 [] (w.alloc (.cells #[] 33)) := Src.ofNil _ (e' := 33) Try.underlying36 c
        have s1 := run_append_nothing (w.alloc (.cells #[] 33)) 36 36 36 33 i0 Try.underlying36 hi (some ⟨w.heap.size, 0, none⟩) 0 0 (Nat.le_refl _) _ hsrc
        rw [r1] at s1
        injection s1 with e1 e2
        exact ⟨_, _, by rw [e1, h2]⟩
      | some a =>
        have s1 := run_append_room (P := Try.prog) (w.alloc (.cells #[] 33)) 36 36 33 i0 Try.underlying36 hi w.heap.size 0 0 #[] (alloc_block w _) a 0 c [] (by simp) (fun j u hj => by simp at hj) (fun u hu => by simp at hu) (Nat.le_refl _) (by simp)
        rw [r1] at s1
        injection s1 with e1 e2
        exact ⟨_, _, by rw [e1, h2]⟩
    · exact ⟨g, cap, rfl⟩
  obtain ⟨g, c, rfl⟩ := key
  exact ⟨g, c, w1, r1, o1, k1⟩
/-- The words of such a copy. -/
theorem copy_row {w : World} {base g c : Nat} {xs : List Int} (h : Wr w base (.slice (some ⟨g, 0, none⟩) xs.length c) xs) : (∃ cur, w.heap[g]? = some (.cells cur 33 (0, 0)) ∧ ∀ i, i < xs.length → cur[i]? = some (.int .u64 (oat xs i))) ∧ base ≤ g := by
  rcases id h.2 with ⟨h1, h2⟩ | ⟨g', cap, cur, e, hb, hg, _⟩
  · cases h1
  · injection e with e1 e2 e3
    injection e1 with e1
    injection e1 with e1
    subst e1
    refine ⟨⟨cur, hg, fun i hi => ?_⟩, hb⟩
    have q := World.ownsRow.cellAt h i (by omega)
    rw [cell_of_block hg] at q
    rw [q]
    simp [wordsV, oat, hi]


theorem prs_snd (W ns : List Int) : (prs W ns).map (·.2) = ns.map fun n => oat W n.toNat := by unfold prs; rw [List.map_map]; rfl
theorem qwords_all {s : Wd} {K q : Int} (hok : s.Ok) (hk : Lk s K) (hK : K + 131080 < 4611686018427387904) (hq : isW q) :
    (∃ ns s', Wh s.W q ns ∧ Wd.qwords q s = ((ns.map fun n => oat s.W n.toNat, 0), s') ∧ s'.W = s.W ∧ Lk s' (K + 131080)) ∨
    ((¬ ∃ ns, Wh s.W q ns) ∧ ∃ e s', (e = 330 ∨ e = 4) ∧ Wd.qwords q s = (([], e), s') ∧ s'.W = s.W ∧ Lk s' (K + 131080)) := by
  rcases chain_all hok hk hK hq with ⟨ns, s', a1, a2, a3, a4⟩ | ⟨no, e, s', a1, a2, a3, a4⟩
  · refine .inl ⟨ns, s', a1, ?_, a3, a4⟩
    unfold Wd.qwords
    rw [bnd_ok a2]
    unfold rtn
    rw [prs_snd]
  · refine .inr ⟨no, e, s', a1, ?_, a3, a4⟩
    unfold Wd.qwords
    rw [bnd_no a2 (by rcases a1 with rfl | rfl <;> decide)]
theorem qdrop_no {s : Wd} {K q : Int} (hok : s.Ok) (hk : Lk s K) (hK : K + 131080 < 4611686018427387904) (hq : isW q) (hno : ¬ ∃ ns, Wh s.W q ns) (r : Int) :
    ∃ e s', (e = 330 ∨ e = 4) ∧ Wd.qdrop r q s = (((), e), s') ∧ s'.W = s.W := by
  rcases chain_all hok hk hK hq with ⟨ns, s', a1, _⟩ | ⟨no, e, s', a1, a2, a3, a4⟩
  · exact absurd ⟨ns, a1⟩ hno
  · refine ⟨e, s', a1, ?_, a3⟩
    unfold Wd.qdrop
    rw [bnd_no a2 (by rcases a1 with rfl | rfl <;> decide)]
theorem wh_in {W : List Int} : ∀ {to : Int} {ns : List Int}, lk W to ns → ∀ x ∈ ns, 0 ≤ x ∧ x < W.length
  | _, [], _, x, hx => by simp at hx
  | _, n :: ns, h, x, hx => by
    rcases List.mem_cons.1 hx with rfl | hx
    · have := h.2.1
      have := h.2.2.1
      omega
    · exact wh_in h.2.2.2 x hx
theorem WdAt.lies {w : World} {b g c : Nat} {s : Wd} (h : WdAt w b g c s) : Lies w (.slice (some ⟨g, 0, none⟩) s.W.length c) s.W :=
  ⟨_, c, rfl, fun i hi => ⟨g, 0, rfl, by rw [Nat.zero_add]; exact h.wcell i hi⟩⟩
end Go.Proofs.Ytadbplbifjeghaa
