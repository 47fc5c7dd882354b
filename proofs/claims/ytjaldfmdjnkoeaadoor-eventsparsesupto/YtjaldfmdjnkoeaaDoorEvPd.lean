
/- A walk of the document's event (package parleyref13). No statement of the seat is proved here. -/
import Derived.Test.YtjaldfmdjnkoeaaDoorEvPc
import Derived.Test.YtjaldfmdjnkoeaaDoorEvTc
namespace Go.Proofs.YtjaldfmdjnkoeaaDoor
open Go.RowKit Go.Shelf

theorem fold_short : ∀ (s : List UInt8) (W : List (List UInt8)) (n : Nat), (∀ x ∈ W, x.length ≤ n) → ∀ x ∈ s.foldl stepW W, x.length ≤ n + s.length
  | [], W, n, h, x, hx => by have := h x hx; simpa using this
  | c :: s, W, n, h, x, hx => by
    have h2 : ∀ x ∈ stepW W c, x.length ≤ n + 1 := fun x hx => by
      unfold stepW at hx
      split at hx
      · rcases List.mem_append.1 hx with q | q
        · have := h x q; omega
        · simp at q; subst q; simp
      · rcases List.mem_or_eq_of_mem_set hx with q | q
        · have := h x q; omega
        · rw [q, List.length_append]
          have : ((W[W.length - 1]?).getD []).length ≤ n := by
            cases hq : W[W.length - 1]? with
            | none => simp
            | some y => exact h y (List.mem_of_getElem? hq)
          simp; omega
    have := fold_short s (stepW W c) (n + 1) h2 x hx
    rw [List.length_cons]; omega
theorem nth_short (s : List UInt8) (j : Nat) : (nthW (wordsL s) j).length ≤ s.length := by
  unfold nthW
  cases hq : (wordsL s)[j]? with
  | none => simp
  | some y =>
    have := fold_short s [[]] 0 (by simp) y (List.mem_of_getElem? hq)
    simpa using this
/-- No candidate ahead of a place matches. -/
def noM (s : List UInt8) (k i : Nat) : Prop := ∀ (k' : Int) (o : Bool), 1 ≤ k' → k' ≤ 12 → (k' < k ∨ (k' = k ∧ (if o then 1 else 0) < i)) → ¬ (formedE (cand (wordsL s) k' o) = true ∧ lineL (cand (wordsL s) k' o) = s)
theorem noM.step {s : List UInt8} {k i : Nat} (h : noM s k i) (hi : i < 2) (hn : ¬ (formedE (cand (wordsL s) k (decide (i = 1))) = true ∧ lineL (cand (wordsL s) k (decide (i = 1))) = s)) : noM s k (i + 1) := fun k' o h0 h1 hc => by
  by_cases hp : k' < k ∨ (k' = k ∧ (if o then 1 else 0) < i)
  · exact h k' o h0 h1 hp
  · obtain ⟨rfl, ho⟩ : k' = k ∧ (if o then 1 else 0) = i := by
      rcases hc with q | ⟨q, q2⟩
      · exact absurd (.inl q) hp
      · refine ⟨q, ?_⟩
        have : ¬ (if o then 1 else 0) < i := fun r => hp (.inr ⟨q, r⟩)
        omega
    have : o = decide (i = 1) := by cases o <;> simp at ho <;> subst ho <;> rfl
    rw [this]; exact hn
theorem noM.next {s : List UInt8} {k : Nat} (h : noM s k 2) : noM s (k + 1) 0 := fun k' o h0 h1 hc => h k' o h0 h1 (by
  rcases hc with q | ⟨_, q⟩
  · rcases Int.lt_or_le k' k with r | r
    · exact .inl r
    · refine .inr ⟨by omega, ?_⟩
      cases o <;> simp
  · omega)
set_option maxRecDepth 100000 in
set_option maxHeartbeats 4000000 in
theorem revent_out (s : List UInt8) (hs : s.length ≤ 1048576) (w : World) (h : (wordsL s).length < 2 ∨ 4 < (wordsL s).length) : Calls Tryd.prog 51 #[.string ⟨s.toArray⟩] w fun ex w' => ex = .returned (.tuple #[.agg ((readE s).getD ev0).cells, .bool (readE s).isSome]) ∧ Keeps (fun _ => False) w w' := by
  rw [cand_len h]
  have WD := rwords_any s hs
  have k0 := (Keeps.refl (fun _ => False) w).alloc (.cells (evV ev0) 44)
  have b0 := (MapKept.heap_alloc w (.cells (evV ev0) 44)).1
  generalize wordsL s = W at *
  by_cases h2 : W.length < 2
  · have hd : decide ((W.length : Int) < 2) = true := decide_eq_true (by omega)
    go_enter Tryd.func51, Tryd.ntmps51
    go_wp2_with fail
    refine (WD _).mono ?_
    rintro ex w1 ⟨v, rfl, oW, k1⟩
    have B1 := (k1.block _ (lt_of_block b0) (fun f => f)).trans b0
    have K1 := k0.trans k1
    obtain ⟨b, cp, rfl⟩ := oW.form
    clear oW WD b0 k0 k1
    go_wp2_with (refine wpList_store_row rfl 44 _ _ rfl w.heap.size (evV ev0) rfl rfl 44 _ B1 (ev_size _) rfl (ev_all _) ?_)
    refine bodyPost_ret (ev_ret rfl _ _ w.heap.size (evV ev0) (setRow_heap _ _ _ _ _ _ B1) rfl rfl) rfl ?_
    exact ⟨rfl, K1.row (Nat.le_refl _) _⟩
  · have hd : decide ((W.length : Int) < 2) = false := decide_eq_false (by omega)
    have hd4 : decide ((4 : Int) < (W.length : Int)) = true := decide_eq_true (by omega)
    go_enter Tryd.func51, Tryd.ntmps51
    go_wp2_with fail
    refine (WD _).mono ?_
    rintro ex w1 ⟨v, rfl, oW, k1⟩
    have B1 := (k1.block _ (lt_of_block b0) (fun f => f)).trans b0
    have K1 := k0.trans k1
    obtain ⟨b, cp, rfl⟩ := oW.form
    clear oW WD b0 k0 k1
    go_wp2_with (refine wpList_store_row rfl 44 _ _ rfl w.heap.size (evV ev0) rfl rfl 44 _ B1 (ev_size _) rfl (ev_all _) ?_)
    refine bodyPost_ret (ev_ret rfl _ _ w.heap.size (evV ev0) (setRow_heap _ _ _ _ _ _ B1) rfl rfl) rfl ?_
    exact ⟨rfl, K1.row (Nat.le_refl _) _⟩
end Go.Proofs.YtjaldfmdjnkoeaaDoor
