
/-
  A redo log over cells, and a second one over that. No statement of the seat is proved here.
-/
import Derived.Test.YtljcojonchfjfaaDoorOver
namespace Go.Proofs.YtljcojonchfjfaaDoor

theorem overW_cons (e : Int × Int) (s : List (Int × Int)) (d : List Int) : overW (e :: s) d = overW s (d.set e.1.toNat e.2) := rfl
theorem overW_append (p s : List (Int × Int)) (d : List Int) : overW (p ++ s) d = overW s (overW p d) := by simp [overW, List.foldl_append]
theorem overW_out : ∀ (s : List (Int × Int)) (d : List Int) (a x : Int), 0 ≤ a → (∀ e, e ∈ s → 0 ≤ e.1 ∧ e.1 ≠ a) → (overW s d).set a.toNat x = overW s (d.set a.toNat x)
  | [], d, a, x, _, _ => rfl
  | e :: s, d, a, x, ha, h => by
    have he := h e (by simp)
    rw [overW_cons, overW_cons, overW_out s _ a x ha (fun q hq => h q (by simp [hq]))]
    congr 1
    rw [List.set_comm]
    omega
theorem overW_put {es : List (Int × Int)} (hd : (es.map Prod.fst).Nodup) (h0 : ∀ e, e ∈ es → 0 ≤ e.1) {a : Int} (ha : 0 ≤ a) (x : Int) (cs : List Int) : overW (putE es a x) cs = (overW es cs).set a.toNat x := by
  unfold putE
  by_cases hi : idxE es a < es.length
  · rw [if_pos hi]
    have hat := idxE_at hi
    obtain ⟨p, s, hes, hp⟩ : ∃ p s, es = p ++ (a, wordE es a) :: s ∧ p.length = idxE es a := by
      refine ⟨es.take (idxE es a), es.drop (idxE es a + 1), ?_, by rw [List.length_take]; omega⟩
      obtain ⟨_, hg⟩ := List.getElem?_eq_some_iff.1 hat
      rw [← hg, List.getElem_cons_drop, List.take_append_drop]
    have hset : es.set (idxE es a) (a, x) = p ++ (a, x) :: s := by
      rw [← hp]
      conv => lhs; rw [hes]
      simp
    have hs : ∀ e, e ∈ s → 0 ≤ e.1 ∧ e.1 ≠ a := fun e he => by
      refine ⟨h0 e (by rw [hes]; simp [he]), fun e1 => ?_⟩
      rw [hes, List.map_append, List.map_cons, List.nodup_append] at hd
      exact (List.nodup_cons.1 hd.2.1).1 (List.mem_map.2 ⟨e, he, e1⟩)
    rw [hset, overW_append, overW_cons]
    conv => rhs; rw [hes, overW_append, overW_cons]
    rw [overW_out s _ a x ha hs, List.set_set]
  · rw [if_neg hi, overW_snoc]
theorem redoE_keys (L : List (Int × Int)) (k : Int) : k ∈ (redoE L).map Prod.fst ↔ k ∈ L.map Prod.fst := by
  refine snoc_ind (P := fun L => k ∈ (redoE L).map Prod.fst ↔ k ∈ L.map Prod.fst) (by simp [redoE_nil]) (fun L c ih => ?_) L
  rw [show c = (c.1, c.2) from rfl, redoE_snoc, putE_keys, List.map_append]
  split
  · rename_i h
    rw [ih, List.mem_append]
    constructor
    · exact .inl
    · rintro (h1 | h1)
      · exact h1
      · simp at h1
        subst h1
        exact ih.1 h
  · rw [List.mem_append, List.mem_append, ih]
    simp
theorem redoE_from {L : List (Int × Int)} {P : Int → Prop} : (∀ e, e ∈ redoE L → P e.1) ↔ ∀ c, c ∈ L → P c.1 := by
  constructor
  · intro h c hc
    obtain ⟨e, he, e1⟩ := List.mem_map.1 ((redoE_keys L c.1).2 (List.mem_map.2 ⟨c, hc, rfl⟩))
    rw [← e1]
    exact h e he
  · intro h c hc
    obtain ⟨e, he, e1⟩ := List.mem_map.1 ((redoE_keys L c.1).1 (List.mem_map.2 ⟨c, hc, rfl⟩))
    rw [← e1]
    exact h e he
theorem over_redo {L : List (Int × Int)} (h0 : ∀ c, c ∈ L → 0 ≤ c.1) (cs : List Int) : overW (redoE L) cs = overW L cs := by
  revert h0
  refine snoc_ind (P := fun L => (∀ c, c ∈ L → 0 ≤ c.1) → overW (redoE L) cs = overW L cs) (fun _ => rfl) (fun L c ih h0 => ?_) L
  have h1 : ∀ c, c ∈ L → 0 ≤ c.1 := fun q hq => h0 q (by simp [hq])
  rw [show c = (c.1, c.2) from rfl, redoE_snoc, overW_snoc, overW_put (redoE_nodup L) ((redoE_from (P := fun k => 0 ≤ k)).2 h1) (h0 c (by simp)), ih h1]
/-- A second log over the first one's cells: the later one's words stand. -/
theorem over_over {A B : List (Int × Int)} (hA : ∀ c, c ∈ A → 0 ≤ c.1) (hB : ∀ c, c ∈ B → 0 ≤ c.1) (cs : List Int) : overW (redoE (A ++ B)) cs = overW (redoE B) (overW (redoE A) cs) := by
  rw [over_redo (fun c hc => by rcases List.mem_append.1 hc with h | h; exact hA c h; exact hB c h), over_redo hA, over_redo hB, overW_append]
theorem within_append {A B : List (Int × Int)} {n : Nat} (hA : Within (redoE A) n) (hB : Within (redoE B) n) : Within (redoE (A ++ B)) n := by
  unfold Within at *
  rw [redoE_from (P := fun k => k < (n : Int))] at *
  intro c hc
  rcases List.mem_append.1 hc with h | h
  · exact hA c h
  · exact hB c h

open Go.RowKit Go.Shelf
/-- Over, whatever the addresses are. -/
theorem log_over_any (r most : Nat) (L : List (Int × Int)) (Ow : Nat → Prop) (v : Value) (cs : List Int) (w : World) (h : LogAt w r most L Ow) (hr : Reads w v cs) (hL : ∀ c, c ∈ L → 0 ≤ c.1) :
    Calls Tryd.prog 20 #[.pointer (some ⟨r, 0, none⟩), v] w fun e w' => ∃ v' E ws, e = .returned (.tuple #[v', .int .i64 E]) ∧ Reads w' v' ws ∧ ((Within (redoE L) cs.length ∧ E = 0 ∧ ws = overW (redoE L) cs) ∨ (¬ Within (redoE L) cs.length ∧ E = 4 ∧ ws = [])) ∧ Keeps (fun _ => False) w w' := by
  by_cases hw : Within (redoE L) cs.length
  · refine (log_over r most L Ow v cs w h hr ((redoE_from (P := fun k => 0 ≤ k)).2 hL) hw).mono ?_
    rintro e w' ⟨g, rfl, h1, h2, h3⟩
    have h4 := lies_block h1 cs.length
    rw [overW_length] at h4
    exact ⟨_, _, _, rfl, ⟨by rw [overW_length]; exact hr.1, h4⟩, .inl ⟨hw, rfl, rfl⟩, h3⟩
  · refine (log_over_no r most L Ow v cs w h hr hw).mono ?_
    rintro e w' ⟨rfl, h1⟩
    exact ⟨_, _, [], rfl, ⟨by simp, none, 0, rfl, fun i hi => by simp at hi⟩, .inr ⟨hw, rfl, rfl⟩, h1⟩

set_option maxHeartbeats 400000 in
theorem words_same (va vb : Value) (a : List Int) (w : World) (ha : Reads w va a) (hb : Reads w vb a) :
    Calls Tryd.prog 22 #[va, vb] w fun e w' => e = .returned (.bool true) ∧ Drew w w' := by
  have hla := ha.1
  obtain ⟨aa, ca, rfl⟩ := ha.form
  obtain ⟨ab, cb, rfl⟩ := hb.form
  go_enter Tryd.func22, Tryd.ntmps22
  go_wp2_with fail
  go_loopw [5] (fun i wr => ∃ k : Nat, k ≤ a.length ∧ i = .int .i64 k ∧ Drew w wr) (fun i _ => a.length - (intOf i).toNat)
  case atStart => exact ⟨0, by omega, rfl, Drew.refl _⟩
  case round =>
    obtain ⟨k, hk, rfl, mm, rfl⟩ := hrel
    by_cases hlt : k < a.length
    · obtain ⟨g, off, rfl, d1⟩ := ha.at hlt
      obtain ⟨g', off', rfl, d2⟩ := hb.at hlt
      clear ha hb
      go_wp2_with fail
      go_quiet (fail)
      go_wp2_with fail
      go_roundw
      case rel => exact ⟨k + 1, by omega, by go_num, ⟨_, rfl⟩⟩
      case measure => simp [intOf]; omega
    · obtain rfl : k = a.length := by omega
      clear ha hb
      go_wp2_with fail
      go_ret
      exact ⟨rfl, ⟨_, rfl⟩⟩
end Go.Proofs.YtljcojonchfjfaaDoor
