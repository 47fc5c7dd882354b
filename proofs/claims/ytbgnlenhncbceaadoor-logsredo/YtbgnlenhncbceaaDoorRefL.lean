
/-
  The document's own log: walks of its at, Redo and Put. No statement of the seat is proved here.
-/
import Derived.Test.YtbgnlenhncbceaaDoorRedoG
import Derived.Test.YtbgnlenhncbceaaDoorCells
namespace Go.Proofs.YtbgnlenhncbceaaDoor
open Go.RowKit Go.Shelf

theorem idxE_le_of {es : List (Int × Int)} {k : Nat} {a y : Int} (h : es[k]? = some (a, y)) : idxE es a ≤ k := by
  apply Classical.byContradiction
  intro hc
  have hk : k < es.length := (List.getElem?_eq_some_iff.1 h).1
  have := List.not_of_lt_findIdx (p := fun e : Int × Int => e.1 == a) (xs := es) (i := k) (by unfold idxE at hc; omega)
  obtain ⟨_, h2⟩ := List.getElem?_eq_some_iff.1 h
  rw [h2] at this
  simp at this
theorem idxE_succ {es : List (Int × Int)} {k : Nat} {a x y : Int} (h : es[k]? = some (x, y)) (hx : x ≠ a) (hk : k ≤ idxE es a) : k + 1 ≤ idxE es a := by
  apply Classical.byContradiction
  intro hc
  have he : idxE es a = k := by omega
  have hlt : idxE es a < es.length := by rw [he]; exact (List.getElem?_eq_some_iff.1 h).1
  have := idxE_at hlt
  rw [he, h] at this
  injection this with this
  injection this with this
  exact hx this

/-- The answer of 'at'. -/
def atE (es : List (Int × Int)) (a : Int) : Int := if idxE es a < es.length then (idxE es a : Int) else -1

set_option maxHeartbeats 400000 in
theorem ref_at (v : Value) (es : List (Int × Int)) (a : Int) (w : World) (h : Pairs w v es) (hes : es.length ≤ 4398046511104) :
    Calls Tryd.prog 52 #[v, .int .u64 a] w fun e w' => e = .returned (.int .i64 (atE es a)) ∧ w' = w := by
  obtain ⟨al, cl, rfl, hc⟩ := h
  go_enter Tryd.func52, Tryd.ntmps52
  go_wp2_with fail
  go_loop [5] (fun i => ∃ k : Nat, k ≤ es.length ∧ i = .int .i64 k ∧ k ≤ idxE es a) (fun i => es.length - (intOf i).toNat)
  case atStart => exact ⟨0, by omega, rfl, by omega⟩
  case round =>
    obtain ⟨k, hk, rfl, hki⟩ := hrel
    by_cases hlt : k < es.length
    · obtain ⟨g, off, x, y, rfl, hx, h1, h2⟩ := hc k hlt
      have hkl : (k : Int) < (es.length : Int) := by omega
      by_cases hxa : x = a
      · have hi : idxE es a = k := by
          rw [hxa] at hx
          have := idxE_le_of hx
          omega
        have hat : atE es a = (k : Int) := by unfold atE; rw [hi, if_pos hlt]
        have HAT : Hid (atE es a = (k : Int)) := hat
        subst hxa
        clear hi hat hx
        go_wp2_with fail
        go_ret
        exact ⟨by rw [HAT.out]; rfl, rfl⟩
      · have hi := idxE_succ hx hxa hki
        have HI : Hid (k + 1 ≤ idxE es a) := hi
        clear hi hki hx
        go_wp2_with fail
        go_round
        case rel => exact ⟨k + 1, by omega, by go_num, HI.out⟩
        case measure => simp [intOf]; omega
    · obtain rfl : k = es.length := by omega
      have hat : atE es a = -1 := by unfold atE; rw [if_neg (by omega)]
      have HAT : Hid (atE es a = -1) := hat
      clear hat hki
      go_wp2_with fail
      go_ret
      exact ⟨by rw [HAT.out]; rfl, rfl⟩

/-- The document's log: how many it takes, and its list. -/
structure RefAt (w : World) (b most : Nat) (L : List (Int × Int)) (v : Value) : Prop where
  box : w.heap[b]? = some (.cells #[.int .i64 most, v] 36 (0, 0))
  row : Row w 72 2 v L.length (entV L)
theorem RefAt.kept {w w' : World} {b most : Nat} {L : List (Int × Int)} {v : Value} {S : Nat → Prop} (h : RefAt w b most L v) (k : Keeps S w w') (hb : ¬ S b) (hS : ∀ g, v.ownBlock = some g → ¬ S g) : RefAt w' b most L v :=
  ⟨k.old h.box hb, h.row.kept k hS⟩
theorem RefAt.ner {w : World} {b most : Nat} {L : List (Int × Int)} {v : Value} (h : RefAt w b most L v) : v.ownBlock ≠ some b := fun e => by
  obtain ⟨c, hc⟩ := h.row.kind e
  exact absurd (kind_ne hc h.box) (by decide)

set_option maxRecDepth 100000 in
set_option maxHeartbeats 1000000 in
theorem ref_redo (b most : Nat) (L : List (Int × Int)) (v : Value) (w : World) (h : RefAt w b most L v) (hL : L.length < 4398046511104) :
    Calls Tryd.prog 27 #[.pointer (some ⟨b, 0, none⟩)] w fun e w' => ∃ vo, e = .returned vo ∧ Row w' 72 2 vo (redoE L).length (entV (redoE L)) ∧ (∀ g, vo.ownBlock = some g → w.heap.size ≤ g) ∧ Keeps (fun _ => False) w w' := by
  obtain ⟨al, cl, hv, _, _⟩ := h.row.form
  have hc1 : w.cell? ⟨b, 1, none⟩ = some (.slice al L.length cl) := by rw [← hv, cell_of_block h.box]; rfl
  have hb := lt_of_block h.box
  have hP := h.row.pairs
  rw [hv] at hP
  clear hv
  go_enter Tryd.func27, Tryd.ntmps27
  go_wp2_with fail
  go_loopw [3, 4] (fun o i wr => ∃ k : Nat, k ≤ L.length ∧ i = .int .i64 k ∧ Row wr 72 2 o (redoE (L.take k)).length (entV (redoE (L.take k))) ∧ (∀ g, o.ownBlock = some g → w.heap.size ≤ g) ∧ Keeps (fun _ => False) w wr) (fun _ i _ => L.length - (intOf i).toNat)
  case atStart => exact ⟨0, by omega, rfl, row_nil _ _ _, fun g hg => by simp [Value.ownBlock] at hg, Keeps.refl _ _⟩
  case round =>
    obtain ⟨k, hk, rfl, hrow, hnew, hK⟩ := hrel
    have hc2 : wr.cell? ⟨b, 1, none⟩ = some (.slice al L.length cl) := by rw [← hc1]; exact World.cell?_of_block (hK.block b hb (fun f => f))
    clear hc1
    by_cases hlt : k < L.length
    · obtain ⟨g, off, x, y, rfl, hx, HC⟩ := hP.fixed hlt
      obtain ⟨d1, d2⟩ := HC.out wr hK
      have hkl : (k : Int) < (L.length : Int) := by omega
      have hle := redoE_length (L.take k)
      rw [List.length_take] at hle
      have hat := ref_at u3 _ x wr hrow.pairs (by omega)
      by_cases hi : idxE (redoE (L.take k)) x < (redoE (L.take k)).length
      · obtain ⟨g2, cap2, hu3, _, _, hcell, hfr⟩ := hrow.at (by omega)
        subst hu3
        obtain ⟨e1, e2⟩ := entV_get _ _ _ (idxE_at hi)
        have s1 := (hcell _ (by omega)).trans e2
        have s2 := hfr (idxE (redoE (L.take k)) x * 2 + 1)
        have hg2 : w.heap.size ≤ g2 := hnew g2 rfl
        have hst := hrow.store (j := idxE (redoE (L.take k)) x * 2 + 1) (g := g2) rfl (.int .u64 y)
        rw [entV_set _ _ _ _ _ (idxE_at hi)] at hst
        have hE : redoE (L.take (k + 1)) = (redoE (L.take k)).set (idxE (redoE (L.take k)) x) (x, y) := by rw [take_succ_at hx, redoE_snoc]; exact if_pos hi
        have hfin : Hid (Row (wr.setCell ⟨g2, idxE (redoE (L.take k)) x * 2 + 1, none⟩ (.int .u64 y)) 72 2 (.slice (some ⟨g2, 0, none⟩) (redoE (L.take k)).length cap2) (redoE (L.take (k + 1))).length (entV (redoE (L.take (k + 1)))) ∧ Keeps (fun _ => False) w (wr.setCell ⟨g2, idxE (redoE (L.take k)) x * 2 + 1, none⟩ (.int .u64 y))) := by
          refine ⟨?_, hK.setCell (p := ⟨g2, idxE (redoE (L.take k)) x * 2 + 1, none⟩) (.inl hg2) _⟩
          rw [hE, List.length_set]
          exact hst
        have hatE : atE (redoE (L.take k)) x = (idxE (redoE (L.take k)) x : Int) := if_pos hi
        rw [hatE] at hat
        have hi' : (idxE (redoE (L.take k)) x : Int) < ((redoE (L.take k)).length : Int) := by omega
        have hi0 : (0 : Int) ≤ (idxE (redoE (L.take k)) x : Int) := by omega
        clear hcell hfr e1 e2 hst hE hatE hrow hx HC
        generalize idxE (redoE (L.take k)) x = j at *
        generalize (redoE (L.take k)).length = N at *
        go_wp2_with (go_at_call 52; refine hat.mono ?_; rintro e w' ⟨rfl, hw'⟩; replace hw' := hw'.symm; subst hw')
        go_roundw
        case rel => exact ⟨k + 1, by omega, by go_num, hfin.out.1, hnew, hfin.out.2⟩
        case measure => simp [intOf]; omega
      · obtain ⟨g1, cap1, w1, hr, hrow1, hk1⟩ := append_cell x y hrow (by omega)
        have HR : Hid (_ = _) := hr
        have hE : redoE (L.take (k + 1)) = redoE (L.take k) ++ [(x, y)] := by rw [take_succ_at hx, redoE_snoc]; exact if_neg hi
        have hfin : Hid (Row w1 72 2 (.slice (some ⟨g1, 0, none⟩) ((redoE (L.take k)).length + 1) cap1) (redoE (L.take (k + 1))).length (entV (redoE (L.take (k + 1)))) ∧ (∀ g, (Value.slice (some ⟨g1, 0, none⟩) ((redoE (L.take k)).length + 1) cap1).ownBlock = some g → w.heap.size ≤ g) ∧ Keeps (fun _ => False) w w1) := by
          rw [hE]
          have hs := hK.size
          refine ⟨hrow1, fun q hq => ?_, ?_⟩
          · simp [Value.ownBlock] at hq
            subst hq
            rcases hk1 with ⟨q1, _⟩ | ⟨q1, _⟩
            · omega
            · exact hnew _ q1
          · rcases hk1 with ⟨_, q2⟩ | ⟨q1, _, _, q2⟩
            · exact hK.trans q2
            · exact hK.step q2 (fun q hq e => by have := hnew _ q1; omega)
        have hatE : atE (redoE (L.take k)) x = -1 := if_neg hi
        rw [hatE] at hat
        obtain ⟨ao, co, hu3, _, _⟩ := hrow.form
        subst hu3
        clear hr hrow1 hk1 hE hatE hrow hx HC hi
        generalize (redoE (L.take k)).length = N at *
        go_wp2_with (first | (go_at_call 52; refine hat.mono ?_; rintro e w' ⟨rfl, hw'⟩; replace hw' := hw'.symm; subst hw') | (at_builtin; refine wpList_append_run rfl _ _ 29 rfl rfl rfl HR.out ?_; clear HR))
        go_roundw
        case rel => exact ⟨k + 1, by omega, by go_num, hfin.out⟩
        case measure => simp [intOf]; omega
    · obtain rfl : k = L.length := by omega
      rw [List.take_length] at hrow
      clear hlt
      go_wp2_with fail
      go_ret
      exact ⟨_, rfl, hrow, hnew, hK⟩
end Go.Proofs.YtbgnlenhncbceaaDoor
