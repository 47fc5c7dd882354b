
/-
  A read log's At and Copy; the document's Add and Copy. No statement of the seat is proved here.
-/
import Derived.Test.YtbgnlenhncbceaaDoorRefM
namespace Go.Proofs.YtbgnlenhncbceaaDoor
open Go.RowKit Go.Shelf

set_option maxRecDepth 100000 in
set_option maxHeartbeats 400000 in
theorem at_no (a : Option Addr) (n c : Nat) (k : Int) (w : World) (hk : k < 0 ∨ (n : Int) ≤ k) :
    Calls Tryd.prog 57 #[.slice a n c, .int .i64 k] w fun e w' => e = .returned (.tuple #[.agg #[.int .u64 0, .int .u64 0], .bool false]) ∧ Keeps (fun _ => False) w w' := by
  have hkp := (Keeps.refl (fun _ => False) w).alloc (.cells #[.int .u64 0, .int .u64 0] 72)
  go_enter Tryd.func57, Tryd.ntmps57
  by_cases hk0 : k < 0
  · clear hk
    go_wp2_with fail
    refine ⟨rfl, .tuple #[.agg #[.int .u64 0, .int .u64 0], .bool false], ?_, rfl, hkp⟩
    simp [results, Tryd.f57, go_sem]
  · replace hk : (n : Int) ≤ k := by omega
    go_wp2_with fail
    refine ⟨rfl, .tuple #[.agg #[.int .u64 0, .int .u64 0], .bool false], ?_, rfl, hkp⟩
    simp [results, Tryd.f57, go_sem]
set_option maxRecDepth 100000 in
set_option maxHeartbeats 400000 in
theorem at_yes (v : Value) (es : List (Int × Int)) (k : Nat) (w : World) (h : Pairs w v es) (hk : k < es.length) :
    Calls Tryd.prog 57 #[v, .int .i64 k] w fun e w' => e = .returned (.tuple #[.agg #[.int .u64 (es[k]'hk).1, .int .u64 (es[k]'hk).2], .bool true]) ∧ Keeps (fun _ => False) w w' := by
  obtain ⟨al, cl, rfl, hc⟩ := h
  obtain ⟨g, off, x, y, rfl, hx, h1, h2⟩ := hc k hk
  obtain ⟨_, hx2⟩ := List.getElem?_eq_some_iff.1 hx
  rw [hx2]
  dsimp only
  clear hx hx2 hc
  have hkl : (k : Int) < (es.length : Int) := by omega
  have hgs : g < w.heap.size := by
    apply Classical.byContradiction
    intro hc
    simp [World.cell?, show w.heap[g]? = none from Array.getElem?_eq_none (by omega)] at h1
  go_enter Tryd.func57, Tryd.ntmps57
  go_wp2_with fail
  refine ⟨rfl, .tuple #[.agg #[.int .u64 x, .int .u64 y], .bool true], ?_, rfl, (Keeps.refl (fun _ => False) w).alloc _⟩
  simp [results, Tryd.f57, go_sem]

/-- What At answers: the entry, or the zero one; and whether it is there. -/
def atB (es : List (Int × Int)) (k : Int) : Bool := decide (0 ≤ k ∧ k < (es.length : Int))
def atC (es : List (Int × Int)) (k : Int) : Int × Int := if 0 ≤ k then (es[k.toNat]?).getD (0, 0) else (0, 0)
theorem atC_yes {es : List (Int × Int)} {k : Nat} (hk : k < es.length) : atC es k = es[k]'hk ∧ atB es k = true := by
  constructor
  · unfold atC
    rw [if_pos (by omega)]
    simp [List.getElem?_eq_getElem hk]
  · unfold atB
    simp
    omega
theorem atC_no {es : List (Int × Int)} {k : Int} (hk : k < 0 ∨ (es.length : Int) ≤ k) : atC es k = (0, 0) ∧ atB es k = false := by
  constructor
  · unfold atC
    split
    · rw [List.getElem?_eq_none (by omega)]
      rfl
    · rfl
  · unfold atB
    simp
    omega
theorem at_any (v : Value) (es : List (Int × Int)) (k : Int) (w : World) (h : Pairs w v es) :
    Calls Tryd.prog 57 #[v, .int .i64 k] w fun e w' => e = .returned (.tuple #[.agg #[.int .u64 (atC es k).1, .int .u64 (atC es k).2], .bool (atB es k)]) ∧ Keeps (fun _ => False) w w' := by
  by_cases hk : k < 0 ∨ (es.length : Int) ≤ k
  · obtain ⟨h1, h2⟩ := atC_no hk
    rw [h1, h2]
    obtain ⟨a, c, rfl, _⟩ := h
    exact at_no a _ c k w hk
  · obtain ⟨n, rfl⟩ : ∃ n : Nat, k = n := ⟨k.toNat, by omega⟩
    obtain ⟨h1, h2⟩ := atC_yes (es := es) (k := n) (by omega)
    rw [h1, h2]
    exact at_yes v es n w h (by omega)

set_option maxRecDepth 100000 in
set_option maxHeartbeats 400000 in
/-- At of a read log. -/
theorem reads_at (r most : Nat) (es : List (Int × Int)) (v : Value) (k : Int) (w : World) (h : ReadAt w r most es v) :
    Calls Tryd.prog 39 #[.pointer (some ⟨r, 0, none⟩), .int .i64 k] w fun e w' => e = .returned (.tuple #[.agg #[.int .u64 (atC es k).1, .int .u64 (atC es k).2], .bool (atB es k)]) ∧ Keeps (fun _ => False) w w' := by
  obtain ⟨a1, c0, rfl, hc1, hc2⟩ := h.ents.form
  have hk0 := (Keeps.refl (fun _ => False) w).alloc (.cells #[.int .u64 0, .int .u64 0] 72)
  have hb0 := alloc_block w (.cells #[.int .u64 0, .int .u64 0] 72)
  have h0 := h.kept hk0 (fun f => f) (fun _ _ f => f)
  have hh := reads_handed r _ _ _ _ h0.c2 hc1
  have hp : Pairs (w.alloc (.cells #[.int .u64 0, .int .u64 0] 72)) (.slice a1 es.length es.length) es := by
    obtain ⟨a, c, e, hc⟩ := h0.ents.pairs
    injection e with e1 e2 e3
    subst e1
    exact ⟨a1, es.length, rfl, hc⟩
  have hat := at_any _ es k _ hp
  clear h h0 hp
  generalize (atC es k).1 = x at *
  generalize (atC es k).2 = y at *
  generalize atB es k = b at *
  go_enter Tryd.func39, Tryd.ntmps39
  go_wp2_with (first | (go_at_call 42; refine hh.mono ?_; rintro e w' ⟨rfl, hw'⟩; replace hw' := hw'.symm; subst hw'))
  refine hat.mono ?_
  rintro e w1 ⟨rfl, hk1⟩
  have hb1 := hk1.old hb0 (fun f => f)
  have s0 := cell_of_block hb1 0
  have s1 := cell_of_block hb1 1
  have f0 := frozen_of_block hb1 0
  have f1 := frozen_of_block hb1 1
  have hb2 := block_set (block_set hb1 0 (.int .u64 x)) 1 (.int .u64 y)
  have t0 := cell_of_block hb2 0
  have t1 := cell_of_block hb2 1
  have hend : Hid (Keeps (fun _ => False) w ((w1.setCell ⟨w.heap.size, 0, none⟩ (.int .u64 x)).setCell ⟨w.heap.size, 1, none⟩ (.int .u64 y))) := ((hk0.trans hk1).setCell (p := ⟨w.heap.size, 0, none⟩) (.inl (Nat.le_refl _)) _).setCell (p := ⟨w.heap.size, 1, none⟩) (.inl (Nat.le_refl _)) _
  clear hat hh hk1 hk0 hb0 hb1 hb2
  go_wp2_with fail
  refine ⟨rfl, .tuple #[.agg #[.int .u64 x, .int .u64 y], .bool b], ?_, rfl, hend.out⟩
  simp at t0 t1
  simp [results, Tryd.f39, go_sem, t0, t1]

set_option maxRecDepth 100000 in
set_option maxHeartbeats 400000 in
/-- Copy of a read log: a new box over the same entries, without room behind them. -/
theorem reads_copy (r most : Nat) (es : List (Int × Int)) (a : Option Addr) (c : Nat) (w : World) (h : ReadAt w r most es (.slice a es.length c)) :
    Calls Tryd.prog 11 #[.pointer (some ⟨r, 0, none⟩)] w fun e w' => ∃ b, w.heap.size ≤ b ∧ e = .returned (.pointer (some ⟨b, 0, none⟩)) ∧ w'.heap[b]? = some (.cells #[.bool true, .int .i64 most, .slice a es.length es.length] 31 (0, 0)) ∧ Keeps (fun _ => False) w w' := by
  have ht := reads_there r w h.c0
  have c1 := h.c1
  obtain ⟨a1, c0, e1, hc1, hc2⟩ := h.ents.form
  injection e1 with e0 _ e1
  subst e0
  subst e1
  have hh : ∀ W0, Like W0 w → Calls Tryd.prog 42 #[.pointer (some ⟨r, 0, none⟩)] W0 fun e w4 => e = .returned (.slice a es.length es.length) ∧ (fun W : World => W.cell? ⟨r, 1, none⟩ = some (.int .i64 most)) w4 ∧ Hid (Like w4 w) := fun W0 hl =>
    (reads_handed r _ _ _ W0 (h.like hl).c2 hc1).mono fun e w4 ⟨h1, h2⟩ => ⟨h1, by rw [h2]; exact (h.like hl).c1, by rw [h2]; exact hl⟩
  have hend : Hid (∀ W, Like W w → (W.alloc (.cells #[.bool true, .int .i64 most, .slice a es.length es.length] 31 (0, 0))).heap[W.heap.size]? = some (.cells #[.bool true, .int .i64 most, .slice a es.length es.length] 31 (0, 0)) ∧ w.heap.size ≤ W.heap.size ∧ Keeps (fun _ => False) w (W.alloc (.cells #[.bool true, .int .i64 most, .slice a es.length es.length] 31 (0, 0)))) := fun W hl => ⟨alloc_block _ _, by rw [hl.heap]; exact Nat.le_refl _, (hl.keeps (Keeps.refl _ _)).alloc _⟩
  clear h
  go_enter Tryd.func11, Tryd.ntmps11
  go_wp2_with (first | (go_at_call 41; refine ht.mono ?_; rintro e w' ⟨rfl, hw'⟩; replace hw' := hw'.symm; subst hw'))
  go_region_held3 (fun W => W.cell? ⟨r, 1, none⟩ = some (.int .i64 most)) (first | assumption | go_keep) ((go_at_call 42; refine (hh _ (by exact ⟨rfl, rfl, rfl, rfl⟩)).mono ?_; rintro e w4 ⟨rfl, hS, hH⟩))
  go_wp2_with fail
  go_ret
  obtain ⟨q1, q2, q3⟩ := hend.out w4 hH.out
  exact ⟨_, q2, rfl, q1, q3⟩

set_option maxRecDepth 100000 in
set_option maxHeartbeats 400000 in
theorem refo_add (b most : Nat) (L : List (Int × Int)) (Ow : Nat → Prop) (a x : Int) (w : World) (h : RefOwn w b most L Ow) (hm : L.length < most) (hm2 : most ≤ 1048576) :
    Calls Tryd.prog 43 #[.pointer (some ⟨b, 0, none⟩), .int .u64 a, .int .u64 x] w fun e w' => e = .returned (.int .i64 0) ∧ (∃ Ow', RefOwn w' b most (L ++ [(a, x)]) Ow' ∧ ∀ q, Ow' q → Ow q ∨ w.heap.size ≤ q) ∧ Keeps Ow w w' := by
  obtain ⟨v, h1, h2⟩ := h
  have HE : Hid (∀ w1, Like w1 w → w1.cell? ⟨b, 0, none⟩ = some (.int .i64 most) ∧ w1.cell? ⟨b, 1, none⟩ = some v ∧ ∃ g cap w2, Hid ((Builtin.append_ #[29, 29] 29 #[v, .slice (some ⟨w1.heap.size, 0, none⟩) 1 1]).run Tryd.prog (w1.alloc (.cells #[.int .u64 a, .int .u64 x] 72)) = .ok (.slice (some ⟨g, 0, none⟩) (L.length + 1) cap) w2) ∧ w2.cell? ⟨b, 1, none⟩ = some v ∧ w2.frozen? ⟨b, 1, none⟩ = false ∧
      Hid ((∃ Ow', RefOwn (w2.setCell ⟨b, 1, none⟩ (.slice (some ⟨g, 0, none⟩) (L.length + 1) cap)) b most (L ++ [(a, x)]) Ow' ∧ ∀ q, Ow' q → Ow q ∨ w.heap.size ≤ q) ∧ Keeps Ow w (w2.setCell ⟨b, 1, none⟩ (.slice (some ⟨g, 0, none⟩) (L.length + 1) cap)))) := by
    intro w1 hl
    have hk1 : Keeps (fun _ => False) w w1 := hl.keeps (Keeps.refl _ _)
    have h3 := h1.kept hk1 (fun f => f) (fun _ _ f => f)
    obtain ⟨g, cap, w2, hr, hrow, hk⟩ := append_cell a x h3.row (by omega)
    have hn := h1.ner
    have hs := hk1.size
    have kk : Keeps (fun k => v.ownBlock = some k) w1 w2 := by
      rcases hk with ⟨_, hk⟩ | ⟨q1, _, _, hk⟩
      · exact hk.mono (fun _ _ f => f.elim)
      · exact hk.mono (fun k _ f => by subst f; exact q1)
    have hb2 := kk.old h3.box hn
    have hbl := lt_of_block h1.box
    have hgb : g ≠ b := by
      rcases hk with ⟨q1, _⟩ | ⟨q1, _⟩
      · omega
      · exact fun e => hn (e ▸ q1)
    have k2 : ∀ v, Keeps (fun k => k = b) w2 (w2.setCell ⟨b, 1, none⟩ v) := fun v => (Keeps.refl (fun k => k = b) w2).setCell (p := ⟨b, 1, none⟩) (.inr rfl) v
    refine ⟨cell_of_block h3.box 0, cell_of_block h3.box 1, g, cap, w2, hr, cell_of_block hb2 1, frozen_of_block hb2 1, ⟨_, ⟨_, ⟨block_set hb2 1 _, hrow.kept (k2 _) (fun q hq => by simp [Value.ownBlock] at hq; omega)⟩, fun q => Iff.rfl⟩, ?_⟩, ?_⟩
    · rintro q (e | e)
      · exact .inl ((h2 q).2 (.inl e))
      · simp [Value.ownBlock] at e
        subst e
        rcases hk with ⟨q1, _⟩ | ⟨q1, _⟩
        · exact .inr (by omega)
        · exact .inl ((h2 _).2 (.inr q1))
    · exact ((hk1.mono (T := Ow) (fun _ _ f => f.elim)).trans (kk.mono (fun q _ e => (h2 q).2 (.inr e)))).setCell (p := ⟨b, 1, none⟩) (.inr ((h2 b).2 (.inl rfl))) _
  obtain ⟨al, cl, hv, _, _⟩ := h1.row.form
  have HV : Hid (v = .slice al L.length cl) := hv
  have c0 : w.cell? ⟨b, 0, none⟩ = some (.int .i64 most) := cell_of_block h1.box 0
  have c1 : w.cell? ⟨b, 1, none⟩ = some (.slice al L.length cl) := by rw [← hv]; exact cell_of_block h1.box 1
  have hm' : ¬ ((L.length : Int) ≥ (most : Int)) := by omega
  clear h1 h2 hv
  go_enter Tryd.func43, Tryd.ntmps43
  go_wp2_with fail
  go_quiet (fail)
  obtain ⟨c0', c1', g, cap, w2, HR, f1, f2, hend⟩ := HE.out _ (like_drewN w nq)
  rw [HV.out] at HR f1 c1'
  clear HE
  go_wp2_with (at_builtin; refine wpList_append_run rfl _ _ 29 rfl rfl rfl HR.out ?_; clear HR)
  go_ret
  exact ⟨rfl, hend.out⟩
set_option maxRecDepth 100000 in
set_option maxHeartbeats 400000 in
theorem refo_add_full (b most : Nat) (L : List (Int × Int)) (Ow : Nat → Prop) (a x : Int) (w : World) (h : RefOwn w b most L Ow) (hm : most ≤ L.length) :
    Calls Tryd.prog 43 #[.pointer (some ⟨b, 0, none⟩), .int .u64 a, .int .u64 x] w fun e w' => e = .returned (.int .i64 5) ∧ Like w' w := by
  obtain ⟨v, h1, h2⟩ := h
  obtain ⟨al, cl, hv, _, _⟩ := h1.row.form
  have c0 : w.cell? ⟨b, 0, none⟩ = some (.int .i64 most) := cell_of_block h1.box 0
  have c1 : w.cell? ⟨b, 1, none⟩ = some (.slice al L.length cl) := by rw [← hv]; exact cell_of_block h1.box 1
  have hm' : (L.length : Int) ≥ (most : Int) := by omega
  clear h1 h2 hv
  go_enter Tryd.func43, Tryd.ntmps43
  go_wp2_with fail
  go_quiet (fail)
  go_wp2_with fail
  go_ret
  exact ⟨rfl, ⟨rfl, rfl, rfl, rfl⟩⟩
end Go.Proofs.YtbgnlenhncbceaaDoor
