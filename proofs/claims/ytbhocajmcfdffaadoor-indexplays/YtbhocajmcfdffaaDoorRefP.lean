/-
  The document's answer: New, Put without and with growth. No statement of the seat is proved here.
-/
import Derived.Test.YtbhocajmcfdffaaDoorRefT
import Derived.Maps.AppendAt
namespace Go.Proofs.YtbhocajmcfdffaaDoor.R
open Go.RowKit Go.Shelf

theorem info_slot : (Tryd.prog.info? 95).map (fun i => (i.zero, i.size, i.bytes)) = some (some (.agg #[.bool false, .int .u64 0, .int .u64 0]), 3, 24) := by kernel_rfl
theorem made_ref (vf : Int → Int) (n : Nat) : madeCells #[.bool false, .int .u64 0, .int .u64 0] (n * 3) = refCells vf (List.replicate n none) := by
  apply Array.ext
  · simp [size_madeCells, refCells_size]
  · intro i h1 h2
    have hi : i < n * 3 := by simpa [refCells_size] using h2
    have hs : sl (List.replicate n none) (i / 3) = none := sl_replicate n _
    have : i % 3 = 0 ∨ i % 3 = 1 ∨ i % 3 = 2 := by omega
    rcases this with e | e | e <;> simp [madeCells, refCells, hs, e, refCell]
theorem run_rslots (vf : Int → Int) (n : Nat) (hn : n ≤ 8796093022208) (w : World) : (Instr.makeSlice 46 (.int .i64 n) (.int .i64 n)).run Tryd.prog w =
    .ok (.slice (some ⟨w.heap.size, 0, none⟩) n n) (w.alloc (.cells (refCells vf (List.replicate n none)) 95)) := by
  obtain ⟨i0, hi, hz0, hz1, hz2⟩ := info_parts info_slot
  have h := run_make (P := Tryd.prog) w 46 95 i0 _ Tryd.underlying46 hi hz0 .i64 .i64 n n (by omega) (Int.le_refl _) (by rw [hz2]; omega) (by omega)
  rw [h, hz1, Int.toNat_natCast, ← made_ref vf n]
  rfl

set_option maxRecDepth 100000 in
set_option maxHeartbeats 400000 in
theorem new_at (vf : Int → Int) (w : World) : Calls Tryd.prog 10 #[] w fun e w' => e = .returned (.pointer (some ⟨w.heap.size + 1, 0, none⟩)) ∧
    Fine w' (w.heap.size + 1) w.heap.size 3 (List.replicate 8 none) [] vf (.slice none 0 0) ∧ Keeps (fun _ => False) w w' := by
  have hmk : ∀ w : World, (Instr.makeSlice 46 (.int .i64 8) (.int .i64 8)).run Tryd.prog w =
    .ok (.slice (some ⟨w.heap.size, 0, none⟩) 8 8) (w.alloc (.cells (refCells vf (List.replicate 8 none)) 95)) := run_rslots vf 8 (by omega)
  generalize hcs : refCells vf (List.replicate 8 none) = cs at *
  have HC : Hid (refCells vf (List.replicate 8 none) = cs) := hcs
  clear hcs
  go_enter Tryd.func10, Tryd.ntmps10
  go_wp2_with fail
  go_ret
  have h1 := alloc_block (w.alloc (.cells cs 95)) (.cells #[.slice (some ⟨w.heap.size, 0, none⟩) 8 8, .slice none 0 0] 48)
  rw [World.size_alloc] at h1
  refine ⟨rfl, ⟨⟨⟨_, h1⟩, ⟨#[], ?_⟩, World.ownsRow_nil _ _ _ _, by omega⟩, Inv.empty (fun k => homeP_lt 3 (by decide) k) (by decide), by simp, by decide, by decide, by simp⟩, ((Keeps.refl _ w).alloc _).alloc _⟩
  rw [Array.append_empty, HC.out]
  exact alloc_old (alloc_block w _) _

theorem set_app (a ex : Array Value) (i : Nat) (v : Value) (h : i < a.size) : (a ++ ex).setIfInBounds i v = a.setIfInBounds i v ++ ex := by
  apply Array.ext_getElem?
  intro j
  rw [Array.getElem?_setIfInBounds, Array.getElem?_append, Array.getElem?_append, Array.getElem?_setIfInBounds]
  by_cases e : i = j
  · subst e
    simp [h]
    omega
  · simp [e]

/-- What a slot's value becomes. -/
theorem refCells_value {vf : Int → Int} {K : List (Option Int)} {x : Nat} {k : Int} (u : Int) (hx : sl K x = some k) (hi : ∀ y, sl K y = some k → y = x) :
    (refCells vf K).setIfInBounds (x * 3 + 2) (.int .u64 u) = refCells (upd vf k u) K := by
  have hl := lt_of_sl hx
  apply Array.ext_getElem?
  intro i
  rw [Array.getElem?_setIfInBounds]
  by_cases hi3 : i < K.length * 3
  · obtain ⟨y, j, hj, rfl⟩ : ∃ y j, j < 3 ∧ i = y * 3 + j := ⟨i / 3, i % 3, by omega, by omega⟩
    have hy : y < K.length := by omega
    rw [refCells_get vf K y j hy hj, refCells_get _ K y j hy hj]
    by_cases e : x * 3 + 2 = y * 3 + j
    · obtain rfl : x = y := by omega
      obtain rfl : j = 2 := by omega
      rw [if_pos rfl, if_pos (by rw [refCells_size]; omega), hx, refCell_some2, upd_same]
    · rw [if_neg e]
      cases hs : sl K y with
      | none => cases j with
        | zero => rfl
        | succ j => rfl
      | some q =>
        match j, hj with
        | 0, _ => rfl
        | 1, _ => rfl
        | 2, _ =>
          rw [refCell_some2, refCell_some2, upd_other]
          rintro rfl
          have := hi y hs
          omega
  · have h1 : (refCells vf K)[i]? = none := by rw [Array.getElem?_eq_none_iff, refCells_size]; omega
    have h2 : (refCells (upd vf k u) K)[i]? = none := by rw [Array.getElem?_eq_none_iff, refCells_size]; omega
    rw [h1, h2]
    split
    · omega
    · rfl

set_option maxHeartbeats 400000 in
theorem put_nil (k u : Int) (w : World) : Calls Tryd.prog 48 #[.pointer none, .int .u64 k, .int .u64 u] w fun e w' => e = .returned (.tuple #[.int .u64 0, .bool false, .int .i64 1]) ∧ w' = w := by
  go_enter Tryd.func48, Tryd.ntmps48
  go_wp2
  go_ret3
  exact ⟨rfl, rfl⟩

/-- The blocks of a table. -/
def ROwn (b s : Nat) (v : Value) (q : Nat) : Prop := q = b ∨ q = s ∨ some q = v.ownBlock

theorem row_of_block {w w' : World} {base size n : Nat} {e : TypeId} {v : Value} {xs : List Value} (h : w.ownsRow base e size v n xs) (hb : ∀ q, some q = v.ownBlock → w'.heap[q]? = w.heap[q]?) : w'.ownsRow base e size v n xs := by
  refine ⟨h.1, ?_⟩
  rcases h.2 with h1 | ⟨g, cap, cur, rfl, h2, h3, h4⟩
  · exact .inl h1
  · exact .inr ⟨g, cap, cur, rfl, h2, (hb g rfl).trans h3, h4⟩
theorem row_ne {w : World} {base size n : Nat} {q : Nat} {e t : TypeId} {v : Value} {xs : List Value} {c : Array Value} {fr : Nat × Nat} (h : w.ownsRow base e size v n xs) (hq : w.heap[q]? = some (.cells c t fr)) (ht : t ≠ e) : some q ≠ v.ownBlock := by
  rcases h.2 with ⟨h1, _⟩ | ⟨g, cap, cur, rfl, h2, h3, h4⟩
  · rw [h1]; simp [Value.ownBlock]
  · intro e
    simp [Value.ownBlock] at e
    subst e
    rw [hq] at h3
    injection h3 with h3
    injection h3 with _ h5
    exact ht h5
theorem row_set {w : World} {base size n : Nat} {e t : TypeId} {v : Value} {xs : List Value} {p : Addr} {c : Array Value} {fr : Nat × Nat} (h : w.ownsRow base e size v n xs) (hq : w.heap[p.block]? = some (.cells c t fr)) (ht : t ≠ e) (u : Value) : (w.setCell p u).ownsRow base e size v n xs :=
  row_of_block h (fun _ hq' => Below.heap_setCell _ _ _ _ (fun e => row_ne h hq ht (e ▸ hq')))

section
variable {w w' : World} {b s p : Nat} {K : List (Option Int)} {O : List Int} {vf : Int → Int} {v : Value}
theorem RefAt.rb (h : RefAt w b s K O vf v) : some b ≠ v.ownBlock := by
  obtain ⟨c, ht⟩ := h.tab
  exact row_ne h.row ht (by decide)
theorem RefAt.rs (h : RefAt w b s K O vf v) : some s ≠ v.ownBlock := by
  obtain ⟨ex, hs⟩ := h.slots
  exact row_ne h.row hs (by decide)
theorem RefAt.kept {S : Nat → Prop} (h : RefAt w b s K O vf v) (k : Keeps S w w') (hS : ∀ q, ROwn b s v q → ¬ S q) : RefAt w' b s K O vf v :=
  ⟨h.tab.imp fun _ ht => k.old ht (hS _ (.inl rfl)), h.slots.imp fun _ hs => k.old hs (hS _ (.inr (.inl rfl))), row_of_block h.row (fun q hq => k.block q (h.row.lt q hq.symm).2 (hS q (.inr (.inr hq)))), h.bs⟩
theorem Fine.kept {S : Nat → Prop} (h : Fine w b s p K O vf v) (k : Keeps S w w') (hS : ∀ q, ROwn b s v q → ¬ S q) : Fine w' b s p K O vf v :=
  ⟨h.tab.kept k hS, h.inv, h.load, h.p3, h.p43, h.many⟩
theorem RefAt.like {a : World} (h : RefAt w b s K O vf v) (l : Like a w) : RefAt a b s K O vf v :=
  ⟨by rw [l.heap]; exact h.tab, by rw [l.heap]; exact h.slots, row_of_block h.row (fun q _ => by rw [l.heap]), h.bs⟩
theorem Fine.like {a : World} (h : Fine w b s p K O vf v) (l : Like a w) : Fine a b s p K O vf v := ⟨h.tab.like l, h.inv, h.load, h.p3, h.p43, h.many⟩
theorem RefAt.lt (h : RefAt w b s K O vf v) {q : Nat} (hq : ROwn b s v q) : q < w.heap.size := by
  rcases hq with rfl | rfl | hq
  · exact h.ltb
  · exact h.lts
  · exact (h.row.lt q hq.symm).2
end

set_option maxHeartbeats 400000 in
theorem put_in (b s p : Nat) (K : List (Option Int)) (O : List Int) (vf : Int → Int) (v : Value) (k u : Int) (w : World) (h : Fine w b s p K O vf v) (hk : k ∈ O) :
    Calls Tryd.prog 48 #[.pointer (some ⟨b, 0, none⟩), .int .u64 k, .int .u64 u] w fun e w' => e = .returned (.tuple #[.int .u64 (vf k), .bool true, .int .i64 0]) ∧
      Fine w' b s p K O (upd vf k u) v ∧ Keeps (ROwn b s v) w w' := by
  have hf := h.look k
  obtain ⟨cc, c0⟩ := h.tab.c0
  have hsl := h.slotlt k
  have hin := h.inv.slot_in hk
  have hc0 := h.tab.cs _ 0 hsl (by decide)
  have hc2 := h.tab.cs _ 2 hsl (by decide)
  rw [Nat.add_zero, hin, refCell_some0] at hc0
  rw [hin, refCell_some2] at hc2
  have hfz := h.tab.fs (slotN (2 ^ p) K (homeP p k) k * 3 + 2)
  have hpw := h.pow
  obtain ⟨ex, hslots⟩ := h.tab.slots
  have hset := block_set hslots (slotN (2 ^ p) K (homeP p k) k * 3 + 2) (.int .u64 u)
  rw [set_app _ _ _ _ (by rw [refCells_size]; omega), refCells_value u hin (fun y hy => h.inv.inj _ _ _ hy hin)] at hset
  have hF : Hid (∀ W, Like W (w.setCell ⟨s, slotN (2 ^ p) K (homeP p k) k * 3 + 2, none⟩ (.int .u64 u)) → Fine W b s p K O (upd vf k u) v ∧ Keeps (ROwn b s v) w W) := fun W hW =>
    ⟨⟨⟨h.tab.tab.imp fun _ ht => by rw [hW.heap]; exact block_other ht h.tab.bs _ _, ⟨ex, by rw [hW.heap]; exact hset⟩, row_of_block (row_set (p := ⟨s, _, none⟩) h.tab.row hslots (by decide) _) (fun q _ => by rw [hW.heap]), h.tab.bs⟩, h.inv, h.load, h.p3, h.p43, h.many⟩, hW.keeps ((Keeps.refl _ w).setCell (p := ⟨s, _, none⟩) (.inr (.inr (.inl rfl))) _)⟩
  generalize slotN (2 ^ p) K (homeP p k) k = x at *
  generalize lookN (2 ^ p) K (homeP p k) k + 1 = L at *
  generalize vf k = V at *
  clear h hin hset
  go_enter Tryd.func48, Tryd.ntmps48
  go_wp2_with fail
  refine hf.mono ?_
  rintro e w' ⟨rfl, hw'⟩
  replace hw' := hw'.symm
  subst hw'
  go_wp2_with fail
  go_ret3
  exact ⟨rfl, hF.out _ ⟨rfl, rfl, rfl, rfl⟩⟩

theorem wpList_append_run {P : Program} {w w' : World} {ops : Array Oper} {rest : List Oper} {o : Oper} {a : Act} {Q : Exit → Act → World → Prop} (hgd : o.guard = none) (s x : Operand) (t : TypeId)
    (ho : o.op = .call { callee := .builtin .append, args := #[s, x], argTypes := #[t, t] }) {v y v' : Value} (hs : a.eval s = v) (hx : a.eval x = y) (hr : (Builtin.append_ #[t, t] o.type #[v, y]).run P w = .ok v' w')
    (h : wpList P ops Q rest (a.put o.dst v') w') : wpList P ops Q (o :: rest) a w := by
  refine wpList_plain hgd fun K hK => ?_
  unfold Oper.wp
  simp [execOp, ho, resolve, invoke, builtin, hs, hx, hr, Result.andThen]
  exact hK _ _ h

/-- A word is appended to a row of words of the call's own. -/
theorem append_word {W : World} {base : Nat} {v : Value} {O : List Int} (k : Int) (h : W.ownsRow base 25 1 v O.length (wordsV O)) (hO : O.length < 4398046511104) (hb : base ≤ W.heap.size) :
    ∃ g cap w', (Builtin.append_ #[37, 37] 37 #[v, .slice (some ⟨W.heap.size, 0, none⟩) 1 1]).run Tryd.prog (W.alloc (.cells #[.int .u64 k] 25)) = .ok (.slice (some ⟨g, 0, none⟩) (O.length + 1) cap) w' ∧
      w'.ownsRow base 25 1 (.slice (some ⟨g, 0, none⟩) (O.length + 1) cap) (O ++ [k]).length (wordsV (O ++ [k])) ∧ (W.alloc (.cells #[.int .u64 k] 25)).grownBy w' v.ownBlock ∧ (v.ownBlock = some g ∨ W.heap.size ≤ g) := by
  obtain ⟨i0, hi, hz0, hz1, hzb⟩ := info_parts info_word
  have hnew : ∀ (j : Nat) (u : Value), [Value.int .u64 k][j]? = some u → (W.alloc (.cells #[.int .u64 k] 25)).cell? ((⟨W.heap.size, 0, none⟩ : Addr).add j) = some u := fun j u hj => by
    rw [addr_add, Nat.zero_add, cell_of_block (alloc_block W _)]
    simpa using hj
  obtain ⟨v', w', h1, h2, h3, _, h5⟩ := run_append_own_at (P := Tryd.prog) (W.alloc (.cells #[.int .u64 k] 25)) base 37 37 25 i0 (.int .u64 0) 1 8 Tryd.underlying37 hi hz0 hz1 hzb rfl (by decide) v O.length _ (h.alloc _) ⟨W.heap.size, 0, none⟩ 1 1 [.int .u64 k] rfl hnew (by simp [Value.oneCell']) (by unfold maxLen; omega) (by omega) (by simp; omega)
  obtain ⟨g, cap, rfl⟩ := ownsRow_succ h2
  refine ⟨g, cap, w', h1, ?_, h3, ?_⟩
  · rw [List.length_append]
    simp only [wordsV, List.map_append, List.map_cons, List.map_nil]
    exact h2
  · rcases h5 with h5 | h5
    · exact .inl h5.symm
    · right
      simp [Value.ownBlock] at h5
      omega

/-- A slot's three cells stored. -/
def slotW (w : World) (s x : Nat) (a b c : Value) : World := ((w.setCell ⟨s, x * 3, none⟩ a).setCell ⟨s, x * 3 + 1, none⟩ b).setCell ⟨s, x * 3 + 2, none⟩ c

theorem refCells_put {vf vf' : Int → Int} {K : List (Option Int)} {x : Nat} (hx : x < K.length) (o : Option Int) (hv : ∀ y q, y ≠ x → sl K y = some q → vf' q = vf q) :
    (((refCells vf K).setIfInBounds (x * 3) (refCell vf' o 0)).setIfInBounds (x * 3 + 1) (refCell vf' o 1)).setIfInBounds (x * 3 + 2) (refCell vf' o 2) = refCells vf' (K.set x o) := by
  apply Array.ext_getElem?
  intro i
  rw [Array.getElem?_setIfInBounds, Array.getElem?_setIfInBounds, Array.getElem?_setIfInBounds]
  simp only [Array.size_setIfInBounds, refCells_size]
  by_cases hi3 : i < K.length * 3
  · obtain ⟨y, j, hj, rfl⟩ : ∃ y j, j < 3 ∧ i = y * 3 + j := ⟨i / 3, i % 3, by omega, by omega⟩
    have hy : y < K.length := by omega
    rw [refCells_get vf K y j hy hj, refCells_get _ (K.set x o) y j (by simpa using hy) hj, sl_set hx]
    by_cases e : y = x
    · subst e
      rw [if_pos rfl]
      match j, hj with
      | 0, _ => rw [if_neg (by omega), if_neg (by omega), if_pos (by omega), if_pos (by omega)]
      | 1, _ => rw [if_neg (by omega), if_pos (by omega), if_pos (by omega)]
      | 2, _ => rw [if_pos (by omega), if_pos (by omega)]
    · rw [if_neg (by omega), if_neg (by omega), if_neg (by omega), if_neg e]
      cases hs : sl K y with
      | none => cases j with
        | zero => rfl
        | succ j => rfl
      | some q =>
        match j, hj with
        | 0, _ => rfl
        | 1, _ => rfl
        | 2, _ => rw [refCell_some2, refCell_some2, hv y q e hs]
  · have h1 : (refCells vf K)[i]? = none := by rw [Array.getElem?_eq_none_iff, refCells_size]; omega
    have h2 : (refCells vf' (K.set x o))[i]? = none := by rw [Array.getElem?_eq_none_iff, refCells_size]; simp; omega
    rw [h1, h2, if_neg (by omega), if_neg (by omega), if_neg (by omega)]

/-- A key comes: its slot is stored, and it is appended to the order. -/
theorem ref_comes {w : World} {b s : Nat} {K : List (Option Int)} {O : List Int} {vf : Int → Int} {v : Value} {x : Nat} (h : RefAt w b s K O vf v) (hx : x < K.length) {k0 : Int} (hn : ∀ y, sl K y ≠ some k0) (k u : Int) (hO : O.length < 4398046511104) (m : Nat) (hk0 : k0 = k := by rfl) :
    ∃ g cap w1, (Builtin.append_ #[37, 37] 37 #[v, .slice (some ⟨w.heap.size, 0, none⟩) 1 1]).run Tryd.prog (((((w.drewN m).setCell ⟨s, x * 3, none⟩ (.bool true)).setCell ⟨s, x * 3 + 1, none⟩ (.int .u64 k)).setCell ⟨s, x * 3 + 2, none⟩ (.int .u64 u)).alloc (.cells #[.int .u64 k] 25)) = .ok (.slice (some ⟨g, 0, none⟩) (O.length + 1) cap) w1 ∧
      w1.cell? ⟨b, 1, none⟩ = some v ∧ w1.frozen? ⟨b, 1, none⟩ = false ∧
      Hid (∀ W, Like W (w1.setCell ⟨b, 1, none⟩ (.slice (some ⟨g, 0, none⟩) (O.length + 1) cap)) → RefAt W b s (K.set x (some k)) (O ++ [k]) (upd vf k u) (.slice (some ⟨g, 0, none⟩) (O.length + 1) cap) ∧ Keeps (ROwn b s v) w W ∧ ∀ q, some q = (Value.slice (some ⟨g, 0, none⟩) (O.length + 1) cap).ownBlock → some q = v.ownBlock ∨ w.heap.size ≤ q) := by
  subst hk0
  obtain ⟨W0, hW0⟩ : ∃ W0, (((w.drewN m).setCell ⟨s, x * 3, none⟩ (.bool true)).setCell ⟨s, x * 3 + 1, none⟩ (.int .u64 k0)).setCell ⟨s, x * 3 + 2, none⟩ (.int .u64 u) = W0 := ⟨_, rfl⟩
  have hsz : W0.heap.size = w.heap.size := by rw [← hW0]; simp only [World.size_setCell]; rfl
  have hoth : ∀ q, q ≠ s → W0.heap[q]? = w.heap[q]? := fun q hq => by
    rw [← hW0]
    exact (Below.heap_setCell _ _ _ _ hq).trans ((Below.heap_setCell _ _ _ _ hq).trans (Below.heap_setCell _ _ _ _ hq))
  have hrow : W0.ownsRow 1 25 1 v O.length (wordsV O) := row_of_block h.row (fun q hq => hoth q (fun e => h.rs (e ▸ hq)))
  obtain ⟨cc, htab0⟩ := h.tab
  obtain ⟨ex, hslots0⟩ := h.slots
  have hslots : W0.heap[s]? = some (.cells (refCells (upd vf k0 u) (K.set x (some k0)) ++ ex) 95 (0, 0)) := by
    rw [← refCells_put hx (some k0) (vf := vf) (vf' := upd vf k0 u) (fun y q hy hq => upd_other _ _ (by rintro rfl; exact hn y hq)), refCell_some0, refCell_some1, refCell_some2, upd_same, ← hW0]
    rw [← set_app _ _ _ _ (by simp [refCells_size]; omega), ← set_app _ _ _ _ (by simp [refCells_size]; omega), ← set_app _ _ _ _ (by rw [refCells_size]; omega)]
    exact block_set (block_set (block_set (w := w.drewN m) hslots0 _ _) _ _) _ _
  have htab : W0.heap[b]? = _ := (hoth b h.bs).trans htab0
  have hlb := lt_of_block htab
  have hls := lt_of_block hslots
  obtain ⟨g, cap, w1, hr, ho, hg, hgb⟩ := append_word k0 hrow hO (by omega)
  rw [hsz] at hr hgb
  have hkeep : ∀ q, q < w.heap.size → some q ≠ v.ownBlock → w1.heap[q]? = W0.heap[q]? := fun q hq hne =>
    (hg.block q (by simp; omega) hne).trans (Below.heap_alloc _ _ _ (by omega))
  have hb1 : w1.heap[b]? = _ := (hkeep b (by omega) (row_ne hrow htab (by decide))).trans htab
  have hs1 : w1.heap[s]? = _ := (hkeep s (by omega) (row_ne hrow hslots (by decide))).trans hslots
  refine ⟨g, cap, w1, by rw [hW0]; exact hr, by rw [cell_of_block hb1]; rfl, frozen_of_block hb1 1, fun W hW => ⟨⟨?_, ?_, ?_, h.bs⟩, ?_, ?_⟩⟩
  · rw [hW.heap, List.length_set]
    exact ⟨cc, block_set hb1 1 _⟩
  · rw [hW.heap]
    exact ⟨ex, block_other hs1 (Ne.symm h.bs) 1 _⟩
  · exact row_of_block (row_set (p := ⟨b, 1, none⟩) ho hb1 (by decide) _) (fun q _ => by rw [hW.heap])
  · refine hW.keeps (Keeps.setCell (p := ⟨b, 1, none⟩) ?_ (.inr (.inl rfl)) _)
    have hos : W0.os = w.os := by rw [← hW0]; rfl
    have htp : W0.tape = w.tape := by rw [← hW0]; rfl
    have hot : W0.output = w.output := by rw [← hW0]; rfl
    refine ⟨hg.os.trans hos, hg.tape.trans htp, hg.output.trans hot, ?_, fun q hq hS => ?_⟩
    · have := hg.size
      simp at this
      omega
    · exact (hkeep q hq (fun e => hS (.inr (.inr e)))).trans (hoth q (fun e => hS (.inr (.inl e))))
  · intro q hq
    simp [Value.ownBlock] at hq
    subst hq
    rcases hgb with e | e
    · exact .inl e.symm
    · exact .inr e

set_option maxRecDepth 100000 in
set_option maxHeartbeats 400000 in
theorem put_out (b s p : Nat) (K : List (Option Int)) (O : List Int) (vf : Int → Int) (v : Value) (k u : Int) (w : World) (h : Fine w b s p K O vf v) (hk : k ∉ O) (hl : 4 * (O.length + 1) ≤ 3 * 2 ^ p) (hmo : O.length < 4398046511104) :
    Calls Tryd.prog 48 #[.pointer (some ⟨b, 0, none⟩), .int .u64 k, .int .u64 u] w fun e w' => e = .returned (.tuple #[.int .u64 0, .bool false, .int .i64 0]) ∧ ∃ v',
      Fine w' b s p (K.set (slotN (2 ^ p) K (homeP p k) k) (some k)) (O ++ [k]) (upd vf k u) v' ∧ Keeps (ROwn b s v) w w' ∧ ∀ q, some q = v'.ownBlock → some q = v.ownBlock ∨ w.heap.size ≤ q := by
  have hf := h.look k
  obtain ⟨cc, c0⟩ := h.tab.c0
  have c1 := h.tab.c1
  have hsl := h.slotlt k
  have hout := h.inv.slot_out hk
  have hc0 := h.tab.cs _ 0 hsl (by decide)
  rw [Nat.add_zero, hout, refCell_none0] at hc0
  have hc1 := h.tab.cs _ 1 hsl (by decide)
  have hc2 := h.tab.cs _ 2 hsl (by decide)
  have hfz := h.tab.fs
  have hpw := h.pow
  have hbs := h.tab.bs
  have hsb := Ne.symm hbs
  have hfb := h.tab.fb 1
  obtain ⟨a, c, rfl⟩ := row_form h.tab.row
  have hKl : Hid (K.length = 2 ^ p) := h.inv.len
  have hload : ¬ (4 * ((O.length : Int) + 1) > 3 * (K.length : Int)) := by rw [hKl.out]; omega
  have hf0 := hfz (slotN (2 ^ p) K (homeP p k) k * 3)
  have hf1 := hfz (slotN (2 ^ p) K (homeP p k) k * 3 + 1)
  have hf2 := hfz (slotN (2 ^ p) K (homeP p k) k * 3 + 2)
  have HR : Hid (∀ m, _) := fun m => ref_comes h.tab hsl (fun y => fun e => hk ((h.inv.mem k).2 ⟨y, e⟩)) k u hmo m
  have hinv := h.inv.put hk (by have := h.load; have h8 : 8 ≤ 2 ^ p := Nat.pow_le_pow_right (n := 2) (by decide) h.p3; omega)
  have HF : Hid (∀ W v', RefAt W b s (K.set (slotN (2 ^ p) K (homeP p k) k) (some k)) (O ++ [k]) (upd vf k u) v' → Fine W b s p (K.set (slotN (2 ^ p) K (homeP p k) k) (some k)) (O ++ [k]) (upd vf k u) v') := fun W v' hT =>
    ⟨hT, hinv, by simp; omega, h.p3, h.p43, by simp; omega⟩
  clear hinv
  generalize refCell vf (sl K (slotN (2 ^ p) K (homeP p k) k)) 1 = R1 at *
  generalize refCell vf (sl K (slotN (2 ^ p) K (homeP p k) k)) 2 = R2 at *
  generalize slotN (2 ^ p) K (homeP p k) k = x at *
  generalize lookN (2 ^ p) K (homeP p k) k + 1 = L at *
  clear h hfz
  go_enter Tryd.func48, Tryd.ntmps48
  go_wp2_with fail
  refine hf.mono ?_
  rintro e w' ⟨rfl, hw'⟩
  replace hw' := hw'.symm
  subst hw'
  go_wp2_with fail
  go_quiet (fail)
  obtain ⟨g, cap, w1, hr, d1, d2, hend⟩ := HR.out nq
  have HRR : Hid (_ = _) := hr
  clear hr HR
  go_wp2_with (at_builtin; refine wpList_append_run rfl _ _ 37 rfl rfl rfl HRR.out ?_; clear HRR)
  go_ret3
  obtain ⟨q1, q2, q3⟩ := hend.out _ ⟨rfl, rfl, rfl, rfl⟩
  exact ⟨rfl, _, HF.out _ _ q1, q2, q3⟩
end Go.Proofs.YtbhocajmcfdffaaDoor.R
