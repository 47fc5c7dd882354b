/-
  No statement of the seat is proved here. (Several texts in one: Over, OverP.)
-/
import Derived.Test.YtbgnlenhncbceaaDoorRedoG
import Derived.Test.YtbgnlenhncbceaaDoorWords
import Derived.Laws.CopyOwn

/-
  Over on a redo log. No statement of the seat is proved here.
-/
namespace Go.Proofs.YtbgnlenhncbceaaDoor
open Go.RowKit Go.Shelf

def u64s (l : List Int) : Array Value := (wordsV l).toArray
theorem u64s_size (l : List Int) : (u64s l).size = l.length := by simp [u64s, wordsV]
theorem u64s_get (l : List Int) (i : Nat) (h : i < l.length) : (u64s l)[i]? = some (.int .u64 (oat l i)) := by simp [u64s, wordsV, oat, h]
theorem u64s_set (l : List Int) (i : Nat) (x : Int) : (u64s l).setIfInBounds i (.int .u64 x) = u64s (l.set i x) := by simp [u64s, wordsV, List.map_set]
theorem size_word : (Tryd.prog.info? 38).map (·.size) = some 1 := by kernel_rfl
theorem setRow_keeps (w : World) (x : Array Value) (cs : Array Value) : Keeps (fun _ => False) w ((w.alloc (.cells x 38)).setRow w.heap.size cs) :=
  Keeps.of_below (below_setRow ((Below.refl _ w).alloc (Nat.le_refl _) _) (Nat.le_refl _) cs) _
/-- A row of words of its own, as a whole block. -/
theorem lies_block {w : World} {g : Nat} {ws : List Int} (h : w.heap[g]? = some (.cells (u64s ws) 38 (0, 0))) (c : Nat) : Lies w (.slice (some ⟨g, 0, none⟩) ws.length c) ws :=
  ⟨_, c, rfl, fun i hi => ⟨g, 0, rfl, by rw [cell_of_block h, Nat.zero_add, u64s_get ws i hi]⟩⟩
theorem Lies.keeps {w w' : World} {v : Value} {xs : List Int} (h : Lies w v xs) (k : Keeps (fun _ => False) w w') : Lies w' v xs := by
  obtain ⟨a, c, hv, hc⟩ := h
  refine ⟨a, c, hv, fun i hi => ?_⟩
  obtain ⟨g, off, ha, hcell⟩ := hc i hi
  exact ⟨g, off, ha, (World.cell?_of_block (k.block g (World.block_lt_of_cell? _ _ hcell) (fun f => f))).trans hcell⟩

set_option maxRecDepth 100000 in
theorem copy_all (w : World) (x : Array Value) (a : Option Addr) (cap : Nat) (ws : List Int) (hs0 : x.size = ws.length) (hr : Lies w (.slice a ws.length cap) ws) :
    ∃ W, (∀ ty, (Builtin.copy_ #[39, 39] ty #[.slice (some ⟨w.heap.size, 0, none⟩) ws.length ws.length, .slice a ws.length cap]).run Tryd.prog (w.alloc (.cells x 38)) = .ok (goInt ws.length) W) ∧ W.heap[w.heap.size]? = some (.cells (u64s ws) 38 (0, 0)) ∧ W.heap.size = w.heap.size + 1 ∧ Keeps (fun _ => False) w W := by
  have hg : (w.alloc (.cells x 38)).heap[w.heap.size]? = some (.cells x 38 (0, 0)) := (MapKept.heap_alloc w _).1
  by_cases h0 : ws.length = 0
  · obtain rfl : ws = [] := List.eq_nil_of_length_eq_zero h0
    obtain rfl : x = #[] := by simpa using hs0
    exact ⟨_, fun ty => run_copy_none _ 39 39 ty 38 _ _ 0 0 0 cap Tryd.underlying39 size_word rfl, hg, by simp, (Keeps.refl _ w).alloc _⟩
  · obtain ⟨a', c', hv, hc⟩ := hr
    injection hv with e1 _ e3
    subst e1 e3
    obtain ⟨g, off, rfl, _⟩ := hc 0 (by omega)
    have hlen : (u64s ws).toList.length = ws.length := by rw [Array.length_toList, u64s_size]
    refine ⟨(w.alloc (.cells x 38)).setRow w.heap.size (u64s ws), fun ty => ?_, setRow_heap (w.alloc (.cells x 38)) w.heap.size x (u64s ws) 38 (0, 0) hg, by simp [World.setRow], setRow_keeps w x (u64s ws)⟩
    have h := run_copy_row (P := Tryd.prog) (w.alloc (.cells x 38)) 39 39 ty 38 w.heap.size 0 ws.length ws.length ⟨g, off, none⟩ ws.length cap x 38 (u64s ws).toList Tryd.underlying39 size_word hg (by rw [hlen]; simp)
      (fun j v hj => by
        have hj' : j < ws.length := by
          have := (List.getElem?_eq_some_iff.1 hj).1
          omega
        obtain ⟨g', off', ha', hc'⟩ := hc j hj'
        injection ha' with ha'
        injection ha' with q1 q2
        subst q1 q2
        rw [addr_add, World.cell?_alloc_lt _ _ _ (World.block_lt_of_cell? _ _ hc'), hc', ← u64s_get ws j hj', ← hj]
        simp)
      (by rw [hlen, hs0]; omega) (fun v hv => by
        simp [u64s, wordsV] at hv
        obtain ⟨y, _, rfl⟩ := hv
        rfl)
    rw [h, hlen]
    congr 2
    rw [List.drop_eq_nil_of_le (by simp [hs0])]
    simp

/-- The cells, each that an entry has with its word. -/
def overW (es : List (Int × Int)) (cs : List Int) : List Int := es.foldl (fun c e => c.set e.1.toNat e.2) cs
theorem overW_snoc (es : List (Int × Int)) (a x : Int) (cs : List Int) : overW (es ++ [(a, x)]) cs = (overW es cs).set a.toNat x := by simp [overW, List.foldl_append]
theorem overW_length (es : List (Int × Int)) (cs : List Int) : (overW es cs).length = cs.length := by
  refine snoc_ind (P := fun es => (overW es cs).length = cs.length) rfl (fun L c ih => ?_) es
  rw [show c = (c.1, c.2) from rfl, overW_snoc, List.length_set, ih]

theorem run_wordsF (n : Nat) (hn : n ≤ 35184372088832) (w : World) : (Instr.makeSlice 39 (.int .i64 n) (.int .i64 n)).run Tryd.prog w =
    .ok (.slice (some ⟨w.heap.size, 0, none⟩) n n) (w.alloc (.cells (madeCells #[.int .u64 0] n) 38)) := by
  obtain ⟨i0, hi, hz0, hz1, hz2⟩ := info_parts info_word
  have h := run_make (P := Tryd.prog) w 39 38 i0 _ Tryd.underlying39 hi hz0 .i64 .i64 n n (by omega) (by omega) (by rw [hz2]; omega) (by omega)
  rw [h, hz1, Int.toNat_natCast, Nat.mul_one]
  rfl

/-- Are all entries' addresses below the number of cells? -/
def Within (es : List (Int × Int)) (n : Nat) : Prop := ∀ e, e ∈ es → e.1 < (n : Int)

set_option maxRecDepth 100000 in
set_option maxHeartbeats 1000000 in
theorem redo_over (r most bt p : Nat) (es : List (Int × Int)) (pu : List Pt) (v1 v2 : Value) (K : List (Option Int)) (vf : Int → Value) (Ot : Nat → Prop) (v : Value) (cs : List Int) (w : World) (h : RedoAt w r most es pu v1 v2 bt p K vf Ot) (hr : Reads w v cs) (hes : ∀ e, e ∈ es → 0 ≤ e.1) (hw : Within es cs.length) :
    Calls Tryd.prog 20 #[.pointer (some ⟨r, 0, none⟩), v] w fun e w' => ∃ g, e = .returned (.tuple #[.slice (some ⟨g, 0, none⟩) cs.length cs.length, .int .i64 0]) ∧ w'.heap[g]? = some (.cells (u64s (overW es cs)) 38 (0, 0)) ∧ w.heap.size ≤ g ∧ Keeps (fun _ => False) w w' := by
  have ht := redo_there r bt w h.c2
  have c1 := h.c1
  obtain ⟨hcl, hlies⟩ := hr
  obtain ⟨a, cc, rfl, _⟩ := id hlies
  obtain ⟨a1, cap1, hv1, hc1, hc2⟩ := h.ents.form
  have hesl : es.length ≤ 1048576 := Nat.le_trans h.fit h.most20
  have HE : Hid (∀ W, Keeps (fun _ => False) w W → W.cell? ⟨r, 1, none⟩ = some (.slice a1 es.length cap1) ∧ ∀ k, k < es.length → ∃ g b x, a1 = some ⟨g, 0, none⟩ ∧ es[k]? = some (b, x) ∧ W.cell? ⟨g, k * 2, none⟩ = some (.int .u64 b) ∧ W.cell? ⟨g, k * 2 + 1, none⟩ = some (.int .u64 x)) := fun W hk => by
    have hW := h.kept hk (fun _ _ f => f)
    refine ⟨by rw [← hv1]; exact hW.c1, fun k hk => ?_⟩
    obtain ⟨g, cap, q1, _, _, q2, q3, _⟩ := hW.entry (i := k) (a := (es[k]).1) (x := (es[k]).2) (by rw [List.getElem?_eq_getElem hk])
    rw [hv1] at q1
    injection q1 with q1
    exact ⟨g, _, _, q1, by rw [List.getElem?_eq_getElem hk], q2, q3⟩
  rw [hv1] at c1
  clear h hv1
  go_enter Tryd.func20, Tryd.ntmps20
  go_wp2_with (first | (go_at_call 47; refine ht.mono ?_; rintro e w' ⟨rfl, hw'⟩; replace hw' := hw'.symm; subst hw'))
  go_loopw [19] (fun i wr => ∃ k : Nat, k ≤ es.length ∧ i = .int .i64 k ∧ Keeps (fun _ => False) w wr) (fun i _ => es.length - (intOf i).toNat)
  case atStart => exact ⟨0, by omega, rfl, Keeps.refl _ _⟩
  case round =>
    obtain ⟨k, hk, rfl, hK⟩ := hrel
    by_cases hlt : k < es.length
    · obtain ⟨_, hE⟩ := HE.out wr hK
      obtain ⟨g, b, x, rfl, hb, e1, e2⟩ := hE k hlt
      have hbm : (b, x) ∈ es := List.mem_of_getElem? hb
      have hb1 : b < (cs.length : Int) := hw _ hbm
      have hb0 : 0 ≤ b := hes _ hbm
      have hlt' : (k : Int) < (es.length : Int) := by omega
      clear hE hb hbm
      go_wp2_with fail
      go_roundw
      case rel => exact ⟨k + 1, by omega, by go_num, hK.alloc _⟩
      case measure => simp [intOf]; omega
    · obtain rfl : k = es.length := by omega
      have hmk := run_wordsF cs.length hcl wr
      have hx0 : (madeCells #[Value.int .u64 0] cs.length).size = cs.length := by simp [size_madeCells]
      generalize madeCells #[Value.int .u64 0] cs.length = x0 at hmk hx0
      obtain ⟨W2, hcp, hb2, hz2, hk2⟩ := copy_all wr x0 a cc cs hx0 (hlies.keeps hK)
      have hK2 := hK.trans hk2
      have c12 := (HE.out W2 hK2).1
      have HZ : Hid (wr.heap.size ≥ w.heap.size ∧ W2.heap.size = wr.heap.size + 1) := ⟨hK.size, hz2⟩
      clear hlt hk hx0 hz2 hk2 hK
      obtain ⟨g0, hg0⟩ : ∃ g, wr.heap.size = g := ⟨_, rfl⟩
      have HG : Hid (wr.heap.size = g0) := hg0
      have hb2' : Hid (W2.heap[g0]? = some (.cells (u64s cs) 38 (0, 0))) := by rw [← hg0]; exact hb2
      clear hb2
      rw [hg0] at hmk hcp
      have hg0' : Hid (w.heap.size ≤ g0) := by rw [← hg0]; exact HZ.out.1
      clear hg0 HG HZ
      go_wp2_with fail
      obtain ⟨W1, hW1⟩ : ∃ W, W = wr := ⟨_, rfl⟩
      subst hW1
      clear hmk hcp
      go_loopw [41] (fun i wr => ∃ k : Nat, k ≤ es.length ∧ i = .int .i64 k ∧ wr.heap[g0]? = some (.cells (u64s (overW (es.take k) cs)) 38 (0, 0)) ∧ Keeps (fun _ => False) w wr) (fun i _ => es.length - (intOf i).toNat)
      case atStart => exact ⟨0, by omega, rfl, by rw [List.take_zero]; exact hb2'.out, hK2⟩
      case round =>
        clear hK2 c12 hb2'
        obtain ⟨k, hk, rfl, hB, hK⟩ := hrel
        by_cases hlt : k < es.length
        · obtain ⟨_, hE⟩ := HE.out wr hK
          obtain ⟨g, b, x, rfl, hb, e1, e2⟩ := hE k hlt
          have hbm : (b, x) ∈ es := List.mem_of_getElem? hb
          have hb1 : b < (cs.length : Int) := hw _ hbm
          have hb0 : 0 ≤ b := hes _ hbm
          obtain ⟨n, rfl⟩ := Int.eq_ofNat_of_zero_le hb0
          have hn : n < cs.length := by omega
          have hlt' : (k : Int) < (es.length : Int) := by omega
          have hol : n < (overW (es.take k) cs).length := by rw [overW_length]; exact hn
          have s1 : (wr.alloc (.cells #[.int .u64 n, .int .u64 x] 72)).cell? ⟨g0, n, none⟩ = some (.int .u64 (oat (overW (es.take k) cs) n)) := by rw [cell_of_block (alloc_old hB _), u64s_get _ _ hol]
          have s2 : (wr.alloc (.cells #[.int .u64 n, .int .u64 x] 72)).frozen? ⟨g0, n, none⟩ = false := frozen_of_block (alloc_old hB _) n
          have hlx := lt_of_block hB
          have hfin : Hid (((wr.setCell ⟨g0, n, none⟩ (.int .u64 x)).alloc (.cells #[.int .u64 n, .int .u64 x] 72)).heap[g0]? = some (.cells (u64s (overW (es.take (k + 1)) cs)) 38 (0, 0)) ∧ Keeps (fun _ => False) w ((wr.setCell ⟨g0, n, none⟩ (.int .u64 x)).alloc (.cells #[.int .u64 n, .int .u64 x] 72))) := by
            refine ⟨?_, (hK.setCell (p := ⟨g0, n, none⟩) (.inl hg0'.out) _).alloc _⟩
            rw [take_succ_at hb, overW_snoc, Int.toNat_natCast, ← u64s_set]
            exact alloc_old (block_set hB n (.int .u64 x)) _
          have e1' : (wr.alloc (.cells #[.int .u64 n, .int .u64 x] 72)).cell? ⟨wr.heap.size, 0, none⟩ = some (.int .u64 n) := cell_of_block (alloc_block wr _) 0
          clear hE hb hbm hB hK hol
          go_wp2_with fail
          go_roundw
          case rel => exact ⟨k + 1, by omega, by go_num, hfin.out⟩
          case measure => simp [intOf]; omega
        · obtain rfl : k = es.length := by omega
          rw [List.take_length] at hB
          clear hlt
          go_wp2_with fail
          go_ret2
          exact ⟨g0, rfl, hB, hg0'.out, hK⟩

set_option maxRecDepth 100000 in
set_option maxHeartbeats 1000000 in
theorem redo_over_no (r most bt p : Nat) (es : List (Int × Int)) (pu : List Pt) (v1 v2 : Value) (K : List (Option Int)) (vf : Int → Value) (Ot : Nat → Prop) (v : Value) (cs : List Int) (w : World) (h : RedoAt w r most es pu v1 v2 bt p K vf Ot) (hr : Reads w v cs) (hw : ¬ Within es cs.length) :
    Calls Tryd.prog 20 #[.pointer (some ⟨r, 0, none⟩), v] w fun e w' => e = .returned (.tuple #[.slice none 0 0, .int .i64 4]) ∧ Keeps (fun _ => False) w w' := by
  have ht := redo_there r bt w h.c2
  have c1 := h.c1
  obtain ⟨hcl, hlies⟩ := hr
  obtain ⟨a, cc, rfl, _⟩ := id hlies
  obtain ⟨a1, cap1, hv1, hc1, hc2⟩ := h.ents.form
  have hesl : es.length ≤ 1048576 := Nat.le_trans h.fit h.most20
  have HE : Hid (∀ W, Keeps (fun _ => False) w W → W.cell? ⟨r, 1, none⟩ = some (.slice a1 es.length cap1) ∧ ∀ k, k < es.length → ∃ g b x, a1 = some ⟨g, 0, none⟩ ∧ es[k]? = some (b, x) ∧ W.cell? ⟨g, k * 2, none⟩ = some (.int .u64 b) ∧ W.cell? ⟨g, k * 2 + 1, none⟩ = some (.int .u64 x)) := fun W hk => by
    have hW := h.kept hk (fun _ _ f => f)
    refine ⟨by rw [← hv1]; exact hW.c1, fun k hk => ?_⟩
    obtain ⟨g, cap, q1, _, _, q2, q3, _⟩ := hW.entry (i := k) (a := (es[k]).1) (x := (es[k]).2) (by rw [List.getElem?_eq_getElem hk])
    rw [hv1] at q1
    injection q1 with q1
    exact ⟨g, _, _, q1, by rw [List.getElem?_eq_getElem hk], q2, q3⟩
  rw [hv1] at c1
  clear h hv1 hlies
  go_enter Tryd.func20, Tryd.ntmps20
  go_wp2_with (first | (go_at_call 47; refine ht.mono ?_; rintro e w' ⟨rfl, hw'⟩; replace hw' := hw'.symm; subst hw'))
  go_loopw [19] (fun i wr => ∃ k : Nat, k ≤ es.length ∧ i = .int .i64 k ∧ Keeps (fun _ => False) w wr ∧ ∀ e, e ∈ es.take k → e.1 < (cs.length : Int)) (fun i _ => es.length - (intOf i).toNat)
  case atStart => exact ⟨0, by omega, rfl, Keeps.refl _ _, fun e he => by simp at he⟩
  case round =>
    obtain ⟨k, hk, rfl, hK, hso⟩ := hrel
    have HS : Hid (∀ e, e ∈ es.take k → e.1 < (cs.length : Int)) := hso
    clear hso
    by_cases hlt : k < es.length
    · obtain ⟨_, hE⟩ := HE.out wr hK
      obtain ⟨g, b, x, rfl, hb, e1, e2⟩ := hE k hlt
      have HB : Hid (es[k]? = some (b, x)) := hb
      have hlt' : (k : Int) < (es.length : Int) := by omega
      clear hE hb
      by_cases hb1 : b < (cs.length : Int)
      · go_wp2_with fail
        go_roundw
        case rel =>
          refine ⟨k + 1, by omega, by go_num, hK.alloc _, ?_⟩
          rw [take_succ_at HB.out]
          intro e he
          rw [List.mem_append, List.mem_singleton] at he
          rcases he with he | rfl
          · exact HS.out e he
          · exact hb1
        case measure => simp [intOf]; omega
      · have hb2 : (cs.length : Int) ≤ b := by omega
        clear hb1
        go_wp2_with fail
        go_ret2
        exact ⟨rfl, hK.alloc _⟩
    · obtain rfl : k = es.length := by omega
      have h1 := HS.out
      rw [List.take_length] at h1
      exact absurd h1 hw

theorem log_over (r most : Nat) (L : List (Int × Int)) (Ow : Nat → Prop) (v : Value) (cs : List Int) (w : World) (h : LogAt w r most L Ow) (hr : Reads w v cs) (hes : ∀ e, e ∈ redoE L → 0 ≤ e.1) (hw : Within (redoE L) cs.length) :
    Calls Tryd.prog 20 #[.pointer (some ⟨r, 0, none⟩), v] w fun e w' => ∃ g, e = .returned (.tuple #[.slice (some ⟨g, 0, none⟩) cs.length cs.length, .int .i64 0]) ∧ w'.heap[g]? = some (.cells (u64s (overW (redoE L) cs)) 38 (0, 0)) ∧ w.heap.size ≤ g ∧ Keeps (fun _ => False) w w' := by
  obtain ⟨v1, v2, bt, p, K, vf, Ot, h1, h2⟩ := h
  exact redo_over r most bt p _ _ v1 v2 K vf Ot v cs w h1 hr hes hw
theorem log_over_no (r most : Nat) (L : List (Int × Int)) (Ow : Nat → Prop) (v : Value) (cs : List Int) (w : World) (h : LogAt w r most L Ow) (hr : Reads w v cs) (hw : ¬ Within (redoE L) cs.length) :
    Calls Tryd.prog 20 #[.pointer (some ⟨r, 0, none⟩), v] w fun e w' => e = .returned (.tuple #[.slice none 0 0, .int .i64 4]) ∧ Keeps (fun _ => False) w w' := by
  obtain ⟨v1, v2, bt, p, K, vf, Ot, h1, h2⟩ := h
  exact redo_over_no r most bt p _ _ v1 v2 K vf Ot v cs w h1 hr hw
end Go.Proofs.YtbgnlenhncbceaaDoor


/-
  A redo log over cells, and a second one over that. No statement of the seat is proved here.
-/
namespace Go.Proofs.YtbgnlenhncbceaaDoor

theorem overW_cons (e : Int × Int) (s : List (Int × Int)) (d : List Int) : overW (e :: s) d = overW s (d.set e.1.toNat e.2) := rfl
theorem overW_append (p s : List (Int × Int)) (d : List Int) : overW (p ++ s) d = overW s (overW p d) := by simp [overW, List.foldl_append]
theorem overW_out : ∀ (s : List (Int × Int)) (d : List Int) (a x : Int), 0 ≤ a → (∀ e, e ∈ s → 0 ≤ e.1 ∧ e.1 ≠ a) → (overW s d).set a.toNat x = overW s (d.set a.toNat x)
  | [], d, a, x, _, _ => rfl
  | e :: s, d, a, x, ha, h => by
    have he := h e (by simp)
    rw [overW_cons, overW_cons, overW_out s _ a x ha (fun q hq => h q (by simp [hq]))]
    congr 1
    rw [List.set_comm]
    omega
theorem overW_put {es : List (Int × Int)} (hd : (es.map Prod.fst).Nodup) (h0 : ∀ e, e ∈ es → 0 ≤ e.1) {a : Int} (ha : 0 ≤ a) (x : Int) (cs : List Int) : overW (putE es a x) cs = (overW es cs).set a.toNat x := by
  unfold putE
  by_cases hi : idxE es a < es.length
  · rw [if_pos hi]
    have hat := idxE_at hi
    obtain ⟨p, s, hes, hp⟩ : ∃ p s, es = p ++ (a, wordE es a) :: s ∧ p.length = idxE es a := by
      refine ⟨es.take (idxE es a), es.drop (idxE es a + 1), ?_, by rw [List.length_take]; omega⟩
      obtain ⟨_, hg⟩ := List.getElem?_eq_some_iff.1 hat
      rw [← hg, List.getElem_cons_drop, List.take_append_drop]
    have hset : es.set (idxE es a) (a, x) = p ++ (a, x) :: s := by
      rw [← hp]
      conv => lhs; rw [hes]
      simp
    have hs : ∀ e, e ∈ s → 0 ≤ e.1 ∧ e.1 ≠ a := fun e he => by
      refine ⟨h0 e (by rw [hes]; simp [he]), fun e1 => ?_⟩
      rw [hes, List.map_append, List.map_cons, List.nodup_append] at hd
      exact (List.nodup_cons.1 hd.2.1).1 (List.mem_map.2 ⟨e, he, e1⟩)
    rw [hset, overW_append, overW_cons]
    conv => rhs; rw [hes, overW_append, overW_cons]
    rw [overW_out s _ a x ha hs, List.set_set]
  · rw [if_neg hi, overW_snoc]
theorem redoE_keys (L : List (Int × Int)) (k : Int) : k ∈ (redoE L).map Prod.fst ↔ k ∈ L.map Prod.fst := by
  refine snoc_ind (P := fun L => k ∈ (redoE L).map Prod.fst ↔ k ∈ L.map Prod.fst) (by simp [redoE_nil]) (fun L c ih => ?_) L
  rw [show c = (c.1, c.2) from rfl, redoE_snoc, putE_keys, List.map_append]
  split
  · rename_i h
    rw [ih, List.mem_append]
    constructor
    · exact .inl
    · rintro (h1 | h1)
      · exact h1
      · simp at h1
        subst h1
        exact ih.1 h
  · rw [List.mem_append, List.mem_append, ih]
    simp
theorem redoE_from {L : List (Int × Int)} {P : Int → Prop} : (∀ e, e ∈ redoE L → P e.1) ↔ ∀ c, c ∈ L → P c.1 := by
  constructor
  · intro h c hc
    obtain ⟨e, he, e1⟩ := List.mem_map.1 ((redoE_keys L c.1).2 (List.mem_map.2 ⟨c, hc, rfl⟩))
    rw [← e1]
    exact h e he
  · intro h c hc
    obtain ⟨e, he, e1⟩ := List.mem_map.1 ((redoE_keys L c.1).1 (List.mem_map.2 ⟨c, hc, rfl⟩))
    rw [← e1]
    exact h e he
theorem over_redo {L : List (Int × Int)} (h0 : ∀ c, c ∈ L → 0 ≤ c.1) (cs : List Int) : overW (redoE L) cs = overW L cs := by
  revert h0
  refine snoc_ind (P := fun L => (∀ c, c ∈ L → 0 ≤ c.1) → overW (redoE L) cs = overW L cs) (fun _ => rfl) (fun L c ih h0 => ?_) L
  have h1 : ∀ c, c ∈ L → 0 ≤ c.1 := fun q hq => h0 q (by simp [hq])
  rw [show c = (c.1, c.2) from rfl, redoE_snoc, overW_snoc, overW_put (redoE_nodup L) ((redoE_from (P := fun k => 0 ≤ k)).2 h1) (h0 c (by simp)), ih h1]
/-- A second log over the first one's cells: the later one's words stand. -/
theorem over_over {A B : List (Int × Int)} (hA : ∀ c, c ∈ A → 0 ≤ c.1) (hB : ∀ c, c ∈ B → 0 ≤ c.1) (cs : List Int) : overW (redoE (A ++ B)) cs = overW (redoE B) (overW (redoE A) cs) := by
  rw [over_redo (fun c hc => by rcases List.mem_append.1 hc with h | h; exact hA c h; exact hB c h), over_redo hA, over_redo hB, overW_append]
theorem within_append {A B : List (Int × Int)} {n : Nat} (hA : Within (redoE A) n) (hB : Within (redoE B) n) : Within (redoE (A ++ B)) n := by
  unfold Within at *
  rw [redoE_from (P := fun k => k < (n : Int))] at *
  intro c hc
  rcases List.mem_append.1 hc with h | h
  · exact hA c h
  · exact hB c h

open Go.RowKit Go.Shelf
/-- Over, whatever the addresses are. -/
theorem log_over_any (r most : Nat) (L : List (Int × Int)) (Ow : Nat → Prop) (v : Value) (cs : List Int) (w : World) (h : LogAt w r most L Ow) (hr : Reads w v cs) (hL : ∀ c, c ∈ L → 0 ≤ c.1) :
    Calls Tryd.prog 20 #[.pointer (some ⟨r, 0, none⟩), v] w fun e w' => ∃ v' E ws, e = .returned (.tuple #[v', .int .i64 E]) ∧ Reads w' v' ws ∧ ((Within (redoE L) cs.length ∧ E = 0 ∧ ws = overW (redoE L) cs) ∨ (¬ Within (redoE L) cs.length ∧ E = 4 ∧ ws = [])) ∧ Keeps (fun _ => False) w w' := by
  by_cases hw : Within (redoE L) cs.length
  · refine (log_over r most L Ow v cs w h hr ((redoE_from (P := fun k => 0 ≤ k)).2 hL) hw).mono ?_
    rintro e w' ⟨g, rfl, h1, h2, h3⟩
    have h4 := lies_block h1 cs.length
    rw [overW_length] at h4
    exact ⟨_, _, _, rfl, ⟨by rw [overW_length]; exact hr.1, h4⟩, .inl ⟨hw, rfl, rfl⟩, h3⟩
  · refine (log_over_no r most L Ow v cs w h hr hw).mono ?_
    rintro e w' ⟨rfl, h1⟩
    exact ⟨_, _, [], rfl, ⟨by simp, none, 0, rfl, fun i hi => by simp at hi⟩, .inr ⟨hw, rfl, rfl⟩, h1⟩

set_option maxHeartbeats 400000 in
theorem words_same (va vb : Value) (a : List Int) (w : World) (ha : Reads w va a) (hb : Reads w vb a) :
    Calls Tryd.prog 22 #[va, vb] w fun e w' => e = .returned (.bool true) ∧ Drew w w' := by
  have hla := ha.1
  obtain ⟨aa, ca, rfl⟩ := ha.form
  obtain ⟨ab, cb, rfl⟩ := hb.form
  go_enter Tryd.func22, Tryd.ntmps22
  go_wp2_with fail
  go_loopw [5] (fun i wr => ∃ k : Nat, k ≤ a.length ∧ i = .int .i64 k ∧ Drew w wr) (fun i _ => a.length - (intOf i).toNat)
  case atStart => exact ⟨0, by omega, rfl, Drew.refl _⟩
  case round =>
    obtain ⟨k, hk, rfl, mm, rfl⟩ := hrel
    by_cases hlt : k < a.length
    · obtain ⟨g, off, rfl, d1⟩ := ha.at hlt
      obtain ⟨g', off', rfl, d2⟩ := hb.at hlt
      clear ha hb
      go_wp2_with fail
      go_quiet (fail)
      go_wp2_with fail
      go_roundw
      case rel => exact ⟨k + 1, by omega, by go_num, ⟨_, rfl⟩⟩
      case measure => simp [intOf]; omega
    · obtain rfl : k = a.length := by omega
      clear ha hb
      go_wp2_with fail
      go_ret
      exact ⟨rfl, ⟨_, rfl⟩⟩
end Go.Proofs.YtbgnlenhncbceaaDoor
