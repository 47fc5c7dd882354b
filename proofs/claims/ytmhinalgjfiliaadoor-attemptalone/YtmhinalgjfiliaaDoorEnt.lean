
/-
  Lists of entries and of Puts as they lie in memory: slices that begin at their block's first cell. No statement of the seat is proved here.
-/
import Derived.Test.YtmhinalgjfiliaaDoorTabC
import Derived.WalkSpells
import Derived.OpenShut
import Derived.Laws.OwnMore
namespace Go.Proofs.YtmhinalgjfiliaaDoor
open Go.RowKit Go.Shelf

/-- A slice that begins at its block's first cell, and reads as these cells. -/
def Row (w : World) (e : TypeId) (size : Nat) (v : Value) (n : Nat) (xs : List Value) : Prop :=
  xs.length = n * size ∧ ((v = .slice none 0 0 ∧ n = 0) ∨ ∃ g cap cur, v = .slice (some ⟨g, 0, none⟩) n cap ∧ w.heap[g]? = some (.cells cur e (0, 0)) ∧ n ≤ cap ∧ cap ≤ maxLen ∧ cap * size ≤ cur.size ∧ cur.toList.take (n * size) = xs)

section
variable {w w' : World} {e : TypeId} {size n : Nat} {v : Value} {xs : List Value}
theorem row_nil (w : World) (e : TypeId) (size : Nat) : Row w e size (.slice none 0 0) 0 [] := ⟨by simp, .inl ⟨rfl, rfl⟩⟩
theorem Row.form (h : Row w e size v n xs) : ∃ a c, v = .slice a n c ∧ n ≤ c ∧ c ≤ maxLen := by
  rcases h.2 with ⟨rfl, rfl⟩ | ⟨g, cap, cur, rfl, _, h1, h2, _⟩
  · exact ⟨none, 0, rfl, Nat.le_refl _, by unfold maxLen; omega⟩
  · exact ⟨_, _, rfl, h1, h2⟩
theorem Row.lt (h : Row w e size v n xs) {k : Nat} (hk : v.ownBlock = some k) : k < w.heap.size := by
  rcases h.2 with ⟨rfl, _⟩ | ⟨g, cap, cur, rfl, hg, _⟩
  · simp [Value.ownBlock] at hk
  · simp [Value.ownBlock] at hk
    subst hk
    exact lt_of_block hg
theorem Row.kind (h : Row w e size v n xs) {k : Nat} (hk : v.ownBlock = some k) : ∃ c, w.heap[k]? = some (.cells c e (0, 0)) := by
  rcases h.2 with ⟨rfl, _⟩ | ⟨g, cap, cur, rfl, hg, _⟩
  · simp [Value.ownBlock] at hk
  · simp [Value.ownBlock] at hk
    subst hk
    exact ⟨_, hg⟩
theorem Row.kept {S : Nat → Prop} (h : Row w e size v n xs) (k : Keeps S w w') (hS : ∀ g, v.ownBlock = some g → ¬ S g) : Row w' e size v n xs := by
  refine ⟨h.1, ?_⟩
  rcases h.2 with hn | ⟨g, cap, cur, rfl, hg, r⟩
  · exact .inl hn
  · exact .inr ⟨g, cap, cur, rfl, k.old hg (hS g rfl), r⟩
theorem Row.like {a : World} (h : Row w e size v n xs) (l : Like a w) : Row a e size v n xs := by
  refine ⟨h.1, ?_⟩
  rcases h.2 with hn | ⟨g, cap, cur, rfl, hg, r⟩
  · exact .inl hn
  · exact .inr ⟨g, cap, cur, rfl, by rw [l.heap]; exact hg, r⟩
theorem Row.at (h : Row w e size v n xs) (hn : 0 < n) : ∃ g cap, v = .slice (some ⟨g, 0, none⟩) n cap ∧ n ≤ cap ∧ cap ≤ maxLen ∧ (∀ j, j < n * size → w.cell? ⟨g, j, none⟩ = xs[j]?) ∧ ∀ j, w.frozen? ⟨g, j, none⟩ = false := by
  rcases h.2 with ⟨_, rfl⟩ | ⟨g, cap, cur, rfl, hg, h1, h2, _, hx⟩
  · omega
  · refine ⟨g, cap, rfl, h1, h2, fun j hj => ?_, fun j => frozen_of_block hg j⟩
    rw [cell_of_block hg, ← hx, List.getElem?_take, if_pos hj]
    simp
/-- A shorter slice of the same block. -/
theorem Row.cut (h : Row w e size v n xs) {m c : Nat} (hm : m ≤ n) : ∀ a c0, v = .slice a n c0 → (m ≤ c ∧ c ≤ c0) → Row w e size (.slice a m c) m (xs.take (m * size)) := by
  rintro a c0 rfl ⟨hc1, hc2⟩
  have hle : m * size ≤ n * size := Nat.mul_le_mul_right _ hm
  refine ⟨by rw [List.length_take, h.1]; omega, ?_⟩
  rcases h.2 with ⟨hv, rfl⟩ | ⟨g, cap, cur, hv, hg, h1, h2, h3, hx⟩
  · injection hv with e1 e2 e3
    subst e1 e3
    have : m = 0 := by omega
    have : c = 0 := by omega
    subst m c
    exact .inl ⟨rfl, rfl⟩
  · injection hv with e1 e2 e3
    subst e1 e3
    refine .inr ⟨g, c, cur, rfl, hg, hc1, by omega, Nat.le_trans (Nat.mul_le_mul_right _ hc2) h3, ?_⟩
    rw [← hx, List.take_take, Nat.min_eq_left hle]
/-- A cell is stored. -/
theorem Row.store (h : Row w e size v n xs) {g j : Nat} (hg : v.ownBlock = some g) (u : Value) : Row (w.setCell ⟨g, j, none⟩ u) e size v n (xs.set j u) := by
  refine ⟨by rw [List.length_set]; exact h.1, ?_⟩
  rcases h.2 with ⟨rfl, _⟩ | ⟨g', cap, cur, rfl, hb, h1, h2, h3, hx⟩
  · simp [Value.ownBlock] at hg
  · simp [Value.ownBlock] at hg
    subst hg
    refine .inr ⟨g', cap, cur.setIfInBounds j u, rfl, block_set hb j u, h1, h2, by simpa using h3, ?_⟩
    rw [Array.toList_setIfInBounds, ← hx, List.take_set]
end

theorem keeps_grown {w w' : World} {row : Option Nat} (h : w.grownBy w' row) : Keeps (fun k => row = some k) w w' :=
  ⟨h.os, h.tape, h.output, h.size, fun k hk hs => h.block k hk (fun e => hs e.symm)⟩

/-- An append of at least one element. -/
theorem run_append_row {P : Program} (w : World) (t ty e : TypeId) (i : TypeInfo) (z : Value) (size bytes : Nat) (ht : P.underlying t = some (.slice e)) (hi : P.info? e = some i) (hz : i.zero = some z)
    (hsize : i.size = size) (hby : i.bytes = bytes) (hzs : z.cells.size = size)
    {v : Value} {n : Nat} {xs : List Value} (h : Row w e size v n xs) (a : Addr) (m c : Nat) (hm : 0 < m) (news : List Value) (hl : news.length = m * size) (hnews : ∀ j u, news[j]? = some u → w.cell? (a.add j) = some u) (h1 : ∀ u ∈ news, u.oneCell' = true)
    (h63 : n + m ≤ maxLen) (hbytes : (n + m) * bytes ≤ 140737488355328) :
    ∃ g cap w', (Builtin.append_ #[t, t] ty #[v, .slice (some a) m c]).run P w = .ok (.slice (some ⟨g, 0, none⟩) (n + m) cap) w' ∧ Row w' e size (.slice (some ⟨g, 0, none⟩) (n + m) cap) (n + m) (xs ++ news) ∧
      ((g = w.heap.size ∧ Keeps (fun _ => False) w w') ∨ (v.ownBlock = some g ∧ (∃ c0, v = .slice (some ⟨g, 0, none⟩) n c0 ∧ n < c0 ∧ cap = c0) ∧ (∀ j, j < n * size → w'.cell? ⟨g, j, none⟩ = w.cell? ⟨g, j, none⟩) ∧ Keeps (fun k => k = g) w w')) := by
  subst hsize
  subst hby
  have hsmall : n + m ≤ 9223372036854775807 := by simp only [maxLen] at h63; omega
  have hlen : (xs ++ news).length = (n + m) * i.size := by rw [List.length_append, h.1, hl, Nat.add_mul]
  have grown : ∀ (old : Nat), Row (w.drew.alloc (.cells (xs.toArray ++ news.toArray ++ Builtin.zeroCells z.cells (grownCap w (n + m) old e - (n + m))) e)) e i.size
        (.slice (some ⟨w.heap.size, 0, none⟩) (n + m) (grownCap w (n + m) old e)) (n + m) (xs ++ news) ∧
      Keeps (fun _ => False) w (w.drew.alloc (.cells (xs.toArray ++ news.toArray ++ Builtin.zeroCells z.cells (grownCap w (n + m) old e - (n + m))) e)) := by
    intro old
    have hge := grownCap_ge w (n + m) old e
    have hcm : grownCap w (n + m) old e ≤ maxLen := grownCap_le_maxLen w (n + m) old e h63
    refine ⟨⟨hlen, .inr ⟨w.heap.size, _, _, rfl, heap_alloc_new w.drew _, hge, hcm, ?_, ?_⟩⟩, ⟨rfl, rfl, rfl, by simp, fun k hk _ => heap_alloc_old w.drew _ k hk⟩⟩
    · simp only [Array.size_append, List.size_toArray, size_zeroCells, hzs, h.1, hl, ← Nat.add_mul]
      refine Nat.mul_le_mul_right _ ?_
      omega
    · simp only [Array.toList_append, List.append_assoc]
      rw [← List.append_assoc, ← hlen]
      exact List.take_left
  rcases h.2 with ⟨rfl, rfl⟩ | ⟨g, cap, cur, rfl, hg, hnc, hcm, hcs, htake⟩
  · have hx : xs = [] := List.eq_nil_of_length_eq_zero (by simpa using h.1)
    subst hx
    have hr := run_append_nil (P := P) w t ty e i z ht hi hz a m c news hl hnews (by omega) (by omega) (by have hb := hbytes; simp only [Nat.zero_add] at hb; omega)
    have hgr := grown 0
    simp only [Nat.zero_add, List.nil_append, Array.empty_append] at hgr ⊢
    exact ⟨_, _, _, hr, hgr.1, .inl ⟨rfl, hgr.2⟩⟩
  · by_cases hroom : n + m ≤ cap
    · have hfit : n * i.size + news.length ≤ cur.size := by rw [hl, ← Nat.add_mul]; exact Nat.le_trans (Nat.mul_le_mul_right _ hroom) hcs
      have hr := run_append_room (P := P) w t ty e i ht hi g n cap cur hg a m c news hl hnews h1 hroom hfit
      refine ⟨_, _, _, hr, ⟨hlen, .inr ⟨g, cap, _, rfl, setRow_heap w g cur _ e _ hg, hroom, hcm, ?_, ?_⟩⟩, .inr ⟨rfl, ⟨cap, rfl, by omega, rfl⟩, fun j hj => ?_, rfl, rfl, rfl, by simp, fun k _ hk => setRow_other w g k _ hk⟩⟩
      · simp only [List.size_toArray, List.length_append, List.length_take, List.length_drop, Array.length_toList]
        omega
      · rw [htake, ← hlen]
        exact List.take_left
      · rw [cell_of_block (setRow_heap w g cur _ e _ hg), cell_of_block hg]
        have hl1 : (cur.toList.take (n * i.size)).length = n * i.size := by rw [htake]; exact h.1
        rw [List.getElem?_toArray, List.append_assoc, List.getElem?_append_left (by omega), List.getElem?_take, if_pos hj]
        simp
    · have holds : ∀ j u, xs[j]? = some u → w.cell? ((⟨g, 0, none⟩ : Addr).add j) = some u := by
        intro j u hu
        rw [addr_add, Nat.zero_add, cell_of_block hg]
        rw [← htake, List.getElem?_take] at hu
        split at hu
        · simpa using hu
        · cases hu
      have hr := run_append_grow (P := P) w t ty e i z ht hi hz ⟨g, 0, none⟩ n cap xs h.1 holds a m c news hl hnews (by omega) (by omega) (growslice_fits (by omega) hbytes)
      have hgr := grown cap
      exact ⟨_, _, _, hr, hgr.1, .inl ⟨rfl, hgr.2⟩⟩

/-- An append of one element that was just laid. -/
theorem append_lit {P : Program} {w : World} (t ty e : TypeId) (z : Value) (size bytes : Nat) (ht : P.underlying t = some (.slice e)) (hi : (P.info? e).map (fun i => (i.zero, i.size, i.bytes)) = some (some z, size, bytes)) (hzs : z.cells.size = size)
    {v : Value} {n : Nat} {xs : List Value} (h : Row w e size v n xs) (news : Array Value) (hl : news.size = size) (h1 : ∀ u ∈ news.toList, u.oneCell' = true) (h63 : n < 4398046511104) (hbytes : (n + 1) * bytes ≤ 140737488355328) :
    ∃ g cap w', (Builtin.append_ #[t, t] ty #[v, .slice (some ⟨w.heap.size, 0, none⟩) 1 1]).run P (w.alloc (.cells news e)) = .ok (.slice (some ⟨g, 0, none⟩) (n + 1) cap) w' ∧ Row w' e size (.slice (some ⟨g, 0, none⟩) (n + 1) cap) (n + 1) (xs ++ news.toList) ∧
      ((w.heap.size ≤ g ∧ Keeps (fun _ => False) w w') ∨ (v.ownBlock = some g ∧ (∃ c0, v = .slice (some ⟨g, 0, none⟩) n c0 ∧ n < c0 ∧ cap = c0) ∧ (∀ j, j < n * size → w'.cell? ⟨g, j, none⟩ = w.cell? ⟨g, j, none⟩) ∧ Keeps (fun k => k = g) w w')) := by
  obtain ⟨i0, hi0, hz0, hz1, hzb⟩ := info_parts hi
  have hk : Keeps (fun _ => False) w (w.alloc (.cells news e)) := (Keeps.refl _ w).alloc _
  have hnew : ∀ (j : Nat) (u : Value), news.toList[j]? = some u → (w.alloc (.cells news e)).cell? ((⟨w.heap.size, 0, none⟩ : Addr).add j) = some u := fun j u hj => by
    rw [addr_add, Nat.zero_add, cell_of_block (alloc_block w _)]
    simpa using hj
  obtain ⟨g, cap, w', h2, h3, h4⟩ := run_append_row (P := P) (w.alloc (.cells news e)) t ty e i0 z size bytes ht hi0 hz0 hz1 hzb hzs (h.kept hk (fun _ _ f => f)) ⟨w.heap.size, 0, none⟩ 1 1 (by decide) news.toList (by simpa using hl) hnew h1 (by unfold maxLen; omega) hbytes
  refine ⟨g, cap, w', h2, h3, ?_⟩
  rcases h4 with ⟨rfl, h5⟩ | ⟨h5, h6, h7, h8⟩
  · exact .inl ⟨by simp, hk.trans h5⟩
  · refine .inr ⟨h5, h6, fun j hj => ?_, (hk.mono (fun _ _ f => f.elim)).trans h8⟩
    rw [h7 j hj]
    exact World.cell?_alloc_lt _ _ ⟨g, j, none⟩ (h.lt h5)

theorem info_cell : (Tryd.prog.info? 44).map (fun i => (i.zero, i.size, i.bytes)) = some (some (.agg #[.int .u64 0, .int .u64 0]), 2, 16) := by kernel_rfl
theorem info_put : (Tryd.prog.info? 110).map (fun i => (i.zero, i.size, i.bytes)) = some (some (.agg #[.bool false, .int .i64 0, .int .u64 0]), 3, 24) := by kernel_rfl

/-- Entries as cells. -/
def entV (l : List (Int × Int)) : List Value := l.flatMap fun x => [.int .u64 x.1, .int .u64 x.2]
/-- What a Put leaves for the way back. -/
structure Pt where
  came : Bool
  place : Nat
  word : Int
def putV (l : List Pt) : List Value := l.flatMap fun x => [.bool x.came, .int .i64 x.place, .int .u64 x.word]

theorem entV_length (l : List (Int × Int)) : (entV l).length = l.length * 2 := by induction l with | nil => rfl | cons x l ih => simp [entV] at *; omega
theorem putV_length (l : List Pt) : (putV l).length = l.length * 3 := by induction l with | nil => rfl | cons x l ih => simp [putV] at *; omega
theorem entV_snoc (l : List (Int × Int)) (x : Int × Int) : entV (l ++ [x]) = entV l ++ [.int .u64 x.1, .int .u64 x.2] := by simp [entV]
theorem putV_snoc (l : List Pt) (x : Pt) : putV (l ++ [x]) = putV l ++ [.bool x.came, .int .i64 x.place, .int .u64 x.word] := by simp [putV]
theorem entV_take (l : List (Int × Int)) (m : Nat) : (entV l).take (m * 2) = entV (l.take m) := by
  induction l generalizing m with
  | nil => simp [entV]
  | cons x l ih =>
    cases m with
    | zero => simp [entV]
    | succ m =>
      have := ih m
      rw [Nat.add_mul]
      simp [entV] at *
      exact this
theorem putV_take (l : List Pt) (m : Nat) : (putV l).take (m * 3) = putV (l.take m) := by
  induction l generalizing m with
  | nil => simp [putV]
  | cons x l ih =>
    cases m with
    | zero => simp [putV]
    | succ m =>
      have := ih m
      rw [Nat.add_mul]
      simp [putV] at *
      exact this
theorem entV_get : ∀ (l : List (Int × Int)) (i : Nat) (x : Int × Int), l[i]? = some x → (entV l)[i * 2]? = some (.int .u64 x.1) ∧ (entV l)[i * 2 + 1]? = some (.int .u64 x.2)
  | [], i, x, h => by simp at h
  | y :: l, 0, x, h => by
    simp at h
    subst h
    simp [entV]
  | y :: l, i + 1, x, h => by
    have ih := entV_get l i x (by simpa using h)
    have e : entV (y :: l) = [Value.int .u64 y.1, .int .u64 y.2] ++ entV l := by simp [entV]
    have hr : ∀ j, (entV (y :: l))[(i + 1) * 2 + j]? = (entV l)[i * 2 + j]? := fun j => by
      rw [e, List.getElem?_append_right (by simp; omega)]
      congr 1
      simp
      omega
    exact ⟨(hr 0).trans ih.1, (hr 1).trans ih.2⟩
theorem putV_get : ∀ (l : List Pt) (i : Nat) (x : Pt), l[i]? = some x → (putV l)[i * 3]? = some (.bool x.came) ∧ (putV l)[i * 3 + 1]? = some (.int .i64 x.place) ∧ (putV l)[i * 3 + 2]? = some (.int .u64 x.word)
  | [], i, x, h => by simp at h
  | y :: l, 0, x, h => by
    simp at h
    subst h
    simp [putV]
  | y :: l, i + 1, x, h => by
    have ih := putV_get l i x (by simpa using h)
    have e : putV (y :: l) = [Value.bool y.came, .int .i64 y.place, .int .u64 y.word] ++ putV l := by simp [putV]
    have hr : ∀ j, (putV (y :: l))[(i + 1) * 3 + j]? = (putV l)[i * 3 + j]? := fun j => by
      rw [e, List.getElem?_append_right (by simp; omega)]
      congr 1
      simp
      omega
    exact ⟨(hr 0).trans ih.1, (hr 1).trans ih.2.1, (hr 2).trans ih.2.2⟩
/-- The word of an entry is stored. -/
theorem entV_set : ∀ (l : List (Int × Int)) (i : Nat) (a x y : Int), l[i]? = some (a, x) → (entV l).set (i * 2 + 1) (.int .u64 y) = entV (l.set i (a, y))
  | [], i, a, x, y, h => by simp at h
  | z :: l, 0, a, x, y, h => by
    simp at h
    subst h
    simp [entV]
  | z :: l, i + 1, a, x, y, h => by
    have ih := entV_set l i a x y (by simpa using h)
    rw [show (i + 1) * 2 + 1 = (i * 2 + 1) + 1 + 1 by omega]
    simp [entV] at *
    exact ih

theorem append_cell {w : World} {v : Value} {es : List (Int × Int)} (a x : Int) (h : Row w 44 2 v es.length (entV es)) (hn : es.length < 4398046511104) :
    ∃ g cap w', (Builtin.append_ #[23, 23] 23 #[v, .slice (some ⟨w.heap.size, 0, none⟩) 1 1]).run Tryd.prog (w.alloc (.cells #[.int .u64 a, .int .u64 x] 44)) = .ok (.slice (some ⟨g, 0, none⟩) (es.length + 1) cap) w' ∧
      Row w' 44 2 (.slice (some ⟨g, 0, none⟩) (es.length + 1) cap) (es ++ [(a, x)]).length (entV (es ++ [(a, x)])) ∧
      ((w.heap.size ≤ g ∧ Keeps (fun _ => False) w w') ∨ (v.ownBlock = some g ∧ (∃ c0, v = .slice (some ⟨g, 0, none⟩) es.length c0 ∧ es.length < c0 ∧ cap = c0) ∧ (∀ j, j < es.length * 2 → w'.cell? ⟨g, j, none⟩ = w.cell? ⟨g, j, none⟩) ∧ Keeps (fun k => k = g) w w')) := by
  obtain ⟨g, cap, w', h1, h2, h3⟩ := append_lit (P := Tryd.prog) 23 23 44 _ 2 16 Tryd.underlying23 info_cell rfl h #[.int .u64 a, .int .u64 x] rfl (by simp [Value.oneCell']) hn (by omega)
  exact ⟨g, cap, w', h1, by rw [List.length_append, entV_snoc]; exact h2, h3⟩
theorem append_put {w : World} {v : Value} {ps : List Pt} (p : Pt) (h : Row w 110 3 v ps.length (putV ps)) (hn : ps.length < 4398046511104) :
    ∃ g cap w', (Builtin.append_ #[104, 104] 104 #[v, .slice (some ⟨w.heap.size, 0, none⟩) 1 1]).run Tryd.prog (w.alloc (.cells #[.bool p.came, .int .i64 p.place, .int .u64 p.word] 110)) = .ok (.slice (some ⟨g, 0, none⟩) (ps.length + 1) cap) w' ∧
      Row w' 110 3 (.slice (some ⟨g, 0, none⟩) (ps.length + 1) cap) (ps ++ [p]).length (putV (ps ++ [p])) ∧
      ((w.heap.size ≤ g ∧ Keeps (fun _ => False) w w') ∨ (v.ownBlock = some g ∧ Keeps (fun k => k = g) w w')) := by
  obtain ⟨g, cap, w', h1, h2, h3⟩ := append_lit (P := Tryd.prog) 104 104 110 _ 3 24 Tryd.underlying104 info_put rfl h #[.bool p.came, .int .i64 p.place, .int .u64 p.word] rfl (by simp [Value.oneCell']) hn (by omega)
  refine ⟨g, cap, w', h1, by rw [List.length_append, putV_snoc]; exact h2, ?_⟩
  rcases h3 with h3 | ⟨h3, _, _, h4⟩
  · exact .inl h3
  · exact .inr ⟨h3, h4⟩
end Go.Proofs.YtmhinalgjfiliaaDoor
