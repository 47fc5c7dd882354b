
/-
  A redo log as it lies in memory, and the calls on it that turn nothing, or little. No statement of the seat is proved here.
-/
import Derived.Test.YtmhinalgjfiliaaDoorRedoP
import Derived.Test.YtmhinalgjfiliaaDoorHoldGI
import Derived.Test.YtmhinalgjfiliaaDoorRoundB
namespace Go.Proofs.YtmhinalgjfiliaaDoor
open Go.RowKit Go.Shelf

/-- A redo log: its own block, its entries, its table, its Puts; S is the set of its blocks. -/
structure RedoAt (w : World) (r : Nat) (most : Nat) (es : List (Int × Int)) (pu : List Pt) (v1 v2 : Value) (bt p : Nat) (K : List (Option Int)) (vf : Int → Value) (Ot : Nat → Prop) : Prop where
  box : w.heap[r]? = some (.cells #[.int .i64 most, v1, .pointer (some ⟨bt, 0, none⟩), v2] 106 (0, 0))
  ents : Row w 44 2 v1 es.length (entV es)
  puts : Row w 110 3 v2 pu.length (putV pu)
  tab : I.Holds w bt p K (es.map Prod.fst) vf Ot
  place : ∀ (i : Nat) (a x : Int), es[i]? = some (a, x) → vf a = .int .i64 i
  fit : es.length ≤ most
  most20 : most ≤ 1048576
  many : pu.length ≤ 4398046511104
  kinds : ∀ q, Ot q → ∃ c t, w.heap[q]? = some (.cells c t (0, 0)) ∧ t ≠ 106 ∧ t ≠ 44 ∧ t ≠ 110
  pos : ∀ q, Ot q → 0 < q

/-- The blocks of a redo log. -/
def ROwn (r : Nat) (v1 v2 : Value) (Ot : Nat → Prop) (q : Nat) : Prop := q = r ∨ v1.ownBlock = some q ∨ v2.ownBlock = some q ∨ Ot q

/-- The blocks of a table in memory, by their kinds. -/
theorem holds_kinds {w : World} {b p : Nat} {K : List (Option Int)} {O : List Int} {vf : Int → Value} {Ow : Nat → Prop} (h : I.Holds w b p K O vf Ow) :
    ∀ q, Ow q → ∃ c t, w.heap[q]? = some (.cells c t (0, 0)) ∧ t ≠ 106 ∧ t ≠ 44 ∧ t ≠ 110 := by
  intro q hq
  obtain ⟨s, e0, bf, hG, hO⟩ := h
  rcases (hO q).1 hq with rfl | rfl | rfl | ⟨k, hk, rfl⟩
  · exact ⟨_, _, hG.tab.tab, by decide, by decide, by decide⟩
  · exact ⟨_, _, hG.tab.slots, by decide, by decide, by decide⟩
  · exact ⟨_, _, hG.tab.sent, by decide, by decide, by decide⟩
  · obtain ⟨a, c, he⟩ := hG.tab.key hk
    exact ⟨_, _, he, by decide, by decide, by decide⟩

section
variable {w w' : World} {r most bt p : Nat} {es : List (Int × Int)} {pu : List Pt} {v1 v2 : Value} {K : List (Option Int)} {vf : Int → Value} {Ot : Nat → Prop}
theorem RedoAt.kept {S : Nat → Prop} (h : RedoAt w r most es pu v1 v2 bt p K vf Ot) (k : Keeps S w w') (hS : ∀ q, ROwn r v1 v2 Ot q → ¬ S q) : RedoAt w' r most es pu v1 v2 bt p K vf Ot :=
  ⟨k.old h.box (hS _ (.inl rfl)), h.ents.kept k (fun g hg => hS _ (.inr (.inl hg))), h.puts.kept k (fun g hg => hS _ (.inr (.inr (.inl hg)))), h.tab.kept k (fun g hg => hS _ (.inr (.inr (.inr hg)))), h.place, h.fit, h.most20, h.many,
    fun q hq => by obtain ⟨c, t, h1, h2⟩ := h.kinds q hq; exact ⟨c, t, k.old h1 (hS _ (.inr (.inr (.inr hq)))), h2⟩, h.pos⟩
theorem RedoAt.like {a : World} (h : RedoAt w r most es pu v1 v2 bt p K vf Ot) (l : Like a w) : RedoAt a r most es pu v1 v2 bt p K vf Ot :=
  h.kept (S := fun _ => False) (l.keeps (Keeps.refl _ _)) (fun _ _ f => f)
theorem RedoAt.lt (h : RedoAt w r most es pu v1 v2 bt p K vf Ot) {q : Nat} (hq : ROwn r v1 v2 Ot q) : q < w.heap.size := by
  rcases hq with rfl | hq | hq | hq
  · exact lt_of_block h.box
  · exact h.ents.lt hq
  · exact h.puts.lt hq
  · exact h.tab.lt hq
/-- The log's own block is none of the others, and so on. -/
theorem RedoAt.ne1 (h : RedoAt w r most es pu v1 v2 bt p K vf Ot) {q : Nat} (hq : v1.ownBlock = some q) : q ≠ r ∧ v2.ownBlock ≠ some q ∧ ¬ Ot q := by
  obtain ⟨c, hc⟩ := h.ents.kind hq
  refine ⟨?_, ?_, ?_⟩
  · rintro rfl
    have := h.box
    rw [hc] at this
    injection this with this
    injection this with _ h2 _
    exact absurd h2 (by decide)
  · intro h2
    obtain ⟨c', hc'⟩ := h.puts.kind h2
    rw [hc] at hc'
    injection hc' with this
    injection this with _ h2 _
    exact absurd h2 (by decide)
  · intro h2
    obtain ⟨c', t, h3, _, h4, _⟩ := h.kinds q h2
    rw [hc] at h3
    injection h3 with this
    injection this with _ h5 _
    exact h4 h5.symm
theorem RedoAt.ne2 (h : RedoAt w r most es pu v1 v2 bt p K vf Ot) {q : Nat} (hq : v2.ownBlock = some q) : q ≠ r ∧ v1.ownBlock ≠ some q ∧ ¬ Ot q := by
  obtain ⟨c, hc⟩ := h.puts.kind hq
  refine ⟨?_, ?_, ?_⟩
  · rintro rfl
    have := h.box
    rw [hc] at this
    injection this with this
    injection this with _ h2 _
    exact absurd h2 (by decide)
  · intro h2
    exact (h.ne1 h2).2.1 hq
  · intro h2
    obtain ⟨c', t, h3, _, _, h4⟩ := h.kinds q h2
    rw [hc] at h3
    injection h3 with this
    injection this with _ h5 _
    exact h4 h5.symm
theorem RedoAt.ner (h : RedoAt w r most es pu v1 v2 bt p K vf Ot) : v1.ownBlock ≠ some r ∧ v2.ownBlock ≠ some r ∧ ¬ Ot r := by
  refine ⟨fun e => (h.ne1 e).1 rfl, fun e => (h.ne2 e).1 rfl, fun e => ?_⟩
  obtain ⟨c', t, h3, h4, _⟩ := h.kinds r e
  rw [h.box] at h3
  injection h3 with this
  injection this with _ h5 _
  exact h4 h5.symm
theorem RedoAt.c0 (h : RedoAt w r most es pu v1 v2 bt p K vf Ot) : w.cell? ⟨r, 0, none⟩ = some (.int .i64 most) := by rw [cell_of_block h.box]; rfl
theorem RedoAt.c1 (h : RedoAt w r most es pu v1 v2 bt p K vf Ot) : w.cell? ⟨r, 1, none⟩ = some v1 := by rw [cell_of_block h.box]; rfl
theorem RedoAt.c2 (h : RedoAt w r most es pu v1 v2 bt p K vf Ot) : w.cell? ⟨r, 2, none⟩ = some (.pointer (some ⟨bt, 0, none⟩)) := by rw [cell_of_block h.box]; rfl
theorem RedoAt.c3 (h : RedoAt w r most es pu v1 v2 bt p K vf Ot) : w.cell? ⟨r, 3, none⟩ = some v2 := by rw [cell_of_block h.box]; rfl
theorem RedoAt.fr (h : RedoAt w r most es pu v1 v2 bt p K vf Ot) (i : Nat) : w.frozen? ⟨r, i, none⟩ = false := frozen_of_block h.box i
end

theorem mayTake_yes (x : Int) (w : World) (h0 : 0 ≤ x) (h1 : x ≤ 1048576) : Calls Tryd.prog 66 #[.int .i64 x] w fun e w' => e = .returned (.bool true) ∧ w' = w := by
  go_enter Tryd.func66, Tryd.ntmps66
  go_wp2_with fail
  go_ret
  exact ⟨rfl, rfl⟩
theorem mayTake_no (x : Int) (w : World) (h0 : x < 0 ∨ 1048576 < x) : Calls Tryd.prog 66 #[.int .i64 x] w fun e w' => e = .returned (.bool false) ∧ w' = w := by
  rcases h0 with h0 | h0
  · go_enter Tryd.func66, Tryd.ntmps66
    go_wp2_with fail
    go_ret
    exact ⟨rfl, rfl⟩
  · have h1 : 0 ≤ x := by omega
    have h2 : ¬ x ≤ 1048576 := by omega
    go_enter Tryd.func66, Tryd.ntmps66
    go_wp2_with fail
    go_ret
    exact ⟨by simp, rfl⟩
theorem redo_there (r bt : Nat) (w : World) (h : w.cell? ⟨r, 2, none⟩ = some (.pointer (some ⟨bt, 0, none⟩))) : Calls Tryd.prog 49 #[.pointer (some ⟨r, 0, none⟩)] w fun e w' => e = .returned (.bool true) ∧ w' = w := by
  go_enter Tryd.func49, Tryd.ntmps49
  go_wp2_with fail
  go_ret
  exact ⟨rfl, rfl⟩
set_option maxHeartbeats 400000 in
theorem redo_len (r : Nat) (a : Option Addr) (n c : Nat) (w : World) (h : w.cell? ⟨r, 1, none⟩ = some (.slice a n c)) : Calls Tryd.prog 37 #[.pointer (some ⟨r, 0, none⟩)] w fun e w' => e = .returned (.int .i64 n) ∧ w' = w := by
  go_enter Tryd.func37, Tryd.ntmps37
  go_wp2_with fail
  go_ret
  exact ⟨rfl, rfl⟩
/-- The table answers where an address's entry is. -/
theorem RedoAt.found {w : World} {r most bt p : Nat} {es : List (Int × Int)} {pu : List Pt} {v1 v2 : Value} {K : List (Option Int)} {vf : Int → Value} {Ot : Nat → Prop} (h : RedoAt w r most es pu v1 v2 bt p K vf Ot) (hw : Tz w) (a : Int) (hi : idxE es a < es.length) :
    Calls Tryd.prog 50 #[.pointer (some ⟨bt, 0, none⟩), .int .u64 a] w fun e w' => e = .returned (.tuple #[.int .i64 (idxE es a), .bool true]) ∧ w' = w := by
  have hg := I.hold_get bt p K _ vf Ot a w h.tab hw
  have hm := idxE_mem.1 hi
  rw [if_pos hm, decide_eq_true hm, h.place _ _ _ (idxE_at hi)] at hg
  exact hg
theorem RedoAt.missed {w : World} {r most bt p : Nat} {es : List (Int × Int)} {pu : List Pt} {v1 v2 : Value} {K : List (Option Int)} {vf : Int → Value} {Ot : Nat → Prop} (h : RedoAt w r most es pu v1 v2 bt p K vf Ot) (hw : Tz w) (a : Int) (hi : ¬ idxE es a < es.length) :
    Calls Tryd.prog 50 #[.pointer (some ⟨bt, 0, none⟩), .int .u64 a] w fun e w' => e = .returned (.tuple #[.int .i64 0, .bool false]) ∧ w' = w := by
  have hg := I.hold_get bt p K _ vf Ot a w h.tab hw
  have hm : a ∉ es.map Prod.fst := fun hm => hi (idxE_mem.2 hm)
  rw [if_neg hm, decide_eq_false hm] at hg
  exact hg
/-- An entry's cells. -/
theorem RedoAt.entry {w : World} {r most bt p : Nat} {es : List (Int × Int)} {pu : List Pt} {v1 v2 : Value} {K : List (Option Int)} {vf : Int → Value} {Ot : Nat → Prop} (h : RedoAt w r most es pu v1 v2 bt p K vf Ot) {i : Nat} {a x : Int} (hi : es[i]? = some (a, x)) :
    ∃ g cap, v1 = .slice (some ⟨g, 0, none⟩) es.length cap ∧ es.length ≤ cap ∧ cap ≤ maxLen ∧ w.cell? ⟨g, i * 2, none⟩ = some (.int .u64 a) ∧ w.cell? ⟨g, i * 2 + 1, none⟩ = some (.int .u64 x) ∧ ∀ j, w.frozen? ⟨g, j, none⟩ = false := by
  have hlt : i < es.length := (List.getElem?_eq_some_iff.1 hi).1
  obtain ⟨g, cap, h1, h2, h3, h4, h5⟩ := h.ents.at (by omega)
  obtain ⟨e1, e2⟩ := entV_get es i (a, x) hi
  exact ⟨g, cap, h1, h2, h3, (h4 _ (by omega)).trans e1, (h4 _ (by omega)).trans e2, h5⟩

set_option maxHeartbeats 400000 in
theorem redo_get (r most bt p : Nat) (es : List (Int × Int)) (pu : List Pt) (v1 v2 : Value) (K : List (Option Int)) (vf : Int → Value) (Ot : Nat → Prop) (a : Int) (w : World) (h : RedoAt w r most es pu v1 v2 bt p K vf Ot) (hw : Tz w) :
    Calls Tryd.prog 32 #[.pointer (some ⟨r, 0, none⟩), .int .u64 a] w fun e w' => e = .returned (.tuple #[.int .u64 (if idxE es a < es.length then wordE es a else 0), .bool (decide (idxE es a < es.length))]) ∧ w' = w := by
  have ht := redo_there r bt w h.c2
  have c1 := h.c1
  have c2 := h.c2
  by_cases hi : idxE es a < es.length
  · have hg := h.found hw a hi
    obtain ⟨g, cap, rfl, hcap, hmax, e1, e2, _⟩ := h.entry (idxE_at hi)
    have hes : es.length ≤ 1048576 := Nat.le_trans h.fit h.most20
    rw [if_pos hi, decide_eq_true hi]
    generalize idxE es a = j at *
    generalize wordE es a = x at *
    clear h
    go_enter Tryd.func32, Tryd.ntmps32
    go_wp2_with (first | (go_at_call 49; refine ht.mono ?_; rintro e w' ⟨rfl, rfl⟩) | (go_at_call 50; refine hg.mono ?_; rintro e w' ⟨rfl, rfl⟩))
    go_ret2
    exact ⟨rfl, rfl⟩
  · have hg := h.missed hw a hi
    rw [if_neg hi, decide_eq_false hi]
    clear h
    go_enter Tryd.func32, Tryd.ntmps32
    go_wp2_with (first | (go_at_call 49; refine ht.mono ?_; rintro e w' ⟨rfl, rfl⟩) | (go_at_call 50; refine hg.mono ?_; rintro e w' ⟨rfl, rfl⟩))
    go_ret2
    exact ⟨rfl, rfl⟩
end Go.Proofs.YtmhinalgjfiliaaDoor
