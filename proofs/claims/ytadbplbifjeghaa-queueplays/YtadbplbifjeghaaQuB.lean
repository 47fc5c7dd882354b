
/- The document's words as they lie, and the walks of Get and Put, of the statement's own tx and of room's small functions. No statement of the seat is proved here. -/
import Derived.Test.YtadbplbifjeghaaQuA
import Derived.Test.YtadbplbifjeghaaProg
import Derived.WalkSpells
import Derived.WalkLawsBesides
import Derived.OrdersIn
import Derived.OrdersHeld
import Derived.Deep.QuietTactic
import Derived.BigQuiet
import Derived.Deep.Upon
import Derived.Deep.RegionHeld3
import Derived.Deep.RegionWith
namespace Go.Proofs.Ytadbplbifjeghaa
open Go.RowKit

/-- A world of words: its box in the block b, its words in the block g. -/
structure WdAt (w : World) (b g c : Nat) (s : Wd) : Prop where
  box : w.heap[b]? = some (.cells #[.slice (some ⟨g, 0, none⟩) s.W.length c, .int .i64 s.l, .int .i64 s.c, .int .i64 s.n] 40 (0, 0))
  row : ∃ cur, w.heap[g]? = some (.cells cur 33 (0, 0)) ∧ ∀ i, i < s.W.length → cur[i]? = some (.int .u64 (oat s.W i))
  ne : b ≠ g
  ok : s.Ok
def two (b g : Nat) (k : Nat) : Prop := k = b ∨ k = g
/-- The statement's own tx. -/
structure TxAt (w : World) (t b : Nat) : Prop where
  box : w.heap[t]? = some (.cells #[.pointer (some ⟨b, 0, none⟩)] 28 (0, 0))
  ne : t ≠ b

section
variable {w w' : World} {b g c t : Nat} {s : Wd}
theorem WdAt.cell0 (h : WdAt w b g c s) : w.cell? ⟨b, 0, none⟩ = some (.slice (some ⟨g, 0, none⟩) s.W.length c) := by rw [cell_of_block h.box]; rfl
theorem WdAt.cell1 (h : WdAt w b g c s) : w.cell? ⟨b, 1, none⟩ = some (.int .i64 s.l) := by rw [cell_of_block h.box]; rfl
theorem WdAt.cell2 (h : WdAt w b g c s) : w.cell? ⟨b, 2, none⟩ = some (.int .i64 s.c) := by rw [cell_of_block h.box]; rfl
theorem WdAt.cell3 (h : WdAt w b g c s) : w.cell? ⟨b, 3, none⟩ = some (.int .i64 s.n) := by rw [cell_of_block h.box]; rfl
theorem WdAt.frozen (h : WdAt w b g c s) (i : Nat) : w.frozen? ⟨b, i, none⟩ = false := frozen_of_block h.box i
theorem WdAt.wcell (h : WdAt w b g c s) (i : Nat) (hi : i < s.W.length) : w.cell? ⟨g, i, none⟩ = some (.int .u64 (oat s.W i)) := by
  obtain ⟨cur, h1, h2⟩ := h.row
  rw [cell_of_block h1, h2 i hi]
theorem WdAt.wfrozen (h : WdAt w b g c s) (i : Nat) : w.frozen? ⟨g, i, none⟩ = false := by
  obtain ⟨cur, h1, h2⟩ := h.row
  exact frozen_of_block h1 i
theorem WdAt.ltb (h : WdAt w b g c s) : b < w.heap.size := lt_of_block h.box
theorem WdAt.ltg (h : WdAt w b g c s) : g < w.heap.size := by obtain ⟨cur, h1, _⟩ := h.row; exact lt_of_block h1
theorem WdAt.kept {S : Nat → Prop} (h : WdAt w b g c s) (k : Keeps S w w') (hb : ¬ S b) (hg : ¬ S g) : WdAt w' b g c s := by
  obtain ⟨cur, h1, h2⟩ := h.row
  exact ⟨(k.block b h.ltb hb).trans h.box, ⟨cur, (k.block g h.ltg hg).trans h1, h2⟩, h.ne, h.ok⟩
theorem WdAt.calls (h : WdAt w b g c s) (n : Int) : WdAt (w.setCell ⟨b, 3, none⟩ (.int .i64 n)) b g c { s with n := n } := by
  obtain ⟨cur, h1, h2⟩ := h.row
  exact ⟨block_set h.box 3 _, ⟨cur, (Below.heap_setCell _ _ _ _ (Ne.symm h.ne)).trans h1, h2⟩, h.ne, h.ok⟩
theorem WdAt.left (h : WdAt w b g c s) (n : Int) : WdAt (w.setCell ⟨b, 1, none⟩ (.int .i64 n)) b g c { s with l := n } := by
  obtain ⟨cur, h1, h2⟩ := h.row
  exact ⟨block_set h.box 1 _, ⟨cur, (Below.heap_setCell _ _ _ _ (Ne.symm h.ne)).trans h1, h2⟩, h.ne, h.ok⟩
theorem WdAt.code (h : WdAt w b g c s) (n : Int) : WdAt (w.setCell ⟨b, 2, none⟩ (.int .i64 n)) b g c { s with c := n } := by
  obtain ⟨cur, h1, h2⟩ := h.row
  exact ⟨block_set h.box 2 _, ⟨cur, (Below.heap_setCell _ _ _ _ (Ne.symm h.ne)).trans h1, h2⟩, h.ne, h.ok⟩
theorem WdAt.store (h : WdAt w b g c s) (i : Nat) {x : Int} (hx : isW x) (hi : i < s.W.length) : WdAt (w.setCell ⟨g, i, none⟩ (.int .u64 x)) b g c { s with W := s.W.set i x } := by
  obtain ⟨cur, h1, h2⟩ := h.row
  refine ⟨by rw [List.length_set]; exact (Below.heap_setCell _ _ _ _ h.ne).trans h.box, ⟨_, block_set h1 i _, fun j hj => ?_⟩, h.ne, ⟨fun y hy => ?_, by simpa using h.ok.2⟩⟩
  · rw [List.length_set] at hj
    have hj2 := h2 j hj
    have hsz : j < cur.size := (Array.getElem?_eq_some_iff.1 hj2).1
    rw [Array.getElem?_setIfInBounds]
    by_cases e : i = j
    · subst e
      simp [hsz, oat, hi]
    · simp only [e, if_false]
      rw [hj2]
      simp [oat, e]
  · rcases List.mem_or_eq_of_mem_set hy with h1 | h1
    · exact h.ok.1 y h1
    · rw [h1]; exact hx
theorem WdAt.drewN (h : WdAt w b g c s) (n : Nat) : WdAt (w.drewN n) b g c s := h.kept (S := fun _ => False) ((Keeps.refl _ w).drewN n) (fun f => f) (fun f => f)
theorem TxAt.drewN (h : TxAt w t b) (n : Nat) : TxAt (w.drewN n) t b := ⟨h.box, h.ne⟩
theorem TxAt.cell (h : TxAt w t b) : w.cell? ⟨t, 0, none⟩ = some (.pointer (some ⟨b, 0, none⟩)) := by rw [cell_of_block h.box]; rfl
theorem TxAt.lt (h : TxAt w t b) : t < w.heap.size := lt_of_block h.box
theorem TxAt.kept {S : Nat → Prop} (h : TxAt w t b) (k : Keeps S w w') (ht : ¬ S t) : TxAt w' t b := ⟨(k.block t h.lt ht).trans h.box, h.ne⟩
theorem Keeps.sb {a : World} (h : Keeps (two b g) a w) (i : Nat) (v : Value) : Keeps (two b g) a (w.setCell ⟨b, i, none⟩ v) := h.setCell (p := ⟨b, i, none⟩) (.inr (.inl rfl)) v
theorem Keeps.sg {a : World} (h : Keeps (two b g) a w) (i : Nat) (v : Value) : Keeps (two b g) a (w.setCell ⟨g, i, none⟩ v) := h.setCell (p := ⟨g, i, none⟩) (.inr (.inr rfl)) v
end

set_option maxHeartbeats 400000 in
theorem num_any (n : Int) (w : World) : Calls Try.prog 16 #[.int .i64 n] w fun e w' => e = .returned (.int .i64 n) ∧ w' = w := by
  go_enter Try.func16, Try.ntmps16
  go_wp2
  go_ret
  exact ⟨rfl, rfl⟩
set_option maxHeartbeats 400000 in
theorem endOf_any (a : Int) (w : World) : Calls Try.prog 49 #[.int .u64 a] w fun e w' => e = .returned (.int .u64 (endA a)) ∧ w' = w := by
  go_enter Try.func49, Try.ntmps49
  go_wp2
  go_ret
  exact ⟨rfl, rfl⟩
set_option maxHeartbeats 400000 in
theorem headOf_any (a n : Int) (w : World) : Calls Try.prog 44 #[.int .u64 a, .int .u64 n] w fun e w' => e = .returned (.int .u64 (hdA a n)) ∧ w' = w := by
  go_enter Try.func44, Try.ntmps44
  go_wp2
  go_ret
  exact ⟨rfl, rfl⟩

set_option maxHeartbeats 1000000 in
theorem wget_any (b g c : Nat) (s : Wd) (a : Int) (ha : isW a) (w : World) (h : WdAt w b g c s) :
    Calls Try.prog 30 #[.pointer (some ⟨b, 0, none⟩), .int .u64 a] w fun e w' => e = .returned (.tuple #[.int .u64 (s.get a).1.1, .int .i64 (s.get a).1.2]) ∧ WdAt w' b g c (s.get a).2 ∧ Keeps (two b g) w w' := by
  have c0 := h.cell0
  have c1 := h.cell1
  have c2 := h.cell2
  have c3 := h.cell3
  have f1 := h.frozen 1
  have f3 := h.frozen 3
  have hlen := h.ok.2
  have HH : Hid (WdAt w b g c s) := h
  have hbg := h.ne
  unfold isW at ha
  have hwl : IntKind.u64.wrap (s.W.length : Int) = (s.W.length : Int) := by rw [IntKind.wrap_u64]; omega
  by_cases hl : s.l = 0
  · have hs : s.get a = ((0, s.c), s.tick) := by unfold Wd.get; rw [if_pos hl]
    rw [hs]
    rw [hl] at c1
    clear hs h
    go_enter Try.func30, Try.ntmps30
    go_wp2_with fail
    go_quiet (fail)
    go_wp2_with fail
    go_ret2
    have h := HH.out
    exact ⟨rfl, (h.calls _).drewN _, ((Keeps.refl _ w).sb _ _).drewN _⟩
  · by_cases hr : (s.W.length : Int) ≤ a
    · have hs : s.get a = ((0, 4), s.dec) := by unfold Wd.get; rw [if_neg hl, if_pos hr]
      rw [hs]
      clear hs h
      go_enter Try.func30, Try.ntmps30
      go_wp2_with fail
      go_ret2
      have h := HH.out
      exact ⟨rfl, (h.calls _).left _, (((Keeps.refl _ w).sb _ _).sb _ _)⟩
    · have hs : s.get a = ((oat s.W a.toNat, 0), s.dec) := by unfold Wd.get; rw [if_neg hl, if_neg hr]
      rw [hs]
      have wc := h.wcell a.toNat (by omega)
      have wf := h.wfrozen a.toNat
      clear hs h
      go_enter Try.func30, Try.ntmps30
      go_wp2_with fail
      go_ret2
      have h := HH.out
      exact ⟨rfl, (h.calls _).left _, (((Keeps.refl _ w).sb _ _).sb _ _)⟩
set_option maxHeartbeats 1000000 in
theorem wput_any (b g c : Nat) (s : Wd) (a x : Int) (ha : isW a) (hx : isW x) (w : World) (h : WdAt w b g c s) :
    Calls Try.prog 33 #[.pointer (some ⟨b, 0, none⟩), .int .u64 a, .int .u64 x] w fun e w' => e = .returned (.int .i64 (s.put a x).1) ∧ WdAt w' b g c (s.put a x).2 ∧ Keeps (two b g) w w' := by
  have c0 := h.cell0
  have c1 := h.cell1
  have c2 := h.cell2
  have c3 := h.cell3
  have f1 := h.frozen 1
  have f3 := h.frozen 3
  have hlen := h.ok.2
  have HH : Hid (WdAt w b g c s) := h
  have hbg := h.ne
  unfold isW at ha
  have hwl : IntKind.u64.wrap (s.W.length : Int) = (s.W.length : Int) := by rw [IntKind.wrap_u64]; omega
  by_cases hl : s.l = 0
  · have hs : s.put a x = (s.c, s.tick) := by unfold Wd.put; rw [if_pos hl]
    rw [hs]
    rw [hl] at c1
    clear hs h
    go_enter Try.func33, Try.ntmps33
    go_wp2_with fail
    go_ret
    have h := HH.out
    exact ⟨rfl, h.calls _, ((Keeps.refl _ w).sb _ _)⟩
  · by_cases hr : (s.W.length : Int) ≤ a
    · have hs : s.put a x = (4, s.dec) := by unfold Wd.put; rw [if_neg hl, if_pos hr]
      rw [hs]
      clear hs h
      go_enter Try.func33, Try.ntmps33
      go_wp2_with fail
      go_ret
      have h := HH.out
      exact ⟨rfl, (h.calls _).left _, (((Keeps.refl _ w).sb _ _).sb _ _)⟩
    · have hs : s.put a x = (0, { s.dec with W := s.W.set a.toNat x }) := by unfold Wd.put; rw [if_neg hl, if_neg hr]
      rw [hs]
      have wc := h.wcell a.toNat (by omega)
      have wf := h.wfrozen a.toNat
      clear hs h
      go_enter Try.func33, Try.ntmps33
      go_wp2_with fail
      go_ret
      have h := HH.out
      exact ⟨rfl, ((h.calls _).left _).store a.toNat hx (by show a.toNat < s.W.length; omega), ((((Keeps.refl _ w).sb _ _).sb _ _).sg _ _)⟩
end Go.Proofs.Ytadbplbifjeghaa
