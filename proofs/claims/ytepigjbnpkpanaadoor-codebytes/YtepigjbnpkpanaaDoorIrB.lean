
/- Walks of the document's Same, and of the law's lend and kept. No statement of the seat is proved here. -/
import Derived.Test.YtepigjbnpkpanaaDoorIrA
import Derived.Test.YtepigjbnpkpanaaDoorCdK
namespace Go.Proofs.YtepigjbnpkpanaaDoor
open Go.RowKit Go.Shelf

set_option maxRecDepth 100000 in
set_option maxHeartbeats 2000000 in
theorem same_any (v1 v2 : Value) (L : List I5) (w : World) (h1 : InsAt w v1 L) (h2 : InsAt w v2 L) : Calls Tryd.prog 28 #[v1, v2] w fun e w' => e = .returned (.bool true) ∧ Keeps (fun _ => False) w w' := by
  have H1 : Hid (∀ X, Keeps (fun _ => False) w X → InsAt X v1 L) := fun X k => h1.keeps k
  have H2 : Hid (∀ X, Keeps (fun _ => False) w X → InsAt X v2 L) := fun X k => h2.keeps k
  have hbig := h1.big
  obtain ⟨⟨a1, cap1, rfl, _⟩, _, _⟩ := h1
  obtain ⟨⟨a2, cap2, rfl, _⟩, _, _⟩ := h2
  have hll : ((L.length : Int) != L.length) = false := by simp
  go_enter Tryd.func28, Tryd.ntmps28
  go_wp2_with fail
  go_loopw [5] (fun v wr => ∃ k : Nat, v = .int .i64 k ∧ k ≤ L.length ∧ Hid (Keeps (fun _ => False) w wr)) (fun v _ => L.length - (intOf v).toNat)
  case atStart => exact ⟨0, rfl, Nat.zero_le _, Keeps.refl _ _⟩
  case round =>
    obtain ⟨k, rfl, hk, kw⟩ := hrel
    by_cases hlt : k < L.length
    · have hki : (k : Int) < L.length := by omega
      obtain ⟨⟨b1, q1, e1, c1⟩, _, _⟩ := H1.out wr kw.out
      obtain ⟨⟨b2, q2, e2, c2⟩, _, _⟩ := H2.out wr kw.out
      cases e1; cases e2
      obtain ⟨g1, o1, rfl, x0, x1, x2, x3, x4⟩ := c1 k hlt
      obtain ⟨g2, o2, rfl, y0, y1, y2, y3, y4⟩ := c2 k hlt
      generalize L[k]'hlt = i at *
      obtain ⟨op, a, b, c, n⟩ := i
      dsimp only at x0 x1 x2 x3 x4 y0 y1 y2 y3 y4
      clear c1 c2 H1 H2
      go_wp2_with fail
      go_quiet (fail)
      go_wp2_with fail
      go_roundw
      · exact ⟨k + 1, by simp, by omega, kw.out.drewN _⟩
      · simp [intOf]; omega
    · have hki : ¬ (k : Int) < L.length := by omega
      have kk := kw.out
      go_wp2_with fail
      go_ret
      exact ⟨rfl, kk⟩

def mark1 : I5 := ⟨77, -1, 0, 0, 0⟩
def mark2 : I5 := ⟨78, 0, 0, 0, 0⟩
/-- Instructions that are lent, with marks behind them. -/
structure LentAt (w : World) (m : Value) (L : List I5) (g : Nat) : Prop where
  form : ∃ cap, m = .slice (some ⟨g, 0, none⟩) L.length cap ∧ L.length + 2 ≤ cap ∧ InsAt w (.slice (some ⟨g, 0, none⟩) (L.length + 2) cap) (L ++ [mark1, mark2])
theorem LentAt.keeps {w w' : World} {m : Value} {L : List I5} {g : Nat} (h : LentAt w m L g) (k : Keeps (fun _ => False) w w') : LentAt w' m L g := by
  obtain ⟨cap, h1, h2, h3⟩ := h.form
  exact ⟨cap, h1, h2, h3.keeps k⟩
theorem LentAt.insAt {w : World} {m : Value} {L : List I5} {g : Nat} (h : LentAt w m L g) : InsAt w m L := by
  obtain ⟨cap, rfl, h2, ⟨a, c, hv, hc⟩, hw, hb⟩ := h.form
  simp only [Value.slice.injEq] at hv
  obtain ⟨rfl, -, rfl⟩ := hv
  refine ⟨⟨_, cap, rfl, fun k hk => ?_⟩, fun i hi => hw i (by simp [hi]), by simp at hb; omega⟩
  have := hc k (by simp; omega)
  rwa [List.getElem_append_left hk] at this

set_option maxRecDepth 100000 in
set_option maxHeartbeats 2000000 in
theorem lend_any (v : Value) (L : List I5) (w : World) (h : InsAt w v L) (hb : (L.length + 2) * 40 ≤ 140737488355328) : Calls Tryd.prog 23 #[v] w fun e w' => ∃ m g, e = .returned m ∧ w.heap.size ≤ g ∧ LentAt w' m L g ∧ Keeps (fun _ => False) w w' := by
  have k0 := (Keeps.refl (fun _ => False) w).alloc (.cells #[] 38)
  have I0 : Irs (w.alloc (.cells #[] 38)) w.heap.size (.slice (some ⟨w.heap.size, 0, none⟩) 0 0) [] :=
    ⟨⟨rfl, .inr ⟨w.heap.size, 0, #[], rfl, Nat.le_refl _, (MapKept.heap_alloc _ _).1, Nat.le_refl _, by simp [maxLen], by simp, by simp [insV]⟩⟩, by simp⟩
  obtain ⟨v1, w1, r1, r2, r3⟩ := I0.app v L (h.keeps k0) (by simp; omega)
  have HA : Hid (_ = _) := r1
  have K1 := Irs.kept r3 k0 I0
  simp only [List.nil_append] at r2
  have kB := (Keeps.refl (fun _ => False) w1).alloc (.cells #[.int .i64 77, .int .i64 (-1), .int .i64 0, .int .i64 0, .int .u64 0, .int .i64 78, .int .i64 0, .int .i64 0, .int .i64 0, .int .u64 0] 38)
  have bB := (MapKept.heap_alloc w1 (.cells #[.int .i64 77, .int .i64 (-1), .int .i64 0, .int .i64 0, .int .u64 0, .int .i64 78, .int .i64 0, .int .i64 0, .int .i64 0, .int .u64 0] 38)).1
  have hwf2 : ∀ i ∈ [mark1, mark2], i.wf := by simp [mark1, mark2, I5.wf]
  have IB : InsAt (w1.alloc (.cells #[.int .i64 77, .int .i64 (-1), .int .i64 0, .int .i64 0, .int .u64 0, .int .i64 78, .int .i64 0, .int .i64 0, .int .i64 0, .int .u64 0] 38)) (.slice (some ⟨w1.heap.size, 0, none⟩) 2 2) [mark1, mark2] := by
    refine ⟨⟨_, 2, rfl, fun k hk => ⟨_, 0, rfl, ?_⟩⟩, hwf2, by simp⟩
    have : k = 0 ∨ k = 1 := by simp at hk; omega
    rcases this with rfl | rfl
    · refine ⟨?_, ?_, ?_, ?_, ?_⟩ <;> (rw [cell_of_block bB]; rfl)
    · refine ⟨?_, ?_, ?_, ?_, ?_⟩ <;> (rw [cell_of_block bB]; rfl)
  have r2' := r2.keeps kB (fun _ _ f => f)
  obtain ⟨v2, w2, q1, q2, q3⟩ := r2'.app _ [mark1, mark2] IB (by simpa using hb)
  have HB : Hid (_ = _) := q1
  have K2 : Keeps (fun _ => False) w w2 := Irs.kept q3 (K1.trans kB) r2'
  have IL := q2.insAt (fun i hi => by
    rcases List.mem_append.1 hi with hi | hi
    · exact h.wf i hi
    · exact hwf2 i hi) (by simpa using hb)
  have hform : ∃ g cap, v2 = .slice (some ⟨g, 0, none⟩) (L.length + 2) cap ∧ w.heap.size ≤ g ∧ L.length + 2 ≤ cap := by
    rcases q2.own.2 with ⟨_, h2⟩ | ⟨g, cap, cur, h1, h2, h3, h4, _⟩
    · simp at h2
    · exact ⟨g, cap, by simpa using h1, h2, by simpa using h4⟩
  obtain ⟨g, cap, rfl, hg, hcap⟩ := hform
  obtain ⟨⟨av, cv, rfl, _⟩, _, _⟩ := h
  have hcl : (L.length : Int) ≤ cap := by omega
  clear r1 r2 r3 I0 q1 q2 q3 kB bB IB r2' K1 k0
  go_enter Tryd.func23, Tryd.ntmps23
  go_wp2_with (at_builtin; first | (refine wpList_append_run rfl _ _ 50 rfl rfl rfl HA.out ?_; clear HA) | (refine wpList_append_run rfl _ _ 50 rfl rfl rfl HB.out ?_; clear HB))
  go_ret
  exact ⟨_, g, rfl, hg, ⟨cap, rfl, hcap, IL⟩, K2⟩

theorem LentAt.marks {w : World} {m : Value} {L : List I5} {g : Nat} (h : LentAt w m L g) :
    (w.cell? ⟨g, L.length * 5, none⟩ = some (.int .i64 77) ∧ w.cell? ⟨g, L.length * 5 + 1, none⟩ = some (.int .i64 (-1)) ∧ w.cell? ⟨g, L.length * 5 + 2, none⟩ = some (.int .i64 0) ∧ w.cell? ⟨g, L.length * 5 + 3, none⟩ = some (.int .i64 0) ∧ w.cell? ⟨g, L.length * 5 + 4, none⟩ = some (.int .u64 0)) ∧
    (w.cell? ⟨g, (L.length + 1) * 5, none⟩ = some (.int .i64 78) ∧ w.cell? ⟨g, (L.length + 1) * 5 + 1, none⟩ = some (.int .i64 0) ∧ w.cell? ⟨g, (L.length + 1) * 5 + 2, none⟩ = some (.int .i64 0) ∧ w.cell? ⟨g, (L.length + 1) * 5 + 3, none⟩ = some (.int .i64 0) ∧ w.cell? ⟨g, (L.length + 1) * 5 + 4, none⟩ = some (.int .u64 0)) := by
  obtain ⟨cap, rfl, h2, ⟨a, c, hv, hc⟩, hw, hb⟩ := h.form
  simp only [Value.slice.injEq] at hv
  obtain ⟨rfl, -, rfl⟩ := hv
  have h1 := hc L.length (by simp)
  have h2 := hc (L.length + 1) (by simp)
  rw [List.getElem_append_right (Nat.le_refl _)] at h1
  rw [List.getElem_append_right (by omega)] at h2
  simp only [Nat.sub_self, show L.length + 1 - L.length = 1 by omega] at h1 h2
  obtain ⟨g1, o1, e1, q1⟩ := h1
  obtain ⟨g2, o2, e2, q2⟩ := h2
  cases e1
  cases e2
  simp only [Nat.zero_add] at q1 q2
  exact ⟨q1, q2⟩

set_option maxRecDepth 100000 in
set_option maxHeartbeats 2000000 in
theorem kept_any (m v : Value) (L : List I5) (g : Nat) (w : World) (h : LentAt w m L g) (hv : InsAt w v L) : Calls Tryd.prog 25 #[m, v] w fun e w' => e = .returned (.bool true) ∧ Keeps (fun _ => False) w w' := by
  have SA := same_any m v L w h.insAt hv
  have HM : Hid (∀ X, Keeps (fun _ => False) w X → LentAt X m L g) := fun X k => h.keeps k
  have hbig := hv.big
  obtain ⟨cap, rfl, hcap, _⟩ := h.form
  obtain ⟨⟨av, cv, rfl, _⟩, _, _⟩ := hv
  have hci : (L.length : Int) + 2 ≤ cap := by omega
  clear h
  go_enter Tryd.func25, Tryd.ntmps25
  go_wp2_with fail
  refine SA.mono ?_
  rintro e w1 ⟨rfl, k1⟩
  obtain ⟨⟨x0, x1, x2, x3, x4⟩, ⟨y0, y1, y2, y3, y4⟩⟩ := (HM.out w1 k1).marks
  clear SA HM
  go_wp2_with fail
  trace_state
  go_ret
  exact ⟨rfl, k1⟩
end Go.Proofs.YtepigjbnpkpanaaDoor
