
/- Walks of the document's Same, and of the law's lend and kept. No statement of the seat is proved here. -/
import Derived.Test.YtijommlodgpphaaDoorIrA
import Derived.Test.YtijommlodgpphaaDoorCdK
namespace Go.Proofs.YtijommlodgpphaaDoor
open Go.RowKit Go.Shelf

set_option maxRecDepth 100000 in
set_option maxHeartbeats 2000000 in
theorem same_any (v1 v2 : Value) (L : List I5) (w : World) (h1 : InsAt w v1 L) (h2 : InsAt w v2 L) : Calls Tryd.prog 6 #[v1, v2] w fun e w' => e = .returned (.bool true) ∧ Keeps (fun _ => False) w w' := by
  have H1 : Hid (∀ X, Keeps (fun _ => False) w X → InsAt X v1 L) := fun X k => h1.keeps k
  have H2 : Hid (∀ X, Keeps (fun _ => False) w X → InsAt X v2 L) := fun X k => h2.keeps k
  have hbig := h1.big
  obtain ⟨⟨a1, cap1, rfl, _⟩, _, _⟩ := h1
  obtain ⟨⟨a2, cap2, rfl, _⟩, _, _⟩ := h2
  have hll : ((L.length : Int) != L.length) = false := by simp
  go_enter Tryd.func6, Tryd.ntmps6
  go_wp2_with fail
  go_loopw [5] (fun v wr => ∃ k : Nat, v = .int .i64 k ∧ k ≤ L.length ∧ Hid (Keeps (fun _ => False) w wr)) (fun v _ => L.length - (intOf v).toNat)
  case atStart => exact ⟨0, rfl, Nat.zero_le _, Keeps.refl _ _⟩
  case round =>
    obtain ⟨k, rfl, hk, kw⟩ := hrel
    by_cases hlt : k < L.length
    · have hki : (k : Int) < L.length := by omega
      obtain ⟨⟨b1, q1, e1, c1⟩, _, _⟩ := H1.out wr kw.out
      obtain ⟨⟨b2, q2, e2, c2⟩, _, _⟩ := H2.out wr kw.out
      cases e1; cases e2
      obtain ⟨g1, o1, rfl, x0, x1, x2, x3, x4⟩ := c1 k hlt
      obtain ⟨g2, o2, rfl, y0, y1, y2, y3, y4⟩ := c2 k hlt
      generalize L[k]'hlt = i at *
      obtain ⟨op, a, b, c, n⟩ := i
      dsimp only at x0 x1 x2 x3 x4 y0 y1 y2 y3 y4
      clear c1 c2 H1 H2
      go_wp2_with fail
      go_quiet (fail)
      go_wp2_with fail
      go_roundw
      · exact ⟨k + 1, by simp, by omega, kw.out.drewN _⟩
      · simp [intOf]; omega
    · have hki : ¬ (k : Int) < L.length := by omega
      have kk := kw.out
      go_wp2_with fail
      go_ret
      exact ⟨rfl, kk⟩

def mark1 : I5 := ⟨77, -1, 0, 0, 0⟩
def mark2 : I5 := ⟨78, 0, 0, 0, 0⟩
/-- Instructions that are lent, with marks behind them. -/
structure LentAt (w : World) (m : Value) (L : List I5) (g : Nat) : Prop where
  form : ∃ cap, m = .slice (some ⟨g, 0, none⟩) L.length cap ∧ L.length + 2 ≤ cap ∧ InsAt w (.slice (some ⟨g, 0, none⟩) (L.length + 2) cap) (L ++ [mark1, mark2])
theorem LentAt.keeps {w w' : World} {m : Value} {L : List I5} {g : Nat} (h : LentAt w m L g) (k : Keeps (fun _ => False) w w') : LentAt w' m L g := by
  obtain ⟨cap, h1, h2, h3⟩ := h.form
  exact ⟨cap, h1, h2, h3.keeps k⟩
theorem LentAt.insAt {w : World} {m : Value} {L : List I5} {g : Nat} (h : LentAt w m L g) : InsAt w m L := by
  obtain ⟨cap, rfl, h2, ⟨a, c, hv, hc⟩, hw, hb⟩ := h.form
  simp only [Value.slice.injEq] at hv
  obtain ⟨rfl, -, rfl⟩ := hv
  refine ⟨⟨_, cap, rfl, fun k hk => ?_⟩, fun i hi => hw i (by simp [hi]), by simp at hb; omega⟩
  have := hc k (by simp; omega)
  rwa [List.getElem_append_left hk] at this

theorem LentAt.marks {w : World} {m : Value} {L : List I5} {g : Nat} (h : LentAt w m L g) :
    (w.cell? ⟨g, L.length * 5, none⟩ = some (.int .i64 77) ∧ w.cell? ⟨g, L.length * 5 + 1, none⟩ = some (.int .i64 (-1)) ∧ w.cell? ⟨g, L.length * 5 + 2, none⟩ = some (.int .i64 0) ∧ w.cell? ⟨g, L.length * 5 + 3, none⟩ = some (.int .i64 0) ∧ w.cell? ⟨g, L.length * 5 + 4, none⟩ = some (.int .u64 0)) ∧
    (w.cell? ⟨g, (L.length + 1) * 5, none⟩ = some (.int .i64 78) ∧ w.cell? ⟨g, (L.length + 1) * 5 + 1, none⟩ = some (.int .i64 0) ∧ w.cell? ⟨g, (L.length + 1) * 5 + 2, none⟩ = some (.int .i64 0) ∧ w.cell? ⟨g, (L.length + 1) * 5 + 3, none⟩ = some (.int .i64 0) ∧ w.cell? ⟨g, (L.length + 1) * 5 + 4, none⟩ = some (.int .u64 0)) := by
  obtain ⟨cap, rfl, h2, ⟨a, c, hv, hc⟩, hw, hb⟩ := h.form
  simp only [Value.slice.injEq] at hv
  obtain ⟨rfl, -, rfl⟩ := hv
  have h1 := hc L.length (by simp)
  have h2 := hc (L.length + 1) (by simp)
  rw [List.getElem_append_right (Nat.le_refl _)] at h1
  rw [List.getElem_append_right (by omega)] at h2
  simp only [Nat.sub_self, show L.length + 1 - L.length = 1 by omega] at h1 h2
  obtain ⟨g1, o1, e1, q1⟩ := h1
  obtain ⟨g2, o2, e2, q2⟩ := h2
  cases e1
  cases e2
  simp only [Nat.zero_add] at q1 q2
  exact ⟨q1, q2⟩

end Go.Proofs.YtijommlodgpphaaDoor
