
/- Pure (layer 22): Remove, Has, First, After, Keys, Len over a set in its room. No statement of the seat is proved here. -/
import Derived.Test.YtifmpiiaebnbiaaSnG
namespace Go.Proofs.Ytifmpiiaebnbiaa
open Go.RowKit

section
variable {s : Wd} {N P B C : List Sn} {m : Nat} {x : Int} {q : Sn}
theorem search_lt (h : Ss s (P ++ B) m) (hP : ∀ y ∈ P, y.k < x) (hB : ∀ y ∈ B, x ≤ y.k) : ∃ la s', s.search (pLt x) 20 = ((la, 0), s') ∧ la.length = 8 ∧ Seen s s' 2100 ∧ ∀ i, i < 8 → lk la i = ⟨((cel i 20 P : Nat) : Int), nxt i B, nxk i B⟩ :=
  search_sl (p := pLt x) h.c h.sl (fun y hy => by have := hP y hy; unfold pLt; simp; omega) (fun y hy => by have := hB y hy; unfold pLt; simp; omega)
theorem search_le (h : Ss s (P ++ B) m) (hP : ∀ y ∈ P, y.k ≤ x) (hB : ∀ y ∈ B, x < y.k) : ∃ la s', s.search (pLe x) 20 = ((la, 0), s') ∧ la.length = 8 ∧ Seen s s' 2100 ∧ ∀ i, i < 8 → lk la i = ⟨((cel i 20 P : Nat) : Int), nxt i B, nxk i B⟩ :=
  search_sl (p := pLe x) h.c h.sl (fun y hy => by have := hP y hy; unfold pLe; simp; omega) (fun y hy => by have := hB y hy; unfold pLe; simp; omega)
theorem Ss.tail_up (h : Ss s (P ++ q :: C) m) (hq : q.k = x) : ∀ y ∈ q :: C, x ≤ y.k := fun y hy => by
  have hup := (List.pairwise_append.1 h.sl.up).2.1
  rcases List.mem_cons.1 hy with rfl | hy
  · omega
  · have := (List.pairwise_cons.1 hup).1 y hy; omega
theorem has_yes (h : Ss s (P ++ q :: C) m) (hP : ∀ y ∈ P, y.k < x) (hq : q.k = x) : ∃ s', s.has 20 x = ((true, 0), s') ∧ Seen s s' 2100 := by
  obtain ⟨la, s1, e1, _, v1, hla⟩ := search_lt h hP (h.tail_up hq)
  refine ⟨s1, ?_, v1⟩
  unfold Wd.has
  rw [e1]
  dsimp only
  rw [haveB_yes hla hq (h.node (by simp)).2.1]
theorem has_no (h : Ss s (P ++ B) m) (hP : ∀ y ∈ P, y.k < x) (hB : ∀ y ∈ B, x < y.k) : ∃ s', s.has 20 x = ((false, 0), s') ∧ Seen s s' 2100 := by
  obtain ⟨la, s1, e1, _, v1, hla⟩ := search_lt h hP (fun y hy => by have := hB y hy; omega)
  refine ⟨s1, ?_, v1⟩
  unfold Wd.has
  rw [e1]
  dsimp only
  rw [haveB_no hla hB]
theorem rem_no (h : Ss s (P ++ B) m) (hP : ∀ y ∈ P, y.k < x) (hB : ∀ y ∈ B, x < y.k) : ∃ s', s.rem 0 20 x = ((false, 0), s') ∧ Seen s s' 2100 := by
  obtain ⟨la, s1, e1, _, v1, hla⟩ := search_lt h hP (fun y hy => by have := hB y hy; omega)
  refine ⟨s1, ?_, v1⟩
  unfold Wd.rem
  rw [e1]
  dsimp only
  rw [if_pos (.inr (haveB_no hla hB))]
def fstK : List Sn → Int × Bool
  | [] => (0, false)
  | q :: _ => (q.k, true)
theorem lead_of {B : List Sn} (h : ∀ q ∈ B, 1 ≤ q.h) (c : Int) : (⟨c, nxt 0 B, nxk 0 B⟩ : Lk).k = (fstK B).1 ∧ (⟨c, nxt 0 B, nxk 0 B⟩ : Lk).leads = (fstK B).2 := by
  cases B with
  | nil => exact ⟨rfl, rfl⟩
  | cons q r =>
    have h1 := h q (by simp)
    rw [nxt_yes (by omega), nxk_yes (by omega)]
    refine ⟨rfl, ?_⟩
    have : (q.a : Int) + 1 ≠ 0 := by omega
    simp [Lk.leads, fstK, this]
theorem first_ok (h : Ss s N m) : ∃ s', s.first 20 = (((fstK N).1, (fstK N).2, 0), s') ∧ Seen s s' 2100 := by
  obtain ⟨n', s1, e1, v1, _⟩ := fol_sl (i := 0) (base := 20) (hh := 8) h.c (by omega) (by rw [h.sl.len]; omega) (by rw [h.sl.len]; omega) h.sl.lnk h.sl.ns (n := 0) (by omega)
  obtain ⟨l1, l2⟩ := lead_of (B := N) (fun q hq => (h.node hq).2.1) (((20 + 0 : Nat) : Int))
  refine ⟨s1, ?_, v1.more (by omega)⟩
  unfold Wd.first
  rw [show (20 : Int) = ((20 + 0 : Nat) : Int) from rfl, e1]
  dsimp only
  rw [l2]
  dsimp only at l1
  rw [l1]
theorem aft_ok (h : Ss s (P ++ B) m) (hP : ∀ y ∈ P, y.k ≤ x) (hB : ∀ y ∈ B, x < y.k) : ∃ s', s.aft 20 x = (((fstK B).1, (fstK B).2, 0), s') ∧ Seen s s' 2100 := by
  obtain ⟨la, s1, e1, _, v1, hla⟩ := search_le h hP hB
  obtain ⟨l1, l2⟩ := lead_of (B := B) (fun q hq => (h.node (q := q) (by simp [hq])).2.1) ((cel 0 20 P : Nat) : Int)
  refine ⟨s1, ?_, v1⟩
  unfold Wd.aft
  rw [e1]
  dsimp only
  rw [hla 0 (by omega)]
  dsimp only
  rw [l2]
  dsimp only at l1
  rw [l1]
theorem each_ok : ∀ (f : Nat) (R : List Sn) (out : List Int) (c : Int) (n : Nat) (s : Wd), s.c = 0 → s.W.length = 2000 → Ns s.W R → R.length + 1 ≤ f → n + R.length ≤ 60000 →
    ∃ s', eachL f out ⟨c, nxt 0 R, nxk 0 R⟩ 0 n s = ((out ++ R.map Sn.k, 0), s') ∧ Seen s s' (2 * R.length)
  | 0, R, _, _, _, _, _, _, _, hf, _ => by omega
  | f + 1, [], out, c, n, s, _, _, _, _, _ => by
    refine ⟨s, ?_, Seen.refl s _⟩
    unfold eachL
    rw [if_neg (fun q => q.2 rfl)]
    simp
  | f + 1, q :: r, out, c, n, s, hc, hl, hN, hf, hn => by
    simp only [List.length_cons] at hf hn ⊢
    have hq := hN.1
    obtain ⟨n', s1, e1, v1, hn'⟩ := fol_sl (i := 0) (base := q.a + 2) (hh := q.h) hc (by omega) (by omega) (by omega) hN.2.1 hN.2.2 (n := n) (by omega)
    obtain ⟨s', g1, g2⟩ := each_ok f r (out ++ [q.k]) (((q.a + 2 + 0 : Nat) : Int)) n' s1 (v1.c.trans hc) (by rw [v1.w]; exact hl) (by rw [v1.w]; exact hN.2.2) (by omega) (by omega)
    have hnd : uw ((q.a : Int) + 1 - 1) = q.a := by rw [show (q.a : Int) + 1 - 1 = q.a by omega]; exact uw_of (by omega) (by omega)
    have hw2 : uw ((q.a : Int) + 2) = ((q.a + 2 + 0 : Nat) : Int) := by rw [uw_of (by omega) (by omega)]; omega
    refine ⟨s', ?_, (v1.trans g2).more (by omega)⟩
    unfold eachL
    rw [nxt_yes (by omega), nxk_yes (by omega), if_pos ⟨rfl, by show (q.a : Int) + 1 ≠ 0; omega⟩]
    unfold Lk.nd
    dsimp only
    rw [hnd, hw2, e1]
    dsimp only
    rw [g1]
    simp
theorem each_all (h : Ss s N m) : ∃ s', s.each 20 = ((N.map Sn.k, 0), s') ∧ Seen s s' 2100 := by
  obtain ⟨n', s1, e1, v1, hn'⟩ := fol_sl (i := 0) (base := 20) (hh := 8) h.c (by omega) (by rw [h.sl.len]; omega) (by rw [h.sl.len]; omega) h.sl.lnk h.sl.ns (n := 0) (by omega)
  have hf := h.sl.few
  obtain ⟨s', g1, g2⟩ := each_ok FU N [] (((20 + 0 : Nat) : Int)) n' s1 (v1.c.trans h.c) (by rw [v1.w]; exact h.sl.len) (by rw [v1.w]; exact h.sl.ns) (by unfold FU; omega) (by omega)
  refine ⟨s', ?_, (v1.trans g2).more (by omega)⟩
  unfold Wd.each
  rw [show (20 : Int) = ((20 + 0 : Nat) : Int) from rfl, e1]
  exact g1
theorem keys_ok (h : Ss s N m) : ∃ s', s.keys 20 = ((N.map Sn.k, 0), s') ∧ Seen s s' 2100 := by
  obtain ⟨s', e, v⟩ := each_all h
  refine ⟨s', ?_, v⟩
  unfold Wd.keys
  rw [e]
  rfl
theorem len_ok (h : Ss s N m) : ∃ s', s.len 20 = (((N.length : Int), 0), s') ∧ Seen s s' 2100 := by
  obtain ⟨s', e, v⟩ := each_all h
  refine ⟨s', ?_, v⟩
  unfold Wd.len
  rw [e]
  simp
end
end Go.Proofs.Ytifmpiiaebnbiaa
