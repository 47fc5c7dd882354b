
/- Pure (layer 22): links written level by level; a set in a room. No statement of the seat is proved here. -/
import Derived.Test.YtifmpiiaebnbiaaSnD
namespace Go.Proofs.Ytifmpiiaebnbiaa
open Go.RowKit

theorem lk_cons_succ {l : Lk} {la : List Lk} {j : Nat} : lk (l :: la) (j + 1) = lk la j := by unfold lk; simp
theorem lk_cons_zero {l : Lk} {la : List Lk} : lk (l :: la) 0 = l := by unfold lk; simp
theorem ok_set {s s' : Wd} (h : s.Ok) {i : Nat} {x : Int} (hx : isW x) (e : s'.W = s.W.set i x) : s'.Ok := by
  unfold Wd.Ok
  rw [e]
  refine ⟨fun y hy => ?_, by rw [List.length_set]; exact h.2⟩
  rcases List.mem_or_eq_of_mem_set hy with h1 | h1
  · exact h.1 y h1
  · rw [h1]; exact hx
/-- What hanging a node's links comes to. -/
theorem hang_ok (node : Nat) (hnode : node < 2000) : ∀ (ls : List Lk) (o : Nat) (s : Wd), s.c = 0 → s.Ok → s.W.length = 2000 → o + ls.length ≤ 2000 → (∀ j, j < ls.length → ∃ c : Nat, (lk ls j).c = (c : Int) ∧ c < 2000 ∧ isW (lk ls j).t) →
    ∃ s', hangL (node : Int) ls (o : Int) s = (0, s') ∧ Aft s s' (2 * ls.length) s'.W ∧ s'.Ok ∧ s'.W.length = 2000 ∧
      (∀ c : Nat, (∀ j, j < ls.length → c ≠ o + j) → (∀ j, j < ls.length → (lk ls j).c ≠ (c : Int)) → oat s'.W c = oat s.W c) ∧
      (∀ j, j < ls.length → (∀ i, i < ls.length → (lk ls i).c ≠ ((o + j : Nat) : Int)) → oat s'.W (o + j) = (lk ls j).t) ∧
      (∀ j, j < ls.length → (∀ i, i < ls.length → i ≠ j → (lk ls i).c ≠ (lk ls j).c) → (∀ i, i < ls.length → (lk ls j).c ≠ ((o + i : Nat) : Int)) → oat s'.W (lk ls j).c.toNat = (node : Int) + 1)
  | [], o, s, hc, hok, hl, _, _ => ⟨s, rfl, ⟨rfl, rfl, rfl, by simp⟩, hok, hl, fun _ _ _ => rfl, fun j hj => by simp at hj, fun j hj => by simp at hj⟩
  | l :: ls, o, s, hc, hok, hl, ho, hs => by
    simp only [List.length_cons] at ho hs ⊢
    obtain ⟨c0, hc0, hc1, ht⟩ := hs 0 (by omega)
    rw [lk_cons_zero] at hc0 ht
    obtain ⟨s1, e1, v1⟩ := put_in (s := s) (a := (o : Int)) (x := l.t) hc (by omega) (by omega)
    have k1 : s1.Ok := ok_set hok ht v1.w
    have l1 : s1.W.length = 2000 := by rw [v1.w, List.length_set]; exact hl
    have hw1 : uw ((node : Int) + 1) = (node : Int) + 1 := uw_of (by omega) (by omega)
    obtain ⟨s2, e2, v2⟩ := put_in (s := s1) (a := l.c) (x := (node : Int) + 1) (v1.c.trans hc) (by omega) (by omega)
    have k2 : s2.Ok := ok_set k1 ⟨by omega, by omega⟩ v2.w
    have l2 : s2.W.length = 2000 := by rw [v2.w, List.length_set]; exact l1
    have hw2 : uw ((o : Int) + 1) = ((o + 1 : Nat) : Int) := by rw [uw_of (by omega) (by omega)]; omega
    obtain ⟨s', g1, g2, g3, g4, g5, g6, g7⟩ := hang_ok node hnode ls (o + 1) s2 ((v2.c.trans v1.c).trans hc) k2 l2 (by omega) (fun j hj => by
      have q := hs (j + 1) (by omega)
      rw [lk_cons_succ] at q
      exact q)
    have ec : ∀ c, oat s2.W c = if c = c0 then (node : Int) + 1 else if c = o then l.t else oat s.W c := fun c => by
      rw [v2.w, oat_set, v1.w, oat_set, List.length_set]
      have q1 : l.c.toNat = c0 := by omega
      have q2 : ((o : Int)).toNat = o := by omega
      rw [q1, q2]
      by_cases x1 : c = c0
      · rw [if_pos x1, if_pos ⟨x1.symm, by omega⟩]
      · rw [if_neg x1, if_neg (fun e => x1 e.1.symm)]
        by_cases x2 : c = o
        · rw [if_pos x2, if_pos ⟨x2.symm, by omega⟩]
        · rw [if_neg x2, if_neg (fun e => x2 e.1.symm)]
    refine ⟨s', ?_, ((v1.trans v2).trans g2).more (by omega), g3, g4, fun c h1 h2 => ?_, fun j hj h1 => ?_, fun j hj h1 h2 => ?_⟩
    · unfold hangL
      rw [e1]
      dsimp only
      rw [if_neg (by simp), hw1, e2]
      dsimp only
      rw [if_neg (by simp), hw2]
      exact g1
    · rw [g5 c (fun j hj => by have := h1 (j + 1) (by omega); omega) (fun j hj => by have := h2 (j + 1) (by omega); rw [lk_cons_succ] at this; exact this), ec, if_neg (fun e => by have := h2 0 (by omega); rw [lk_cons_zero] at this; omega), if_neg (fun e => by have := h1 0 (by omega); omega)]
    · cases j with
      | zero =>
        rw [lk_cons_zero, Nat.add_zero]
        rw [g5 o (fun i hi => by omega) (fun i hi e => by have := h1 (i + 1) (by omega); rw [lk_cons_succ] at this; exact this (by rw [e]; rfl)), ec, if_neg (fun e => by have := h1 0 (by omega); rw [lk_cons_zero] at this; omega), if_pos rfl]
      | succ j =>
        rw [lk_cons_succ, show o + (j + 1) = o + 1 + j by omega]
        exact g6 j (by omega) (fun i hi e => by have := h1 (i + 1) (by omega); rw [lk_cons_succ] at this; exact this (by rw [e]; congr 1; omega))
    · cases j with
      | zero =>
        rw [lk_cons_zero] at h1 h2 ⊢
        have q1 : l.c.toNat = c0 := by omega
        rw [q1, g5 c0 (fun i hi e => by have := h2 (i + 1) (by omega); omega) (fun i hi e => by have := h1 (i + 1) (by omega) (by omega); rw [lk_cons_succ] at this; omega), ec, if_pos rfl]
      | succ j =>
        rw [lk_cons_succ] at h1 h2 ⊢
        exact g7 j (by omega) (fun i hi hij e => by have := h1 (i + 1) (by omega) (by omega); rw [lk_cons_succ] at this; exact this e) (fun i hi e => by have := h2 (i + 1) (by omega); exact this (by rw [e]; congr 1; omega))
/-- What taking a node's links out comes to. -/
theorem unhang_ok : ∀ (ls : List Lk) (o : Nat) (s : Wd), s.c = 0 → s.Ok → s.W.length = 2000 → o + ls.length ≤ 2000 → (∀ j, j < ls.length → ∃ c : Nat, (lk ls j).c = (c : Int) ∧ c < 2000) → (∀ i j, i < ls.length → j < ls.length → (lk ls i).c ≠ ((o + j : Nat) : Int)) → (∀ i j, i < ls.length → j < ls.length → i ≠ j → (lk ls i).c ≠ (lk ls j).c) →
    ∃ s', unhangL ls (o : Int) s = (0, s') ∧ Aft s s' (2 * ls.length) s'.W ∧ s'.Ok ∧ s'.W.length = 2000 ∧
      (∀ c : Nat, (∀ j, j < ls.length → (lk ls j).c ≠ (c : Int)) → oat s'.W c = oat s.W c) ∧
      (∀ j, j < ls.length → oat s'.W (lk ls j).c.toNat = oat s.W (o + j))
  | [], o, s, hc, hok, hl, _, _, _, _ => ⟨s, rfl, ⟨rfl, rfl, rfl, by simp⟩, hok, hl, fun _ _ => rfl, fun j hj => by simp at hj⟩
  | l :: ls, o, s, hc, hok, hl, ho, hs, h1, h2 => by
    simp only [List.length_cons] at ho hs h1 h2 ⊢
    obtain ⟨c0, hc0, hc1⟩ := hs 0 (by omega)
    rw [lk_cons_zero] at hc0
    obtain ⟨s1, e1, v1⟩ := get_in (s := s) (a := (o : Int)) hc (by omega) (by omega)
    have q2 : ((o : Int)).toNat = o := by omega
    rw [q2] at e1
    obtain ⟨s2, e2, v2⟩ := put_in (s := s1) (a := l.c) (x := oat s.W o) (v1.c.trans hc) (by omega) (by rw [v1.w]; omega)
    rw [v1.w] at v2
    have k2 : s2.Ok := ok_set (s := s) hok (oat_isW hok.1 o) v2.w
    have l2 : s2.W.length = 2000 := by rw [v2.w, List.length_set]; exact hl
    have hw2 : uw ((o : Int) + 1) = ((o + 1 : Nat) : Int) := by rw [uw_of (by omega) (by omega)]; omega
    obtain ⟨s', g1, g2, g3, g4, g5, g6⟩ := unhang_ok ls (o + 1) s2 ((v2.c.trans v1.c).trans hc) k2 l2 (by omega) (fun j hj => by
      have q := hs (j + 1) (by omega)
      rw [lk_cons_succ] at q
      exact q) (fun i j hi hj e => by have := h1 (i + 1) (j + 1) (by omega) (by omega); rw [lk_cons_succ] at this; exact this (by rw [e]; congr 1; omega)) (fun i j hi hj hij e => by have := h2 (i + 1) (j + 1) (by omega) (by omega) (by omega); rw [lk_cons_succ, lk_cons_succ] at this; exact this e)
    have ec : ∀ c, oat s2.W c = if c = c0 then oat s.W o else oat s.W c := fun c => by
      rw [v2.w, oat_set]
      have q1 : l.c.toNat = c0 := by omega
      rw [q1]
      by_cases x1 : c = c0
      · rw [if_pos x1, if_pos ⟨x1.symm, by omega⟩]
      · rw [if_neg x1, if_neg (fun e => x1 e.1.symm)]
    refine ⟨s', ?_, ((v1.aft.trans v2).trans g2).more (by omega), g3, g4, fun c x1 => ?_, fun j hj => ?_⟩
    · unfold unhangL
      rw [e1]
      dsimp only
      rw [if_neg (by simp), e2]
      dsimp only
      rw [if_neg (by simp), hw2]
      exact g1
    · rw [g5 c (fun j hj => by have := x1 (j + 1) (by omega); rw [lk_cons_succ] at this; exact this), ec, if_neg (fun e => by have := x1 0 (by omega); rw [lk_cons_zero] at this; omega)]
    · cases j with
      | zero =>
        rw [lk_cons_zero, Nat.add_zero]
        have q1 : l.c.toNat = c0 := by omega
        rw [q1, g5 c0 (fun i hi e => by have := h2 (i + 1) 0 (by omega) (by omega) (by omega); rw [lk_cons_succ, lk_cons_zero] at this; omega), ec, if_pos rfl]
      | succ j =>
        rw [lk_cons_succ, g6 j (by omega), ec, if_neg (fun e => by have := h1 0 (j + 1) (by omega) (by omega); rw [lk_cons_zero] at this; omega), show o + (j + 1) = o + 1 + j by omega]
/-- Cells that no free piece has change. -/
theorem Rom.keep {s s' : Wd} {fr to : Int} {O : List (Int × Int)} {bk : Nat → List Int} (h : Rom s fr to O bk) (hl : s'.W.length = s.W.length) (h18 : ∀ c : Nat, c < 18 → oat s'.W c = oat s.W c) (hb : ∀ m : Nat, 1 ≤ m → m ≤ 16 → ∀ b ∈ bk m, oat s'.W b.toNat = oat s.W b.toNat) : Rom s' fr to O bk := by
  have e0 := h18 0 (by omega)
  refine ⟨by rw [hl]; exact h.len, h.fr0, h.to1, by rw [h18 1 (by omega)]; exact h.w1, by rw [e0]; exact h.nx0, by rw [e0]; exact h.nx1, fun p hp => by rw [e0]; exact h.oin p hp, fun m m1 m2 b hb => by rw [e0]; exact h.bin m m1 m2 b hb, h.oo, h.ob, h.bs, h.bb, fun m m1 m2 => ?_⟩
  rw [h18 (1 + m) (by omega)]
  exact chain_same (fun b hb' => hb m m1 m2 b (List.mem_reverse.1 hb')) (h.ch m m1 m2)
def pcs (N : List Sn) : List (Int × Int) := N.map fun q => ((q.a : Int), ((2 + q.h : Nat) : Int))
/-- A set in its room. -/
structure Ss (s : Wd) (N : List Sn) (m : Nat) : Prop where
  c : s.c = 0
  ok : s.Ok
  sl : Sl s.W N
  rm : ∃ bk, Rom s 40 2000 (pcs N) bk
  nb : nx s ≤ 40 + 10 * (m : Int)
end Go.Proofs.Ytifmpiiaebnbiaa
