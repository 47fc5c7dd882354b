
/- Pure (layer 22): the search over a skip list. No statement of the seat is proved here. -/
import Derived.Test.YtifmpiiaebnbiaaSnB
namespace Go.Proofs.Ytifmpiiaebnbiaa
open Go.RowKit

theorem cel_reset {i : Nat} {q : Sn} {C : List Sn} (hq : i < q.h) : ∀ (D : List Sn) (base : Nat), cel i base (D ++ q :: C) = cel i (q.a + 2) C
  | [], base => by
    show cel i base (q :: C) = _
    exact cel_yes hq
  | d :: D, base => by
    show cel i base (d :: (D ++ q :: C)) = _
    by_cases hd : i < d.h
    · rw [cel_yes hd]; exact cel_reset hq D _
    · rw [cel_no hd]; exact cel_reset hq D _
theorem cel_low {i base : Nat} {P : List Sn} (h : ∀ q ∈ P, q.h ≤ i) : cel i base P = base + i := by
  have q := cel_app (base := base) (B := []) h
  rw [List.append_nil] at q
  exact q
theorem lk_set_ne {la : List Lk} {i j : Nat} {l : Lk} (h : i ≠ j) : lk (la.set i l) j = lk la j := by
  unfold lk; rw [List.getElem?_set, if_neg h]
theorem lk_set_eq {la : List Lk} {i : Nat} {l : Lk} (h : i < la.length) : lk (la.set i l) i = l := by
  unfold lk; rw [List.getElem?_set, if_pos rfl, if_pos h]; rfl
theorem sr_sl (p : Int → Bool) : ∀ (f : Nat) (la : List Lk) (base hh lv n : Nat) (s : Wd) (P B : List Sn), s.c = 0 → lv < hh → base + hh ≤ s.W.length → s.W.length ≤ 2000 → Lnk s.W base hh (P ++ B) → Ns s.W (P ++ B) → (∀ q ∈ P, p q.k = true) → (∀ q ∈ B, p q.k = false) → P.length + lv + 1 ≤ f → n + P.length + lv + 1 ≤ 65536 → la.length = 8 → lv < 8 →
    ∃ la' s', sr p f la (base : Int) lv n s = ((la', 0), s') ∧ la'.length = 8 ∧ Seen s s' (2 * (P.length + lv + 1)) ∧ (∀ i, lv < i → lk la' i = lk la i) ∧ (∀ i, i ≤ lv → lk la' i = ⟨((cel i base P : Nat) : Int), nxt i B, nxk i B⟩)
  | 0, la, base, hh, lv, n, s, P, B, _, _, _, _, _, _, _, _, hf, _, _, _ => by omega
  | f + 1, la, base, hh, lv, n, s, P, B, hc, hlv, hb, hl, hL, hN, hP, hB, hf, hn, hla, h8 => by
    obtain ⟨n', s1, e1, v1, hn'⟩ := fol_sl (i := lv) hc hlv hb hl hL hN (n := n) (by omega)
    have hw : uw ((base : Int) + (lv : Int)) = ((base + lv : Nat) : Int) := by rw [uw_of (by omega) (by omega)]; omega
    by_cases h0 : nxt lv P = 0
    · have hlow := nxt_zero.1 h0
      rw [nxt_app hlow, nxk_app hlow] at e1
      have hno : ¬ (nxt lv B ≠ 0 ∧ p (nxk lv B) = true) := fun ⟨q1, q2⟩ => by
        obtain ⟨D, q, C, e, _, _, _, h5⟩ := nxt_split q1
        have := hB q (by rw [e]; simp)
        rw [h5, this] at q2
        cases q2
      unfold sr
      rw [hw, e1]
      dsimp only
      rw [if_neg (by simp), if_neg hno]
      cases lv with
      | zero =>
        refine ⟨_, s1, rfl, by rw [List.length_set]; exact hla, v1.more (by omega), fun i hi => lk_set_ne (by omega), fun i hi => ?_⟩
        obtain rfl : i = 0 := by omega
        rw [lk_set_eq (by omega), cel_low hlow]
      | succ lv =>
        obtain ⟨la', s', g1, g2, g3, g4, g5⟩ := sr_sl p f (la.set (lv + 1) ⟨((base + (lv + 1) : Nat) : Int), nxt (lv + 1) B, nxk (lv + 1) B⟩) base hh lv n' s1 P B (v1.c.trans hc) (by omega) (by rw [v1.w]; exact hb) (by rw [v1.w]; exact hl) (by rw [v1.w]; exact hL) (by rw [v1.w]; exact hN) hP hB (by omega) (by omega) (by rw [List.length_set]; exact hla) (by omega)
        refine ⟨la', s', g1, g2, (v1.trans g3).more (by omega), fun i hi => by rw [g4 i (by omega)]; exact lk_set_ne (by omega), fun i hi => ?_⟩
        by_cases hi2 : i ≤ lv
        · exact g5 i hi2
        · obtain rfl : i = lv + 1 := by omega
          rw [g4 _ (by omega), lk_set_eq (by omega), cel_low hlow]
    · obtain ⟨D, q, C, e, hD, hq, h4, h5⟩ := nxt_split h0
      have e2 : P ++ B = D ++ q :: (C ++ B) := by rw [e]; simp
      have hat := Ns.at_ (e2 ▸ hN)
      have hpl : P.length = D.length + 1 + C.length := by rw [e]; simp; omega
      have hnx : nxt lv (P ++ B) = (q.a : Int) + 1 := by
        rw [e2, nxt_app hD]
        exact nxt_yes hq
      have hnk : nxk lv (P ++ B) = q.k := by
        rw [e2, nxk_app hD]
        exact nxk_yes hq
      rw [hnx, hnk] at e1
      have hpq := hP q (by rw [e]; simp)
      have hnd : (⟨((base + lv : Nat) : Int), (q.a : Int) + 1, q.k⟩ : Lk).nd = q.a := by
        show uw ((q.a : Int) + 1 - 1) = q.a
        rw [show (q.a : Int) + 1 - 1 = q.a by omega]
        exact uw_of (by omega) (by omega)
      have hw2 : uw ((q.a : Int) + 2) = ((q.a + 2 : Nat) : Int) := by rw [uw_of (by omega) (by omega)]; omega
      obtain ⟨la', s', g1, g2, g3, g4, g5⟩ := sr_sl p f (la.set lv ⟨((base + lv : Nat) : Int), (q.a : Int) + 1, q.k⟩) (q.a + 2) q.h lv n' s1 C B (v1.c.trans hc) hq (by rw [v1.w]; omega) (by rw [v1.w]; exact hl) (by rw [v1.w]; exact hat.2.1) (by rw [v1.w]; exact hat.2.2) (fun x hx => hP x (by rw [e]; simp [hx])) hB (by omega) (by omega) (by rw [List.length_set]; exact hla) h8
      refine ⟨la', s', ?_, g2, (v1.trans g3).more (by omega), fun i hi => by rw [g4 i hi]; exact lk_set_ne (by omega), fun i hi => ?_⟩
      · conv => lhs; unfold sr
        rw [hw, e1]
        dsimp only
        rw [if_neg (by simp), if_pos ⟨by omega, hpq⟩, hnd, hw2]
        exact g1
      · rw [g5 i hi, e, cel_reset (by omega)]
/-- A set as it lies: its header at 20. -/
structure Sl (W : List Int) (N : List Sn) : Prop where
  lnk : Lnk W 20 8 N
  ns : Ns W N
  up : N.Pairwise fun a b => a.k < b.k
  len : W.length = 2000
  few : N.length ≤ 1000
theorem zeros_len : zeros.length = 8 := rfl
theorem search_sl {s : Wd} {P B : List Sn} {p : Int → Bool} (hc : s.c = 0) (h : Sl s.W (P ++ B)) (hP : ∀ q ∈ P, p q.k = true) (hB : ∀ q ∈ B, p q.k = false) :
    ∃ la s', s.search p 20 = ((la, 0), s') ∧ la.length = 8 ∧ Seen s s' 2100 ∧ ∀ i, i < 8 → lk la i = ⟨((cel i 20 P : Nat) : Int), nxt i B, nxk i B⟩ := by
  have hf := h.few
  rw [List.length_append] at hf
  obtain ⟨la, s', g1, g2, g3, _, g5⟩ := sr_sl p FU zeros 20 8 7 0 s P B hc (by omega) (by rw [h.len]; omega) (by rw [h.len]; omega) h.lnk h.ns hP hB (by unfold FU; omega) (by omega) zeros_len (by omega)
  exact ⟨la, s', g1, g2, g3.more (by omega), fun i hi => g5 i (by omega)⟩
end Go.Proofs.Ytifmpiiaebnbiaa
