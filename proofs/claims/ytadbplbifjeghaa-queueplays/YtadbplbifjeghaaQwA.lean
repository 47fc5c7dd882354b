
/- Pure (layer 23): gets and puts that are not refused; chains of nodes. No statement of the seat is proved here. -/
import Derived.Test.YtadbplbifjeghaaQuP
namespace Go.Proofs.Ytadbplbifjeghaa
open Go.RowKit

/-- How many gets and puts there were at most; none is refused. -/
def Lk (s : Wd) (K : Int) : Prop := -K ≤ s.l ∧ s.l < 0 ∧ K < 4611686018427387904
theorem Lk.dec {s : Wd} {K : Int} (h : Lk s K) (hK : K + 1 < 4611686018427387904) : Lk s.dec (K + 1) := by
  obtain ⟨h1, h2, h3⟩ := h
  have e : iw (s.l - 1) = s.l - 1 := by unfold iw wrap64; omega
  refine ⟨?_, ?_, hK⟩
  · show -(K + 1) ≤ iw (s.l - 1)
    rw [e]; omega
  · show iw (s.l - 1) < 0
    rw [e]; omega
theorem get_in {s : Wd} {K a : Int} (h : Lk s K) (_h0 : 0 ≤ a) (h1 : a < s.W.length) : s.get a = ((oat s.W a.toNat, 0), s.dec) := by
  unfold Wd.get
  rw [if_neg (by have := h.2.1; omega), if_neg (by omega)]
theorem put_in {s : Wd} {K a x : Int} (h : Lk s K) (_h0 : 0 ≤ a) (h1 : a < s.W.length) : s.put a x = (0, { s.dec with W := s.W.set a.toNat x }) := by
  unfold Wd.put
  rw [if_neg (by have := h.2.1; omega), if_neg (by omega)]
def ud (s : Wd) (ws : List Int) : Wd := { s with W := ws }
theorem Lk.ud {s : Wd} {K : Int} (h : Lk s K) (ws : List Int) : Lk (ud s ws) K := h
theorem Lk.more {s : Wd} {K K' : Int} (h : Lk s K) (hk : K ≤ K') (hK : K' < 4611686018427387904) : Lk s K' := ⟨by have := h.1; omega, h.2.1, hK⟩

theorem uw_of {x : Int} (h0 : 0 ≤ x) (h1 : x < 18446744073709551616) : uw x = x := uw_id ⟨h0, h1⟩
theorem endA0 : endA 0 = 1 := by unfold endA; exact uw_of (by omega) (by omega)
theorem hdA0 {n : Int} (h : mayN n) : hdA 0 n = 1 + n := by
  have h1 := h.1
  have h2 := h.2
  unfold hdA
  rw [show uw (0 + 1) = 1 from uw_of (by omega) (by omega)]
  exact uw_of (by omega) (by omega)
theorem oat_set (l : List Int) (i j : Nat) (x : Int) : oat (l.set i x) j = if i = j ∧ j < l.length then x else oat l j := by
  unfold oat
  rw [List.getElem?_set]
  by_cases h : i = j
  · subst h
    by_cases h2 : i < l.length
    · simp [h2]
    · simp [h2]
  · simp [h]


theorem get_out {s : Wd} {K a : Int} (h : Lk s K) (h1 : s.W.length ≤ a) : s.get a = ((0, 4), s.dec) := by
  unfold Wd.get
  rw [if_neg (by have := h.2.1; omega), if_pos h1]
theorem gets2_in {s : Wd} {K a : Int} (h : Lk s K) (hK : K + 2 < 4611686018427387904) (h0 : 0 ≤ a) (h1 : a + 1 < s.W.length) (hl : s.W.length ≤ 17592186044416) : getsF a 2 s = (([oat s.W a.toNat, oat s.W (a + 1).toNat], 0), s.dec.dec) := by
  have e0 : uw (a + ((0 : Nat) : Int)) = a := by rw [Int.natCast_zero, Int.add_zero]; exact uw_of h0 (by omega)
  have e1 : uw (a + ((1 : Nat) : Int)) = a + 1 := uw_of (by omega) (by omega)
  have g1 := get_in (a := a) h h0 (by omega)
  have g2 := get_in (s := s.dec) (a := a + 1) (h.dec (by omega)) (by omega) (by show a + 1 < (s.W.length : Int); omega)
  show getK a s 2 = _
  unfold getK
  unfold getK
  unfold getK
  simp only [e0, g1, ne_eq, not_true_eq_false, if_false, e1, g2, List.nil_append]
  rfl
theorem gets2_out {s : Wd} {K a : Int} (h : Lk s K) (hK : K + 2 < 4611686018427387904) (h0 : 0 ≤ a) (h1 : s.W.length ≤ a + 1) (ha : a < 18446744073709551615) : ∃ s', getsF a 2 s = (([], 4), s') ∧ s'.W = s.W ∧ Lk s' (K + 2) := by
  have e0 : uw (a + ((0 : Nat) : Int)) = a := by rw [Int.natCast_zero, Int.add_zero]; exact uw_of h0 (by omega)
  have e1 : uw (a + ((1 : Nat) : Int)) = a + 1 := uw_of (by omega) (by omega)
  show ∃ s', getK a s 2 = _ ∧ _
  by_cases h2 : s.W.length ≤ a
  · have g1 := get_out h h2
    refine ⟨s.dec, ?_, rfl, (h.dec (by omega)).more (by omega) hK⟩
    unfold getK
    unfold getK
    unfold getK
    have e00 : uw a = a := by have q := e0; rw [Int.natCast_zero, Int.add_zero] at q; exact q
    simp [e00, g1]
  · have g1 := get_in (a := a) h h0 (by omega)
    have g2 := get_out (s := s.dec) (a := a + 1) (h.dec (by omega)) h1
    refine ⟨s.dec.dec, ?_, rfl, ((h.dec (by omega)).dec (by omega)).more (by omega) hK⟩
    unfold getK
    unfold getK
    unfold getK
    simp only [e0, g1, ne_eq, not_true_eq_false, if_false, e1, g2]
    rfl
theorem gets3_in {s : Wd} {K a : Int} (h : Lk s K) (hK : K + 3 < 4611686018427387904) (h0 : 0 ≤ a) (h1 : a + 2 < s.W.length) (hl : s.W.length ≤ 17592186044416) : getsF a 3 s = (([oat s.W a.toNat, oat s.W (a + 1).toNat, oat s.W (a + 2).toNat], 0), s.dec.dec.dec) := by
  have g := gets2_in h (by omega) h0 (by omega) hl
  have e2 : uw (a + ((2 : Nat) : Int)) = a + 2 := uw_of (by omega) (by omega)
  have g3 := get_in (s := s.dec.dec) (a := a + 2) ((h.dec (by omega)).dec (by omega)) (by omega) (by show a + 2 < (s.W.length : Int); omega)
  have g' : getK a s 2 = (([oat s.W a.toNat, oat s.W (a + 1).toNat], 0), s.dec.dec) := g
  show getK a s 3 = _
  unfold getK
  simp only [g', ne_eq, not_true_eq_false, if_false, e2, g3]
  rfl
theorem gets3_out {s : Wd} {K a : Int} (h : Lk s K) (hK : K + 3 < 4611686018427387904) (ha : isW a) (h1 : s.W.length ≤ a + 2) (hl : s.W.length ≤ 17592186044416) : ∃ s', getsF a 3 s = (([], 4), s') ∧ s'.W = s.W ∧ Lk s' (K + 3) := by
  have h0 := ha.1
  have e0 : uw (a + ((0 : Nat) : Int)) = a := by rw [Int.natCast_zero, Int.add_zero]; exact uw_id ha
  show ∃ s', getK a s 3 = _ ∧ _
  by_cases h2 : s.W.length ≤ a
  · have g1 := get_out h h2
    refine ⟨s.dec, ?_, rfl, (h.dec (by omega)).more (by omega) hK⟩
    have q : getK a s 1 = (([], 4), s.dec) := by
      unfold getK
      unfold getK
      have e00 : uw a = a := uw_id ha
      simp [e00, g1]
    have q2 := getK_stop a s 1 (by rw [q]; simp) 2
    rw [q2, q]
  · by_cases h3 : s.W.length ≤ a + 1
    · obtain ⟨s', e, e1, e2⟩ := gets2_out h (by omega) h0 h3 (by omega)
      refine ⟨s', ?_, e1, e2.more (by omega) hK⟩
      have e' : getK a s 2 = (([], 4), s') := e
      have q2 := getK_stop a s 2 (by rw [e']; simp) 1
      rw [q2, e']
    · have g := gets2_in h (by omega) h0 (by omega) hl
      have e2 : uw (a + ((2 : Nat) : Int)) = a + 2 := uw_of (by omega) (by omega)
      have g3 := get_out (s := s.dec.dec) (a := a + 2) ((h.dec (by omega)).dec (by omega)) h1
      have g' : getK a s 2 = (([oat s.W a.toNat, oat s.W (a + 1).toNat], 0), s.dec.dec) := g
      refine ⟨s.dec.dec.dec, ?_, rfl, (((h.dec (by omega)).dec (by omega)).dec (by omega)).more (by omega) hK⟩
      unfold getK
      simp only [g', ne_eq, not_true_eq_false, if_false, e2, g3]
      rfl

/-- A chain of nodes, from a word that leads to the first one. -/
def lk (W : List Int) : Int → List Int → Prop
  | to, [] => to = 0
  | to, n :: ns => to = n + 1 ∧ 0 ≤ n ∧ n + 1 < W.length ∧ lk W (oat W (n + 1).toNat) ns
/-- The word that leads to the last of them. -/
def lastL : Int → List Int → Int
  | a, [] => a
  | _, n :: ns => lastL (n + 1) ns
theorem lk_det {W : List Int} : ∀ {to : Int} {ns ns' : List Int}, lk W to ns → lk W to ns' → ns = ns'
  | _, [], [], _, _ => rfl
  | _, [], n :: ns, h, h' => by
    have e : _ = (0 : Int) := h
    have := h'.1
    have := h'.2.1
    omega
  | _, n :: ns, [], h, h' => by
    have e : _ = (0 : Int) := h'
    have := h.1
    have := h.2.1
    omega
  | _, n :: ns, m :: ms, h, h' => by
    have e : n = m := by have := h.1; have := h'.1; omega
    subst e
    rw [lk_det h.2.2.2 h'.2.2.2]
theorem lk_end {W : List Int} : ∀ {to a : Int} {n : Int} {ns : List Int}, lk W to (n :: ns) → ∃ m, lastL a (n :: ns) = m + 1 ∧ lk W (m + 1) [m]
  | _to, _a, n, [], h => ⟨n, rfl, rfl, h.2.1, h.2.2.1, h.2.2.2⟩
  | _, _, n, k :: ns, h => lk_end (a := n + 1) (n := k) (ns := ns) h.2.2.2
theorem lk_lastN {W : List Int} {to a n : Int} {ns : List Int} (h : lk W to (n :: ns)) : lastL a (n :: ns) = to ↔ ns = [] := by
  constructor
  · intro e
    obtain ⟨m, e1, e2⟩ := lk_end (a := a) h
    have e3 : to = m + 1 := by rw [← e, e1]
    have e4 : m = n := by have := h.1; omega
    subst e4
    rw [← e3] at e2
    have q := lk_det h e2
    injection q
  · rintro rfl
    exact h.1.symm
def prs (W : List Int) (ns : List Int) : List (Int × Int) := ns.map fun n => (n, oat W n.toNat)
theorem nodeA_of {x : Int} (h0 : x ≠ 0) (h : isW x) : nodeA x = x - 1 := by
  have h1 := h.1
  have h2 := h.2
  exact uw_of (by omega) (by omega)
theorem chn_all {W : List Int} (hW : ∀ i, isW (oat W i)) (hl : W.length ≤ 17592186044416) (last : Int) : ∀ (k : Nat) (at_ to : Int) (sp : List (Int × Int)) (s : Wd) (K : Int), s.W = W → Lk s K → K + 2 * k + 2 < 4611686018427387904 → isW to →
    (∃ ns s', lk W to ns ∧ ns.length = k ∧ last = lastL at_ ns ∧ chn last k at_ to sp s = ((sp ++ prs W ns, 0), s') ∧ s'.W = W ∧ Lk s' (K + 2 * k)) ∨
    ((¬ ∃ ns, lk W to ns ∧ ns.length = k ∧ last = lastL at_ ns) ∧ ∃ e s', (e = 330 ∨ e = 4) ∧ chn last k at_ to sp s = (([], e), s') ∧ s'.W = W ∧ Lk s' (K + 2 * k))
  | 0, at_, to, sp, s, K, hs, hk, hK, hto => by
    unfold chn
    by_cases h0 : to = 0
    · by_cases h1 : at_ = last
      · refine .inl ⟨[], s, h0, rfl, h1.symm, ?_, hs, hk.more (by omega) (by omega)⟩
        rw [if_pos h0, if_pos h1]
        simp [rtn, prs]
      · refine .inr ⟨?_, 330, s, .inl rfl, ?_, hs, hk.more (by omega) (by omega)⟩
        · rintro ⟨ns, _, e, e2⟩
          obtain rfl := List.eq_nil_of_length_eq_zero e
          exact h1 e2.symm
        · rw [if_pos h0, if_neg h1]; rfl
    · refine .inr ⟨?_, 330, s, .inl rfl, ?_, hs, hk.more (by omega) (by omega)⟩
      · rintro ⟨ns, e1, e, _⟩
        obtain rfl := List.eq_nil_of_length_eq_zero e
        exact h0 e1
      · rw [if_neg h0]; rfl
  | k + 1, at_, to, sp, s, K, hs, hk, hK, hto => by
    by_cases h0 : to = 0
    · refine .inr ⟨?_, 330, s, .inl rfl, ?_, hs, hk.more (by omega) (by omega)⟩
      · rintro ⟨ns, e1, e, _⟩
        cases ns with
        | nil => simp at e
        | cons n ns => have := e1.1; have := e1.2.1; omega
      · unfold chn; rw [if_pos h0]; rfl
    · by_cases hm : decide (to = last) = decide (k = 0)
      · have en := nodeA_of h0 hto
        have h1 := hto.1
        have h2 := hto.2
        have hun : chn last (k + 1) at_ to sp s = bnd (getsF (nodeA to) 2) (fun l => chn last k to (oat l 1) (sp ++ [(nodeA to, oat l 0)])) [] s := by
          conv => lhs; unfold chn
          rw [if_neg h0, if_neg (by simp [hm])]
        rw [hun, en]
        by_cases hr : to < W.length
        · have g := gets2_in (s := s) (a := to - 1) hk (by omega) (by omega) (by rw [hs]; omega) (by rw [hs]; exact hl)
          rw [show to - 1 + 1 = to by omega, hs] at g
          rw [bnd_ok g]
          have o0 : oat [oat W (to - 1).toNat, oat W to.toNat] 0 = oat W (to - 1).toNat := rfl
          have o1 : oat [oat W (to - 1).toNat, oat W to.toNat] 1 = oat W to.toNat := rfl
          rw [o0, o1]
          rcases chn_all hW hl last k to (oat W to.toNat) (sp ++ [(to - 1, oat W (to - 1).toNat)]) s.dec.dec (K + 1 + 1) hs ((hk.dec (by omega)).dec (by omega)) (by omega) (hW _) with ⟨ns, s', a1, a2, a3, a4, a5, a6⟩ | ⟨no, e, s', a1, a2, a3, a4⟩
          · refine .inl ⟨(to - 1) :: ns, s', ⟨by omega, by omega, by omega, by rw [show to - 1 + 1 = to by omega]; exact a1⟩, by simp [a2], ?_, ?_, a5, a6.more (by omega) (by omega)⟩
            · show last = lastL (to - 1 + 1) ns
              rw [show to - 1 + 1 = to by omega]; exact a3
            · rw [a4]
              simp [prs]
          · refine .inr ⟨?_, e, s', a1, a2, a3, a4.more (by omega) (by omega)⟩
            rintro ⟨ns, e1, e2, e3⟩
            cases ns with
            | nil => simp at e2
            | cons n ns =>
              have q := e1.1
              refine no ⟨ns, ?_, by simpa using e2, ?_⟩
              · rw [q]; exact e1.2.2.2
              · rw [q]; exact e3
        · obtain ⟨s', g, g1, g2⟩ := gets2_out (s := s) (a := to - 1) hk (by omega) (by omega) (by rw [hs]; omega) (by omega)
          rw [bnd_no g (by decide)]
          refine .inr ⟨?_, 4, s', .inr rfl, rfl, g1.trans hs, g2.more (by omega) (by omega)⟩
          rintro ⟨ns, e1, e2, e3⟩
          cases ns with
          | nil => simp at e2
          | cons n ns => have := e1.1; have := e1.2.2.1; omega
      · refine .inr ⟨?_, 330, s, .inl rfl, ?_, hs, hk.more (by omega) (by omega)⟩
        · rintro ⟨ns, e1, e2, e3⟩
          cases ns with
          | nil => simp at e2
          | cons n ns =>
            have q := lk_lastN (a := at_) e1
            rw [← e3] at q
            apply hm
            have hk0 : ns.length = k := by simpa using e2
            by_cases hk00 : k = 0
            · subst hk00
              have : to = last := (q.2 (List.eq_nil_of_length_eq_zero hk0)).symm
              simp [this]
            · have : to ≠ last := fun e => hk00 (by rw [q.1 e.symm] at hk0; simpa using hk0.symm)
              simp [this, hk00]
        · unfold chn
          rw [if_neg h0, if_pos hm]
          rfl
/-- A queue that is whole, and its nodes. -/
def Wh (W : List Int) (q : Int) (ns : List Int) : Prop := 0 ≤ q ∧ q + 2 < W.length ∧ oat W (q + 2).toNat = ns.length ∧ ns.length ≤ 65536 ∧ lk W (oat W q.toNat) ns ∧ oat W (q + 1).toNat = lastL 0 ns
theorem chain_all {s : Wd} {K q : Int} (hok : s.Ok) (hk : Lk s K) (hK : K + 131080 < 4611686018427387904) (hq : isW q) :
    (∃ ns s', Wh s.W q ns ∧ Wd.chain q s = ((prs s.W ns, 0), s') ∧ s'.W = s.W ∧ Lk s' (K + 131080)) ∨
    ((¬ ∃ ns, Wh s.W q ns) ∧ ∃ e s', (e = 330 ∨ e = 4) ∧ Wd.chain q s = (([], e), s') ∧ s'.W = s.W ∧ Lk s' (K + 131080)) := by
  have hW := oat_isW hok.1
  have hl := hok.2
  have q0 := hq.1
  by_cases h1 : q + 2 < s.W.length
  · have g := gets3_in hk (by omega) q0 h1 hl
    have o0 : oat [oat s.W q.toNat, oat s.W (q + 1).toNat, oat s.W (q + 2).toNat] 0 = oat s.W q.toNat := rfl
    have o1 : oat [oat s.W q.toNat, oat s.W (q + 1).toNat, oat s.W (q + 2).toNat] 1 = oat s.W (q + 1).toNat := rfl
    have o2 : oat [oat s.W q.toNat, oat s.W (q + 1).toNat, oat s.W (q + 2).toNat] 2 = oat s.W (q + 2).toNat := rfl
    unfold Wd.chain
    rw [bnd_ok g]
    rw [o0, o1, o2]
    have l0 := (hW (q + 2).toNat).1
    by_cases hb : 65536 < oat s.W (q + 2).toNat
    · rw [if_pos hb]
      refine .inr ⟨?_, 330, s.dec.dec.dec, .inl rfl, rfl, rfl, (((hk.dec (by omega)).dec (by omega)).dec (by omega)).more (by omega) hK⟩
      rintro ⟨ns, _, _, e, e2, _⟩
      omega
    · rw [if_neg hb]
      obtain ⟨k, hk2⟩ : ∃ k, (oat s.W (q + 2).toNat).toNat = k := ⟨_, rfl⟩
      rw [hk2]
      rcases chn_all hW hl (oat s.W (q + 1).toNat) k 0 (oat s.W q.toNat) [] s.dec.dec.dec (K + 1 + 1 + 1) rfl (((hk.dec (by omega)).dec (by omega)).dec (by omega)) (by omega) (hW _) with ⟨ns, s', a1, a2, a3, a4, a5, a6⟩ | ⟨no, e, s', a1, a2, a3, a4⟩
      · exact .inl ⟨ns, s', ⟨q0, h1, by omega, by omega, a1, a3⟩, by rw [a4]; simp, a5, a6.more (by omega) hK⟩
      · refine .inr ⟨?_, e, s', a1, a2, a3, a4.more (by omega) hK⟩
        rintro ⟨ns, _, _, e, e2, e3, e4⟩
        exact no ⟨ns, e3, by omega, e4⟩
  · obtain ⟨s', g, g1, g2⟩ := gets3_out hk (by omega) hq (by omega) hl
    unfold Wd.chain
    rw [bnd_no g (by decide)]
    refine .inr ⟨?_, 4, s', .inr rfl, rfl, g1, g2.more (by omega) hK⟩
    rintro ⟨ns, _, e, _⟩
    omega
end Go.Proofs.Ytadbplbifjeghaa
