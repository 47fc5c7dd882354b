
/- Pure (layer 20, RoomApart): a room whose pieces are out or given back, and what its calls do to it. No statement of the seat is proved here. -/
import Derived.Test.YthelfalmjihkdaaRmA
namespace Go.Proofs.Ythelfalmjihkdaa
open Go.RowKit

/-- How many gets and puts there were at most; none is refused. -/
def Lk (s : Wd) (K : Int) : Prop := -K ≤ s.l ∧ s.l < 0 ∧ K < 4611686018427387904
theorem Lk.dec {s : Wd} {K : Int} (h : Lk s K) (hK : K + 1 < 4611686018427387904) : Lk s.dec (K + 1) := by
  obtain ⟨h1, h2, h3⟩ := h
  have e : iw (s.l - 1) = s.l - 1 := by unfold iw wrap64; omega
  refine ⟨?_, ?_, hK⟩
  · show -(K + 1) ≤ iw (s.l - 1)
    rw [e]; omega
  · show iw (s.l - 1) < 0
    rw [e]; omega
theorem get_in {s : Wd} {K a : Int} (h : Lk s K) (_h0 : 0 ≤ a) (h1 : a < s.W.length) : s.get a = ((oat s.W a.toNat, 0), s.dec) := by
  unfold Wd.get
  rw [if_neg (by have := h.2.1; omega), if_neg (by omega)]
theorem put_in {s : Wd} {K a x : Int} (h : Lk s K) (_h0 : 0 ≤ a) (h1 : a < s.W.length) : s.put a x = (0, { s.dec with W := s.W.set a.toNat x }) := by
  unfold Wd.put
  rw [if_neg (by have := h.2.1; omega), if_neg (by omega)]
def ud (s : Wd) (ws : List Int) : Wd := { s with W := ws }
theorem Lk.ud {s : Wd} {K : Int} (h : Lk s K) (ws : List Int) : Lk (ud s ws) K := h
theorem Lk.more {s : Wd} {K K' : Int} (h : Lk s K) (hk : K ≤ K') (hK : K' < 4611686018427387904) : Lk s K' := ⟨by have := h.1; omega, h.2.1, hK⟩

theorem uw_of {x : Int} (h0 : 0 ≤ x) (h1 : x < 18446744073709551616) : uw x = x := uw_id ⟨h0, h1⟩
theorem endA0 : endA 0 = 1 := by unfold endA; exact uw_of (by omega) (by omega)
theorem hdA0 {n : Int} (h : mayN n) : hdA 0 n = 1 + n := by
  have h1 := h.1
  have h2 := h.2
  unfold hdA
  rw [show uw (0 + 1) = 1 from uw_of (by omega) (by omega)]
  exact uw_of (by omega) (by omega)
theorem oat_set (l : List Int) (i j : Nat) (x : Int) : oat (l.set i x) j = if i = j ∧ j < l.length then x else oat l j := by
  unfold oat
  rw [List.getElem?_set]
  by_cases h : i = j
  · subst h
    by_cases h2 : i < l.length
    · simp [h2]
    · simp [h2]
  · simp [h]

/-- A list of pieces by its first cells. -/
def chain (W : List Int) : Int → List Int → Prop
  | h, [] => h = 0
  | h, a :: r => h = a + 1 ∧ chain W (oat W a.toNat) r
theorem chain_same {W W' : List Int} : ∀ {l : List Int} {h : Int}, (∀ a ∈ l, oat W' a.toNat = oat W a.toNat) → chain W h l → chain W' h l
  | [], _, _, q => q
  | a :: r, h, hs, q => ⟨q.1, by rw [hs a (by simp)]; exact chain_same (fun b hb => hs b (by simp [hb])) q.2⟩

/-- Two pieces have no cell in common. -/
def PD (p q : Int × Int) : Prop := p.1 + p.2 ≤ q.1 ∨ q.1 + q.2 ≤ p.1
theorem PD.symm {p q : Int × Int} (h : PD p q) : PD q p := h.elim .inr .inl

/-- A room: its words, from where to where, the pieces that are out, those that were given back, by size. -/
structure Rm (s : Wd) (fr to : Int) (O : List (Int × Int)) (bk : Nat → List Int) : Prop where
  len : s.W.length = 300
  fr0 : 18 ≤ fr
  to1 : to ≤ 236
  w1 : oat s.W 1 = to
  nx0 : fr ≤ oat s.W 0
  nx1 : oat s.W 0 ≤ to
  oin : ∀ p ∈ O, fr ≤ p.1 ∧ mayN p.2 ∧ p.1 + p.2 ≤ oat s.W 0
  bin : ∀ n : Nat, 1 ≤ n → n ≤ 16 → ∀ a ∈ bk n, fr ≤ a ∧ a + n ≤ oat s.W 0
  oo : O.Pairwise PD
  ob : ∀ p ∈ O, ∀ n : Nat, 1 ≤ n → n ≤ 16 → ∀ a ∈ bk n, PD p (a, n)
  bs : ∀ n : Nat, 1 ≤ n → n ≤ 16 → (bk n).Pairwise fun a b => PD (a, n) (b, n)
  bb : ∀ n m : Nat, 1 ≤ n → n ≤ 16 → 1 ≤ m → m ≤ 16 → n ≠ m → ∀ a ∈ bk n, ∀ b ∈ bk m, PD (a, (n : Int)) (b, (m : Int))
  ch : ∀ n : Nat, 1 ≤ n → n ≤ 16 → chain s.W (oat s.W (1 + n)) (bk n).reverse

def nx (s : Wd) : Int := oat s.W 0

section
variable {s : Wd} {fr to K : Int} {O : List (Int × Int)} {bk : Nat → List Int}

/-- Left. -/
theorem Rm.lft (h : Rm s fr to O bk) (hk : Lk s K) (hK : K + 2 < 4611686018427387904) : s.lft 0 = ((to - nx s, 0), s.dec.dec) := by
  have h0 := h.nx0
  have h1 := h.nx1
  have h2 := h.fr0
  have h3 := h.to1
  have g1 := get_in (a := 0) hk (by omega) (by rw [h.len]; omega)
  have g2 := get_in (s := s.dec) (a := 1) (hk.dec (by omega)) (by omega) (by show (1 : Int) < (s.W.length : Int); rw [h.len]; omega)
  have g3 : oat s.dec.W (1 : Int).toNat = to := h.w1
  unfold Wd.lft Wd.free
  rw [endA0, g1]
  simp only [ne_eq, not_true_eq_false, if_false]
  rw [g2]
  simp only [not_true_eq_false, if_false, g3]
  have e : oat s.W (0 : Int).toNat = nx s := rfl
  rw [e]
  by_cases hlt : nx s < to
  · rw [if_pos hlt, uw_of (by omega) (by unfold nx at *; omega)]
  · rw [if_neg hlt]
    have : to - nx s = 0 := by unfold nx at *; omega
    rw [this]

theorem Rm.dec (h : Rm s fr to O bk) : Rm s.dec fr to O bk := ⟨h.len, h.fr0, h.to1, h.w1, h.nx0, h.nx1, h.oin, h.bin, h.oo, h.ob, h.bs, h.bb, h.ch⟩
theorem nx_dec : nx s.dec = nx s := rfl

/-- Take where none was given back: the refusal. -/
theorem Rm.take_no (h : Rm s fr to O bk) (hk : Lk s K) (hK : K + 3 < 4611686018427387904) (n : Nat) (hn1 : 1 ≤ n) (hn2 : n ≤ 16) (he : bk n = []) (hl : to - nx s < n) : s.take 0 n = ((0, 9), s.dec.dec.dec) := by
  have hm : mayN (n : Int) := ⟨by omega, by omega⟩
  have h0 : oat s.W (1 + n) = 0 := by have := h.ch n hn1 hn2; rw [he] at this; exact this
  have g1 := get_in (a := hdA 0 n) hk (by rw [hdA0 hm]; omega) (by rw [hdA0 hm, h.len]; omega)
  have e1 : oat s.W (hdA 0 n).toNat = 0 := by rw [hdA0 hm, show (1 + (n : Int)).toNat = 1 + n by omega]; exact h0
  have q := (h.dec).lft (hk.dec (by omega)) (by omega)
  unfold Wd.lft at q
  injection q with q1 q2
  injection q1 with q3 q4
  unfold Wd.take
  rw [if_neg (by simpa using hm), g1, e1]
  simp only [ne_eq, not_true_eq_false, if_false, if_true]
  unfold Wd.takeN
  rw [q4, q3, q2, if_neg (by simp), if_pos (by rw [nx_dec]; exact hl)]

/-- Take of new cells. -/
theorem Rm.take_new (h : Rm s fr to O bk) (hk : Lk s K) (hK : K + 4 < 4611686018427387904) (n : Nat) (hn1 : 1 ≤ n) (hn2 : n ≤ 16) (he : bk n = []) (hl : n ≤ to - nx s) : s.take 0 n = ((nx s, 0), ud s.dec.dec.dec.dec (s.W.set 0 (nx s + n))) := by
  have hm : mayN (n : Int) := ⟨by omega, by omega⟩
  have a0 := h.nx0
  have a1 := h.nx1
  have a2 := h.fr0
  have a3 := h.to1
  have h0 : oat s.W (1 + n) = 0 := by have := h.ch n hn1 hn2; rw [he] at this; exact this
  have g1 := get_in (a := hdA 0 n) hk (by rw [hdA0 hm]; omega) (by rw [hdA0 hm, h.len]; omega)
  have e1 : oat s.W (hdA 0 n).toNat = 0 := by rw [hdA0 hm, show (1 + (n : Int)).toNat = 1 + n by omega]; exact h0
  have q := (h.dec).lft (hk.dec (by omega)) (by omega)
  have qf : (s.dec.free 0).1.1 = nx s := by
    have g1' := get_in (s := s.dec) (a := 0) (hk.dec (by omega)) (by omega) (by show (0 : Int) < (s.W.length : Int); rw [h.len]; omega)
    have g2' := get_in (s := s.dec.dec) (a := 1) ((hk.dec (by omega)).dec (by omega)) (by omega) (by show (1 : Int) < (s.W.length : Int); rw [h.len]; omega)
    unfold Wd.free
    rw [endA0, g1']
    simp only [ne_eq, not_true_eq_false, if_false]
    rw [g2']
    simp only [not_true_eq_false, if_false]
    rfl
  unfold Wd.lft at q
  injection q with q1 q2
  injection q1 with q3 q4
  have hw : uw (nx s + n) = nx s + n := uw_of (by unfold nx; omega) (by unfold nx at *; omega)
  have p1 := put_in (s := s.dec.dec.dec) (K := K + 1 + 1 + 1) (a := 0) (x := nx s + n) (((hk.dec (by omega)).dec (by omega)).dec (by omega)) (by omega) (by show (0 : Int) < (s.W.length : Int); rw [h.len]; omega)
  unfold Wd.take
  rw [if_neg (by simpa using hm), g1, e1]
  simp only [ne_eq, not_true_eq_false, if_false, if_true]
  unfold Wd.takeN
  rw [q4, q3, q2, qf, hw, p1, if_neg (by simp), if_neg (by rw [nx_dec]; omega), if_neg (by simp)]
  rfl

/-- Take of a piece that was given back. -/
theorem Rm.take_old (h : Rm s fr to O bk) (hk : Lk s K) (hK : K + 4 < 4611686018427387904) (n : Nat) (hn1 : 1 ≤ n) (hn2 : n ≤ 16) (a : Int) (r : List Int) (he : bk n = r ++ [a]) : s.take 0 n = ((a, 0), ud s.dec.dec.dec (s.W.set (1 + n) (oat s.W a.toNat))) := by
  have hm : mayN (n : Int) := ⟨by omega, by omega⟩
  have a0 := h.nx0
  have a1 := h.nx1
  have a2 := h.fr0
  have a3 := h.to1
  have hin := h.bin n hn1 hn2 a (by rw [he]; simp)
  have h0 : oat s.W (1 + n) = a + 1 := by have := h.ch n hn1 hn2; rw [he, List.reverse_append] at this; exact this.1
  have g1 := get_in (a := hdA 0 n) hk (by rw [hdA0 hm]; omega) (by rw [hdA0 hm, h.len]; omega)
  have e1 : oat s.W (hdA 0 n).toNat = a + 1 := by rw [hdA0 hm, show (1 + (n : Int)).toNat = 1 + n by omega]; exact h0
  have hw : uw (a + 1 - 1) = a := by rw [show a + 1 - 1 = a by omega]; exact uw_of (by omega) (by omega)
  have g2 := get_in (s := s.dec) (a := a) (hk.dec (by omega)) (by omega) (by show a < (s.W.length : Int); rw [h.len]; omega)
  have p1 := put_in (s := s.dec.dec) (K := K + 1 + 1) (a := hdA 0 n) (x := oat s.W a.toNat) ((hk.dec (by omega)).dec (by omega)) (by rw [hdA0 hm]; omega) (by show hdA 0 n < (s.W.length : Int); rw [hdA0 hm, h.len]; omega)
  unfold Wd.take
  rw [if_neg (by simpa using hm), g1, e1]
  simp only [ne_eq, not_true_eq_false, if_false]
  rw [if_neg (by omega), hw]
  unfold Wd.takeG
  rw [g2]
  simp only [ne_eq, not_true_eq_false, if_false]
  have p2 : s.dec.dec.put (hdA 0 n) (oat s.dec.W a.toNat) = _ := p1
  rw [p2, hdA0 hm, show (1 + (n : Int)).toNat = 1 + n by omega]
  simp only [not_true_eq_false, if_false]
  rfl

/-- Give. -/
theorem Rm.give_ok (h : Rm s fr to O bk) (hk : Lk s K) (hK : K + 4 < 4611686018427387904) (n : Nat) (hn1 : 1 ≤ n) (hn2 : n ≤ 16) (a : Int) (hin : (a, (n : Int)) ∈ O) : s.give 0 a n = (0, ud s.dec.dec.dec ((s.W.set a.toNat (oat s.W (1 + n))).set (1 + n) (a + 1))) := by
  have hm : mayN (n : Int) := ⟨by omega, by omega⟩
  have a1 := h.nx1
  have a2 := h.fr0
  have a3 := h.to1
  have hi := h.oin _ hin
  dsimp only at hi
  have g1 := get_in (a := hdA 0 n) hk (by rw [hdA0 hm]; omega) (by rw [hdA0 hm, h.len]; omega)
  have e1 : oat s.W (hdA 0 n).toNat = oat s.W (1 + n) := by rw [hdA0 hm, show (1 + (n : Int)).toNat = 1 + n by omega]
  have p1 := put_in (s := s.dec) (K := K + 1) (a := a) (x := oat s.W (1 + n)) (hk.dec (by omega)) (by omega) (by show a < (s.W.length : Int); rw [h.len]; omega)
  have hw : uw (a + 1) = a + 1 := uw_of (by omega) (by omega)
  have p2 := put_in (s := ud s.dec.dec (s.W.set a.toNat (oat s.W (1 + n)))) (K := K + 1 + 1) (a := hdA 0 n) (x := a + 1) ((hk.dec (by omega)).dec (by omega)) (by rw [hdA0 hm]; omega) (by show hdA 0 n < ((s.W.set a.toNat (oat s.W (1 + n))).length : Int); rw [hdA0 hm, List.length_set, h.len]; omega)
  unfold Wd.give
  rw [if_neg (by simpa using hm), g1, e1]
  simp only [ne_eq, not_true_eq_false, if_false]
  rw [p1]
  simp only [not_true_eq_false, if_false]
  rw [hw]
  have p3 : ({ s.dec.dec with W := s.dec.W.set a.toNat (oat s.W (1 + n)) } : Wd).put (hdA 0 n) (a + 1) = _ := p2
  rw [p3, hdA0 hm, show (1 + (n : Int)).toNat = 1 + n by omega]
  rfl
end
end Go.Proofs.Ythelfalmjihkdaa
