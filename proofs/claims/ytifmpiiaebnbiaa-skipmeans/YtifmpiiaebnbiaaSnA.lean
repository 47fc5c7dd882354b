
/- Pure (layer 22): a room whose pieces are out or given back, and what its calls do to it. No statement of the seat is proved here. -/
import Derived.Test.YtifmpiiaebnbiaaSkP
namespace Go.Proofs.Ytifmpiiaebnbiaa
open Go.RowKit

/-- Behind some accesses of a tx that never says no: the words, how many were told at most, and whether any of them put. -/
structure Aft (s s' : Wd) (n : Nat) (W : List Int) : Prop where
  w : s'.W = W
  c : s'.c = s.c
  g : s'.g = s.g
  len : s'.L.length ≤ s.L.length + n
/-- As above, of accesses that only got. -/
structure Seen (s s' : Wd) (n : Nat) : Prop where
  w : s'.W = s.W
  c : s'.c = s.c
  g : s'.g = s.g
  log : ∃ l, s'.L = s.L ++ l ∧ l.length ≤ n ∧ ∀ q ∈ l, q.p = false
theorem Seen.refl (s : Wd) (n : Nat) : Seen s s n := ⟨rfl, rfl, rfl, [], by simp, by simp, fun q h => by simp at h⟩
theorem Seen.trans {s s1 s2 : Wd} {n m : Nat} (h : Seen s s1 n) (k : Seen s1 s2 m) : Seen s s2 (n + m) := by
  obtain ⟨l, e, h1, h2⟩ := h.log
  obtain ⟨l', e', h3, h4⟩ := k.log
  refine ⟨k.w.trans h.w, k.c.trans h.c, k.g.trans h.g, l ++ l', by rw [e', e, List.append_assoc], by rw [List.length_append]; omega, fun q hq => ?_⟩
  rcases List.mem_append.1 hq with hq | hq
  · exact h2 q hq
  · exact h4 q hq
theorem Seen.more {s s1 : Wd} {n m : Nat} (h : Seen s s1 n) (hm : n ≤ m) : Seen s s1 m := by
  obtain ⟨l, e, h1, h2⟩ := h.log
  exact ⟨h.w, h.c, h.g, l, e, Nat.le_trans h1 hm, h2⟩
theorem Seen.aft {s s1 : Wd} {n : Nat} (h : Seen s s1 n) : Aft s s1 n s.W := by
  obtain ⟨l, e, h1, _⟩ := h.log
  exact ⟨h.w, h.c, h.g, by rw [e, List.length_append]; omega⟩
theorem Aft.trans {s s1 s2 : Wd} {n m : Nat} {W W' : List Int} (h : Aft s s1 n W) (k : Aft s1 s2 m W') : Aft s s2 (n + m) W' := ⟨k.w, k.c.trans h.c, k.g.trans h.g, by have := h.len; have := k.len; omega⟩
theorem Aft.more {s s1 : Wd} {n m : Nat} {W : List Int} (h : Aft s s1 n W) (hm : n ≤ m) : Aft s s1 m W := ⟨h.w, h.c, h.g, by have := h.len; omega⟩
theorem ask_c0 {s : Wd} (h : s.c = 0) {a : Int} (ha : a < s.W.length) : s.ask a = 0 := by
  unfold Wd.ask
  rw [if_neg (fun q => q.2 h), if_neg (by omega)]
theorem get_in {s : Wd} {a : Int} (h : s.c = 0) (_h0 : 0 ≤ a) (h1 : a < s.W.length) : ∃ s', s.get a = ((oat s.W a.toNat, 0), s') ∧ Seen s s' 1 := by
  refine ⟨s.lg ⟨false, a, 0⟩, ?_, rfl, rfl, rfl, [⟨false, a, 0⟩], rfl, by simp, fun q hq => by obtain rfl := List.mem_singleton.1 hq; rfl⟩
  unfold Wd.get
  rw [ask_c0 (s := s.lg ⟨false, a, 0⟩) h h1]
  simp
theorem put_in {s : Wd} {a x : Int} (h : s.c = 0) (_h0 : 0 ≤ a) (h1 : a < s.W.length) : ∃ s', s.put a x = (0, s') ∧ Aft s s' 1 (s.W.set a.toNat x) := by
  refine ⟨{ s.lg ⟨true, a, x⟩ with W := s.W.set a.toNat x }, ?_, rfl, rfl, rfl, by simp [Wd.lg]⟩
  unfold Wd.put
  rw [ask_c0 (s := s.lg ⟨true, a, x⟩) h h1]
  simp
theorem uw_of {x : Int} (h0 : 0 ≤ x) (h1 : x < 18446744073709551616) : uw x = x := uw_id ⟨h0, h1⟩
theorem endA0 : endA 0 = 1 := by unfold endA; exact uw_of (by omega) (by omega)
theorem hdA0 {n : Int} (h : mayN n) : hdA 0 n = 1 + n := by
  obtain ⟨h1, h2⟩ := h
  unfold hdA
  rw [show uw ((0 : Int) + 1) = 1 from uw_of (by omega) (by omega)]
  exact uw_of (by omega) (by omega)
theorem oat_set (l : List Int) (i j : Nat) (x : Int) : oat (l.set i x) j = if i = j ∧ j < l.length then x else oat l j := by
  unfold oat
  rw [List.getElem?_set]
  by_cases h : i = j
  · subst h
    by_cases h2 : i < l.length
    · simp [h2]
    · simp [h2]
  · simp [h]

/-- A list of pieces by its first cells. -/
def chain (W : List Int) : Int → List Int → Prop
  | h, [] => h = 0
  | h, a :: r => h = a + 1 ∧ chain W (oat W a.toNat) r
theorem chain_same {W W' : List Int} : ∀ {l : List Int} {h : Int}, (∀ a ∈ l, oat W' a.toNat = oat W a.toNat) → chain W h l → chain W' h l
  | [], _, _, q => q
  | a :: r, h, hs, q => ⟨q.1, by rw [hs a (by simp)]; exact chain_same (fun b hb => hs b (by simp [hb])) q.2⟩

/-- Two pieces have no cell in common. -/
def PD (p q : Int × Int) : Prop := p.1 + p.2 ≤ q.1 ∨ q.1 + q.2 ≤ p.1
theorem PD.symm {p q : Int × Int} (h : PD p q) : PD q p := h.elim .inr .inl

/-- A room: its words, from where to where, the pieces that are out, those that were given back, by size. -/
structure Rom (s : Wd) (fr to : Int) (O : List (Int × Int)) (bk : Nat → List Int) : Prop where
  len : (s.W.length : Int) = to
  fr0 : 18 ≤ fr
  to1 : to ≤ 2000
  w1 : oat s.W 1 = to
  nx0 : fr ≤ oat s.W 0
  nx1 : oat s.W 0 ≤ to
  oin : ∀ p ∈ O, fr ≤ p.1 ∧ mayN p.2 ∧ p.1 + p.2 ≤ oat s.W 0
  bin : ∀ n : Nat, 1 ≤ n → n ≤ 16 → ∀ a ∈ bk n, fr ≤ a ∧ a + n ≤ oat s.W 0
  oo : O.Pairwise PD
  ob : ∀ p ∈ O, ∀ n : Nat, 1 ≤ n → n ≤ 16 → ∀ a ∈ bk n, PD p (a, n)
  bs : ∀ n : Nat, 1 ≤ n → n ≤ 16 → (bk n).Pairwise fun a b => PD (a, n) (b, n)
  bb : ∀ n m : Nat, 1 ≤ n → n ≤ 16 → 1 ≤ m → m ≤ 16 → n ≠ m → ∀ a ∈ bk n, ∀ b ∈ bk m, PD (a, (n : Int)) (b, (m : Int))
  ch : ∀ n : Nat, 1 ≤ n → n ≤ 16 → chain s.W (oat s.W (1 + n)) (bk n).reverse

def nx (s : Wd) : Int := oat s.W 0
def ud (s : Wd) (W : List Int) : Wd := { s with W := W }

section
variable {s : Wd} {fr to : Int} {O : List (Int × Int)} {bk : Nat → List Int}

theorem Rom.to18 (h : Rom s fr to O bk) : 18 ≤ to := by have := h.fr0; have := h.nx0; have := h.nx1; omega
theorem Rom.same {s' : Wd} (h : Rom s fr to O bk) (e : s'.W = s.W) : Rom s' fr to O bk := by
  obtain ⟨a1, a2, a3, a4, a5, a6, a7, a8, a9, a10, a11, a12, a13⟩ := h
  rw [← e] at a1 a4 a5 a6 a7 a8 a13
  exact ⟨a1, a2, a3, a4, a5, a6, a7, a8, a9, a10, a11, a12, a13⟩
/-- Take where there is room: new cells, or a piece that was given back. -/
theorem Rom.take (h : Rom s fr to O bk) (hc : s.c = 0) (n : Nat) (hn1 : 1 ≤ n) (hn2 : n ≤ 16) (hl : n ≤ to - nx s) :
    (bk n = [] ∧ ∃ s', s.take 0 n = ((nx s, 0), s') ∧ Aft s s' 4 (s.W.set 0 (nx s + n))) ∨
    (∃ a r s', bk n = r ++ [a] ∧ s.take 0 n = ((a, 0), s') ∧ Aft s s' 3 (s.W.set (1 + n) (oat s.W a.toNat))) := by
  have hto := h.to18
  have hm : mayN (n : Int) := ⟨by omega, by omega⟩
  have a0 := h.nx0
  have a1 := h.nx1
  have a2 := h.fr0
  have a3 := h.to1
  have hlen := h.len
  obtain ⟨s1, g1, v1⟩ := get_in (s := s) (a := hdA 0 n) hc (by rw [hdA0 hm]; omega) (by rw [hdA0 hm, h.len]; omega)
  have hc1 : s1.c = 0 := v1.c.trans hc
  rw [hdA0 hm, show (1 + (n : Int)).toNat = 1 + n by omega] at g1
  by_cases he : bk n = []
  · refine .inl ⟨he, ?_⟩
    have h0 : oat s.W (1 + n) = 0 := by have := h.ch n hn1 hn2; rw [he] at this; exact this
    rw [h0] at g1
    obtain ⟨s2, g2, v2⟩ := get_in (s := s1) (a := 0) hc1 (by omega) (by rw [v1.w, hlen]; omega)
    have hc2 : s2.c = 0 := v2.c.trans hc1
    obtain ⟨s3, g3, v3⟩ := get_in (s := s2) (a := 1) hc2 (by omega) (by rw [v2.w, v1.w, hlen]; omega)
    have hc3 : s3.c = 0 := v3.c.trans hc2
    have e2 : oat s1.W (0 : Int).toNat = nx s := by rw [v1.w]; rfl
    have e3 : oat s2.W (1 : Int).toNat = to := by rw [v2.w, v1.w]; exact h.w1
    rw [e2] at g2
    rw [e3] at g3
    have hnx : nx s = oat s.W 0 := rfl
    have hfr : s1.free 0 = ((nx s, to - nx s, 0), s3) := by
      unfold Wd.free
      rw [endA0, g2]
      simp only [ne_eq, not_true_eq_false, if_false]
      rw [g3]
      simp only [not_true_eq_false, if_false]
      by_cases hlt : nx s < to
      · rw [if_pos hlt, uw_of (by omega) (by omega)]
      · omega
    have hw : uw (nx s + n) = nx s + n := uw_of (by omega) (by omega)
    obtain ⟨s4, g4, v4⟩ := put_in (s := s3) (a := 0) (x := nx s + n) hc3 (by omega) (by rw [v3.w, v2.w, v1.w, hlen]; omega)
    rw [v3.w, v2.w, v1.w] at v4
    refine ⟨s4, ?_, (((v1.trans v2).trans v3).aft.trans v4).more (by omega)⟩
    unfold Wd.take
    rw [if_neg (by simpa using hm), hdA0 hm, g1]
    simp only [ne_eq, not_true_eq_false, if_false, if_true]
    unfold Wd.takeN
    rw [hfr]
    simp only
    rw [if_neg (by omega), hw, g4]
    simp
    exact hl
  · obtain ⟨r, a, he⟩ : ∃ r a, bk n = r ++ [a] := ⟨(bk n).dropLast, (bk n).getLast he, (List.dropLast_concat_getLast he).symm⟩
    have hin := h.bin n hn1 hn2 a (by rw [he]; simp)
    have h0 : oat s.W (1 + n) = a + 1 := by have := h.ch n hn1 hn2; rw [he, List.reverse_append] at this; exact this.1
    rw [h0] at g1
    have hw : uw (a + 1 - 1) = a := by rw [show a + 1 - 1 = a by omega]; exact uw_of (by omega) (by omega)
    obtain ⟨s2, g2, v2⟩ := get_in (s := s1) (a := a) hc1 (by omega) (by rw [v1.w, hlen]; omega)
    have hc2 : s2.c = 0 := v2.c.trans hc1
    rw [v1.w] at g2
    obtain ⟨s3, g3, v3⟩ := put_in (s := s2) (a := 1 + (n : Int)) (x := oat s.W a.toNat) hc2 (by omega) (by rw [v2.w, v1.w, hlen]; omega)
    rw [v2.w, v1.w, show (1 + (n : Int)).toNat = 1 + n by omega] at v3
    refine .inr ⟨a, r, s3, he, ?_, ((v1.trans v2).aft.trans v3).more (by omega)⟩
    unfold Wd.take
    rw [if_neg (by simpa using hm), hdA0 hm, g1]
    simp only [ne_eq, not_true_eq_false, if_false]
    rw [if_neg (by omega), hw]
    unfold Wd.takeG
    rw [g2]
    simp only [ne_eq, not_true_eq_false, if_false]
    rw [g3]
    simp
/-- Give. -/
theorem Rom.give_ok (h : Rom s fr to O bk) (hc : s.c = 0) (n : Nat) (hn1 : 1 ≤ n) (hn2 : n ≤ 16) (a : Int) (hin : (a, (n : Int)) ∈ O) : ∃ s', s.give 0 a n = (0, s') ∧ Aft s s' 3 ((s.W.set a.toNat (oat s.W (1 + n))).set (1 + n) (a + 1)) := by
  have hto := h.to18
  have hm : mayN (n : Int) := ⟨by omega, by omega⟩
  have a1 := h.nx1
  have a2 := h.fr0
  have a3 := h.to1
  have hlen := h.len
  have hi := h.oin _ hin
  dsimp only at hi
  obtain ⟨s1, g1, v1⟩ := get_in (s := s) (a := hdA 0 n) hc (by rw [hdA0 hm]; omega) (by rw [hdA0 hm, h.len]; omega)
  have hc1 : s1.c = 0 := v1.c.trans hc
  rw [hdA0 hm, show (1 + (n : Int)).toNat = 1 + n by omega] at g1
  obtain ⟨s2, g2, v2⟩ := put_in (s := s1) (a := a) (x := oat s.W (1 + n)) hc1 (by omega) (by rw [v1.w, hlen]; omega)
  rw [v1.w] at v2
  have hc2 : s2.c = 0 := v2.c.trans hc1
  have hw : uw (a + 1) = a + 1 := uw_of (by omega) (by omega)
  obtain ⟨s3, g3, v3⟩ := put_in (s := s2) (a := 1 + (n : Int)) (x := a + 1) hc2 (by omega) (by rw [v2.w, List.length_set, hlen]; omega)
  rw [v2.w, show (1 + (n : Int)).toNat = 1 + n by omega] at v3
  refine ⟨s3, ?_, ((v1.aft.trans v2).trans v3).more (by omega)⟩
  unfold Wd.give
  rw [if_neg (by simpa using hm), hdA0 hm, g1]
  simp only [ne_eq, not_true_eq_false, if_false]
  rw [g2]
  simp only [not_true_eq_false, if_false]
  rw [hw, g3]
end
def updL (f : Nat → List Int) (n : Nat) (v : List Int) : Nat → List Int := fun m => if m = n then v else f m
theorem updL_same (f : Nat → List Int) (n : Nat) (v : List Int) : updL f n v n = v := by unfold updL; rw [if_pos rfl]
theorem updL_other (f : Nat → List Int) {n m : Nat} (v : List Int) (h : m ≠ n) : updL f n v m = f m := by unfold updL; rw [if_neg h]

section
variable {s : Wd} {fr to : Int} {O : List (Int × Int)} {bk : Nat → List Int}

theorem oat_ne {l : List Int} {i j : Nat} {x : Int} (h : i ≠ j) : oat (l.set i x) j = oat l j := by rw [oat_set, if_neg (fun e => h e.1)]
theorem oat_eq {l : List Int} {i : Nat} {x : Int} (h : i < l.length) : oat (l.set i x) i = x := by rw [oat_set, if_pos ⟨rfl, h⟩]
theorem Rom.bk_low (h : Rom s fr to O bk) {n : Nat} (h1 : 1 ≤ n) (h2 : n ≤ 16) {a : Int} (ha : a ∈ bk n) : 18 ≤ a.toNat ∧ (a.toNat : Int) = a ∧ (a.toNat : Int) < to := by
  have hto := h.to18
  have q := h.bin n h1 h2 a ha
  have q1 := h.fr0
  have q2 := h.nx1
  have q3 := h.to1
  omega
/-- A piece that is out is written over. -/
theorem Rom.write (h : Rom s fr to O bk) {a n k x : Int} (hp : (a, n) ∈ O) (h1 : a ≤ k) (h2 : k < a + n) : Rom (ud s (s.W.set k.toNat x)) fr to O bk := by
  have hto := h.to18
  have hi := h.oin _ hp
  dsimp only at hi
  have q1 := h.fr0
  have q2 := h.nx1
  have q3 := h.to1
  have hk : 18 ≤ k.toNat := by omega
  have e : ∀ j, j < 18 → oat (s.W.set k.toNat x) j = oat s.W j := fun j hj => oat_ne (by omega)
  refine ⟨by show ((s.W.set k.toNat x).length : Int) = to; rw [List.length_set]; exact h.len, h.fr0, h.to1, (e 1 (by omega)).trans h.w1, by show fr ≤ oat (s.W.set k.toNat x) 0; rw [e 0 (by omega)]; exact h.nx0, by show oat (s.W.set k.toNat x) 0 ≤ to; rw [e 0 (by omega)]; exact h.nx1, fun p hp' => by show fr ≤ p.1 ∧ mayN p.2 ∧ p.1 + p.2 ≤ oat (s.W.set k.toNat x) 0; rw [e 0 (by omega)]; exact h.oin p hp', fun m m1 m2 b hb => by show fr ≤ b ∧ b + m ≤ oat (s.W.set k.toNat x) 0; rw [e 0 (by omega)]; exact h.bin m m1 m2 b hb, h.oo, h.ob, h.bs, h.bb, fun m m1 m2 => ?_⟩
  show chain (s.W.set k.toNat x) (oat (s.W.set k.toNat x) (1 + m)) _
  rw [e (1 + m) (by omega)]
  refine chain_same (fun b hb => oat_ne ?_) (h.ch m m1 m2)
  have hb' : b ∈ bk m := by simpa using hb
  have d := h.ob _ hp m m1 m2 b hb'
  have l := h.bk_low m1 m2 hb'
  unfold PD at d
  dsimp only at d
  omega
/-- New cells are taken. -/
theorem Rom.took_new (h : Rom s fr to O bk) (n : Nat) (hn1 : 1 ≤ n) (hn2 : n ≤ 16) (hl : n ≤ to - nx s) (s' : Wd) (hs : s'.W = s.W.set 0 (nx s + n)) : Rom s' fr to (O ++ [(nx s, (n : Int))]) bk ∧ ∀ p ∈ O, PD p (nx s, n) := by
  have hto := h.to18
  have l0 : 0 < s.W.length := by have := h.len; omega
  have e0 : oat s'.W 0 = nx s + n := by rw [hs]; exact oat_eq l0
  have e : ∀ j, j ≠ 0 → oat s'.W j = oat s.W j := fun j hj => by rw [hs]; exact oat_ne (Ne.symm hj)
  have hpd : ∀ p ∈ O, PD p (nx s, n) := fun p hp => .inl (h.oin p hp).2.2
  refine ⟨⟨by rw [hs, List.length_set]; exact h.len, h.fr0, h.to1, by rw [e 1 (by omega)]; exact h.w1, by rw [e0]; have := h.nx0; unfold nx; omega, by rw [e0]; omega, fun p hp => ?_, fun m m1 m2 b hb => ?_, ?_, fun p hp m m1 m2 b hb => ?_, h.bs, h.bb, fun m m1 m2 => ?_⟩, hpd⟩
  · rw [e0]
    rcases List.mem_append.1 hp with hp | hp
    · have q := h.oin p hp
      have : oat s.W 0 = nx s := rfl
      exact ⟨q.1, q.2.1, by have := q.2.2; unfold nx; omega⟩
    · obtain rfl : p = (nx s, (n : Int)) := by simpa using hp
      exact ⟨h.nx0, ⟨by show (1 : Int) ≤ n; omega, by show (n : Int) ≤ 16; omega⟩, by show nx s + n ≤ nx s + n; omega⟩
  · rw [e0]
    have q := h.bin m m1 m2 b hb
    exact ⟨q.1, by have := q.2; unfold nx; omega⟩
  · rw [List.pairwise_append]
    refine ⟨h.oo, List.pairwise_singleton _ _, fun p hp q hq => ?_⟩
    obtain rfl : q = (nx s, (n : Int)) := by simpa using hq
    exact hpd p hp
  · rcases List.mem_append.1 hp with hp | hp
    · exact h.ob p hp m m1 m2 b hb
    · obtain rfl : p = (nx s, (n : Int)) := by simpa using hp
      exact .inr (h.bin m m1 m2 b hb).2
  · rw [e (1 + m) (by omega)]
    refine chain_same (fun b hb => ?_) (h.ch m m1 m2)
    have hb' : b ∈ bk m := by simpa using hb
    have l := h.bk_low m1 m2 hb'
    exact e _ (by omega)
/-- A piece that was given back is taken. -/
theorem Rom.took_old (h : Rom s fr to O bk) (n : Nat) (hn1 : 1 ≤ n) (hn2 : n ≤ 16) (a : Int) (r : List Int) (he : bk n = r ++ [a]) (s' : Wd) (hs : s'.W = s.W.set (1 + n) (oat s.W a.toNat)) : Rom s' fr to (O ++ [(a, (n : Int))]) (updL bk n r) ∧ (∀ p ∈ O, PD p (a, n)) ∧ fr ≤ a ∧ a + n ≤ to := by
  have hto := h.to18
  have ha : a ∈ bk n := by rw [he]; simp
  have hin := h.bin n hn1 hn2 a ha
  have q2 := h.nx1
  have l0 : 1 + n < s.W.length := by have := h.len; omega
  have eh : oat s'.W (1 + n) = oat s.W a.toNat := by rw [hs]; exact oat_eq l0
  have e : ∀ j, j ≠ 1 + n → oat s'.W j = oat s.W j := fun j hj => by rw [hs]; exact oat_ne (Ne.symm hj)
  have e0 := e 0 (by omega)
  have hpd : ∀ p ∈ O, PD p (a, n) := fun p hp => h.ob p hp n hn1 hn2 a ha
  have sub : ∀ m b, b ∈ updL bk n r m → b ∈ bk m := fun m b hb => by
    by_cases hm : m = n
    · subst hm; rw [updL_same] at hb; rw [he]; simp [hb]
    · rw [updL_other _ _ hm] at hb; exact hb
  have bsn := h.bs n hn1 hn2
  rw [he, List.pairwise_append] at bsn
  refine ⟨⟨by rw [hs, List.length_set]; exact h.len, h.fr0, h.to1, by rw [e 1 (by omega)]; exact h.w1, by rw [e0]; exact h.nx0, by rw [e0]; exact h.nx1, fun p hp => ?_, fun m m1 m2 b hb => ?_, ?_, fun p hp m m1 m2 b hb => ?_, fun m m1 m2 => ?_, fun m k m1 m2 k1 k2 hmk x hx y hy => h.bb m k m1 m2 k1 k2 hmk x (sub m x hx) y (sub k y hy), fun m m1 m2 => ?_⟩, hpd, hin.1, by omega⟩
  · rw [e0]
    rcases List.mem_append.1 hp with hp | hp
    · exact h.oin p hp
    · obtain rfl : p = (a, (n : Int)) := by simpa using hp
      exact ⟨hin.1, ⟨by show (1 : Int) ≤ n; omega, by show (n : Int) ≤ 16; omega⟩, hin.2⟩
  · rw [e0]
    exact h.bin m m1 m2 b (sub m b hb)
  · rw [List.pairwise_append]
    refine ⟨h.oo, List.pairwise_singleton _ _, fun p hp q hq => ?_⟩
    obtain rfl : q = (a, (n : Int)) := by simpa using hq
    exact hpd p hp
  · rcases List.mem_append.1 hp with hp | hp
    · exact h.ob p hp m m1 m2 b (sub m b hb)
    · obtain rfl : p = (a, (n : Int)) := by simpa using hp
      by_cases hm : m = n
      · subst hm
        rw [updL_same] at hb
        exact (bsn.2.2 b hb a (by simp)).symm
      · exact (h.bb n m hn1 hn2 m1 m2 (Ne.symm hm) a ha b (sub m b hb))
  · by_cases hm : m = n
    · subst hm; rw [updL_same]; exact bsn.1
    · rw [updL_other _ _ hm]; exact h.bs m m1 m2
  · have low : ∀ b ∈ bk m, oat s'.W b.toNat = oat s.W b.toNat := fun b hb => e _ (by have := h.bk_low m1 m2 hb; omega)
    by_cases hm : m = n
    · subst hm
      rw [updL_same, eh]
      have c := h.ch m m1 m2
      rw [he, List.reverse_append] at c
      exact chain_same (fun b hb => low b (by rw [he]; simp at hb; simp [hb])) c.2
    · rw [updL_other _ _ hm, e (1 + m) (by omega)]
      exact chain_same (fun b hb => low b (by simpa using hb)) (h.ch m m1 m2)
/-- A piece is given back. -/
theorem Rom.gave (h : Rom s fr to O bk) (n : Nat) (hn1 : 1 ≤ n) (hn2 : n ≤ 16) (a : Int) (k : Nat) (hk : O[k]? = some (a, (n : Int))) (s' : Wd) (hs : s'.W = (s.W.set a.toNat (oat s.W (1 + n))).set (1 + n) (a + 1)) : Rom s' fr to (O.eraseIdx k) (updL bk n (bk n ++ [a])) := by
  have hto := h.to18
  obtain ⟨hkl, hke⟩ := List.getElem?_eq_some_iff.1 hk
  have hmem : (a, (n : Int)) ∈ O := List.mem_of_getElem? hk
  have hin := h.oin _ hmem
  dsimp only at hin
  have q1 := h.fr0
  have q2 := h.nx1
  have q3 := h.to1
  have hsub : ∀ p ∈ O.eraseIdx k, p ∈ O := fun p hp => (List.eraseIdx_sublist O k).subset hp
  have hother : ∀ p ∈ O.eraseIdx k, PD p (a, n) := fun p hp => by
    obtain ⟨i, hik, hi⟩ := List.mem_eraseIdx_iff_getElem?.1 hp
    obtain ⟨hil, hie⟩ := List.getElem?_eq_some_iff.1 hi
    have pw := List.pairwise_iff_getElem.1 h.oo
    rcases Nat.lt_or_ge i k with hlt | hge
    · have := pw i k hil hkl hlt
      rw [hie, hke] at this
      exact this
    · have := pw k i hkl hil (by omega)
      rw [hie, hke] at this
      exact this.symm
  have lh : 1 + n < (s.W.set a.toNat (oat s.W (1 + n))).length := by rw [List.length_set]; have := h.len; omega
  have la : a.toNat < s.W.length := by have := h.len; omega
  have eh : oat s'.W (1 + n) = a + 1 := by rw [hs]; exact oat_eq lh
  have ea : oat s'.W a.toNat = oat s.W (1 + n) := by rw [hs, oat_ne (by omega)]; exact oat_eq la
  have e : ∀ j, j ≠ 1 + n → j ≠ a.toNat → oat s'.W j = oat s.W j := fun j h1 h2 => by rw [hs, oat_ne (Ne.symm h1)]; exact oat_ne (Ne.symm h2)
  have e0 := e 0 (by omega) (by omega)
  have mem : ∀ m b, b ∈ updL bk n (bk n ++ [a]) m → b ∈ bk m ∨ (m = n ∧ b = a) := fun m b hb => by
    by_cases hm : m = n
    · subst hm
      rw [updL_same] at hb
      rcases List.mem_append.1 hb with hb | hb
      · exact .inl hb
      · exact .inr ⟨rfl, by simpa using hb⟩
    · rw [updL_other _ _ hm] at hb; exact .inl hb
  refine ⟨by rw [hs, List.length_set, List.length_set]; exact h.len, h.fr0, h.to1, by rw [e 1 (by omega) (by omega)]; exact h.w1, by rw [e0]; exact h.nx0, by rw [e0]; exact h.nx1, fun p hp => by rw [e0]; exact h.oin p (hsub p hp), fun m m1 m2 b hb => ?_, h.oo.sublist (List.eraseIdx_sublist O k), fun p hp m m1 m2 b hb => ?_, fun m m1 m2 => ?_, fun m j m1 m2 j1 j2 hmj x hx y hy => ?_, fun m m1 m2 => ?_⟩
  · rw [e0]
    rcases mem m b hb with hb | ⟨rfl, rfl⟩
    · exact h.bin m m1 m2 b hb
    · exact ⟨hin.1, hin.2.2⟩
  · rcases mem m b hb with hb | ⟨rfl, rfl⟩
    · exact h.ob p (hsub p hp) m m1 m2 b hb
    · exact hother p hp
  · by_cases hm : m = n
    · subst hm
      rw [updL_same, List.pairwise_append]
      refine ⟨h.bs m m1 m2, List.pairwise_singleton _ _, fun x hx y hy => ?_⟩
      obtain rfl : y = a := by simpa using hy
      exact (h.ob _ hmem m m1 m2 x hx).symm
    · rw [updL_other _ _ hm]; exact h.bs m m1 m2
  · have px := mem m x hx
    have py := mem j y hy
    clear hx hy
    rcases px with px | ⟨rfl, rfl⟩
    · rcases py with py | ⟨rfl, rfl⟩
      · exact h.bb m j m1 m2 j1 j2 hmj x px y py
      · exact (h.ob _ hmem m m1 m2 x px).symm
    · rcases py with py | ⟨rfl, _⟩
      · exact h.ob _ hmem j j1 j2 y py
      · exact absurd rfl hmj
  · have low : ∀ b ∈ bk m, oat s'.W b.toNat = oat s.W b.toNat := fun b hb => e _ (by have := h.bk_low m1 m2 hb; omega) (by
      have d := h.ob _ hmem m m1 m2 b hb
      have l := h.bk_low m1 m2 hb
      unfold PD at d
      dsimp only at d
      omega)
    by_cases hm : m = n
    · subst hm
      rw [updL_same, eh, List.reverse_append]
      refine ⟨rfl, ?_⟩
      rw [ea]
      exact chain_same (fun b hb => low b (by simpa using hb)) (h.ch m m1 m2)
    · rw [updL_other _ _ hm, e (1 + m) (by omega) (by omega)]
      exact chain_same (fun b hb => low b (by simpa using hb)) (h.ch m m1 m2)
end
end Go.Proofs.Ytifmpiiaebnbiaa
