/-
  No statement of the seat is proved here. (Several texts in one: QxA, QxB, QxC, QxD.)
-/
import Derived.Test.YtadbplbifjeghaaQwA
import Derived.Test.YtadbplbifjeghaaQuG

/- Pure (layer 23): a room whose pieces are out or given back, and what its calls do to it. No statement of the seat is proved here. -/
namespace Go.Proofs.Ytadbplbifjeghaa
open Go.RowKit

/-- A list of pieces by its first cells. -/
def chain (W : List Int) : Int → List Int → Prop
  | h, [] => h = 0
  | h, a :: r => h = a + 1 ∧ chain W (oat W a.toNat) r
theorem chain_same {W W' : List Int} : ∀ {l : List Int} {h : Int}, (∀ a ∈ l, oat W' a.toNat = oat W a.toNat) → chain W h l → chain W' h l
  | [], _, _, q => q
  | a :: r, h, hs, q => ⟨q.1, by rw [hs a (by simp)]; exact chain_same (fun b hb => hs b (by simp [hb])) q.2⟩

/-- Two pieces have no cell in common. -/
def PD (p q : Int × Int) : Prop := p.1 + p.2 ≤ q.1 ∨ q.1 + q.2 ≤ p.1
theorem PD.symm {p q : Int × Int} (h : PD p q) : PD q p := h.elim .inr .inl

/-- A room: its words, from where to where, the pieces that are out, those that were given back, by size. -/
structure Rm (s : Wd) (fr to : Int) (O : List (Int × Int)) (bk : Nat → List Int) : Prop where
  len : (s.W.length : Int) = to
  fr0 : 18 ≤ fr
  to1 : to ≤ 1000
  w1 : oat s.W 1 = to
  nx0 : fr ≤ oat s.W 0
  nx1 : oat s.W 0 ≤ to
  oin : ∀ p ∈ O, fr ≤ p.1 ∧ mayN p.2 ∧ p.1 + p.2 ≤ oat s.W 0
  bin : ∀ n : Nat, 1 ≤ n → n ≤ 16 → ∀ a ∈ bk n, fr ≤ a ∧ a + n ≤ oat s.W 0
  oo : O.Pairwise PD
  ob : ∀ p ∈ O, ∀ n : Nat, 1 ≤ n → n ≤ 16 → ∀ a ∈ bk n, PD p (a, n)
  bs : ∀ n : Nat, 1 ≤ n → n ≤ 16 → (bk n).Pairwise fun a b => PD (a, n) (b, n)
  bb : ∀ n m : Nat, 1 ≤ n → n ≤ 16 → 1 ≤ m → m ≤ 16 → n ≠ m → ∀ a ∈ bk n, ∀ b ∈ bk m, PD (a, (n : Int)) (b, (m : Int))
  ch : ∀ n : Nat, 1 ≤ n → n ≤ 16 → chain s.W (oat s.W (1 + n)) (bk n).reverse

def nx (s : Wd) : Int := oat s.W 0

section
variable {s : Wd} {fr to K : Int} {O : List (Int × Int)} {bk : Nat → List Int}

theorem Rm.to18 (h : Rm s fr to O bk) : 18 ≤ to := by have := h.fr0; have := h.nx0; have := h.nx1; omega
/-- Left. -/
theorem Rm.lft (h : Rm s fr to O bk) (hk : Lk s K) (hK : K + 2 < 4611686018427387904) : s.lft 0 = ((to - nx s, 0), s.dec.dec) := by
  have hto := h.to18
  have h0 := h.nx0
  have h1 := h.nx1
  have h2 := h.fr0
  have h3 := h.to1
  have g1 := get_in (a := 0) hk (by omega) (by rw [h.len]; omega)
  have g2 := get_in (s := s.dec) (a := 1) (hk.dec (by omega)) (by omega) (by show (1 : Int) < (s.W.length : Int); rw [h.len]; omega)
  have g3 : oat s.dec.W (1 : Int).toNat = to := h.w1
  unfold Wd.lft Wd.free
  rw [endA0, g1]
  simp only [ne_eq, not_true_eq_false, if_false]
  rw [g2]
  simp only [not_true_eq_false, if_false, g3]
  have e : oat s.W (0 : Int).toNat = nx s := rfl
  rw [e]
  by_cases hlt : nx s < to
  · rw [if_pos hlt, uw_of (by omega) (by unfold nx at *; omega)]
  · rw [if_neg hlt]
    have : to - nx s = 0 := by unfold nx at *; omega
    rw [this]

theorem Rm.dec (h : Rm s fr to O bk) : Rm s.dec fr to O bk := ⟨h.len, h.fr0, h.to1, h.w1, h.nx0, h.nx1, h.oin, h.bin, h.oo, h.ob, h.bs, h.bb, h.ch⟩
theorem nx_dec : nx s.dec = nx s := rfl

/-- Take where none was given back: the refusal. -/
theorem Rm.take_no (h : Rm s fr to O bk) (hk : Lk s K) (hK : K + 3 < 4611686018427387904) (n : Nat) (hn1 : 1 ≤ n) (hn2 : n ≤ 16) (he : bk n = []) (hl : to - nx s < n) : s.take 0 n = ((0, 9), s.dec.dec.dec) := by
  have hto := h.to18
  have hm : mayN (n : Int) := ⟨by omega, by omega⟩
  have h0 : oat s.W (1 + n) = 0 := by have := h.ch n hn1 hn2; rw [he] at this; exact this
  have g1 := get_in (a := hdA 0 n) hk (by rw [hdA0 hm]; omega) (by rw [hdA0 hm, h.len]; omega)
  have e1 : oat s.W (hdA 0 n).toNat = 0 := by rw [hdA0 hm, show (1 + (n : Int)).toNat = 1 + n by omega]; exact h0
  have q := (h.dec).lft (hk.dec (by omega)) (by omega)
  unfold Wd.lft at q
  injection q with q1 q2
  injection q1 with q3 q4
  unfold Wd.take
  rw [if_neg (by simpa using hm), g1, e1]
  simp only [ne_eq, not_true_eq_false, if_false, if_true]
  unfold Wd.takeN
  rw [q4, q3, q2, if_neg (by simp), if_pos (by rw [nx_dec]; exact hl)]

/-- Take of new cells. -/
theorem Rm.take_new (h : Rm s fr to O bk) (hk : Lk s K) (hK : K + 4 < 4611686018427387904) (n : Nat) (hn1 : 1 ≤ n) (hn2 : n ≤ 16) (he : bk n = []) (hl : n ≤ to - nx s) : s.take 0 n = ((nx s, 0), ud s.dec.dec.dec.dec (s.W.set 0 (nx s + n))) := by
  have hto := h.to18
  have hm : mayN (n : Int) := ⟨by omega, by omega⟩
  have a0 := h.nx0
  have a1 := h.nx1
  have a2 := h.fr0
  have a3 := h.to1
  have h0 : oat s.W (1 + n) = 0 := by have := h.ch n hn1 hn2; rw [he] at this; exact this
  have g1 := get_in (a := hdA 0 n) hk (by rw [hdA0 hm]; omega) (by rw [hdA0 hm, h.len]; omega)
  have e1 : oat s.W (hdA 0 n).toNat = 0 := by rw [hdA0 hm, show (1 + (n : Int)).toNat = 1 + n by omega]; exact h0
  have q := (h.dec).lft (hk.dec (by omega)) (by omega)
  have qf : (s.dec.free 0).1.1 = nx s := by
    have g1' := get_in (s := s.dec) (a := 0) (hk.dec (by omega)) (by omega) (by show (0 : Int) < (s.W.length : Int); rw [h.len]; omega)
    have g2' := get_in (s := s.dec.dec) (a := 1) ((hk.dec (by omega)).dec (by omega)) (by omega) (by show (1 : Int) < (s.W.length : Int); rw [h.len]; omega)
    unfold Wd.free
    rw [endA0, g1']
    simp only [ne_eq, not_true_eq_false, if_false]
    rw [g2']
    simp only [not_true_eq_false, if_false]
    rfl
  unfold Wd.lft at q
  injection q with q1 q2
  injection q1 with q3 q4
  have hw : uw (nx s + n) = nx s + n := uw_of (by unfold nx; omega) (by unfold nx at *; omega)
  have p1 := put_in (s := s.dec.dec.dec) (K := K + 1 + 1 + 1) (a := 0) (x := nx s + n) (((hk.dec (by omega)).dec (by omega)).dec (by omega)) (by omega) (by show (0 : Int) < (s.W.length : Int); rw [h.len]; omega)
  unfold Wd.take
  rw [if_neg (by simpa using hm), g1, e1]
  simp only [ne_eq, not_true_eq_false, if_false, if_true]
  unfold Wd.takeN
  rw [q4, q3, q2, qf, hw, p1, if_neg (by simp), if_neg (by rw [nx_dec]; omega), if_neg (by simp)]
  rfl

/-- Take of a piece that was given back. -/
theorem Rm.take_old (h : Rm s fr to O bk) (hk : Lk s K) (hK : K + 4 < 4611686018427387904) (n : Nat) (hn1 : 1 ≤ n) (hn2 : n ≤ 16) (a : Int) (r : List Int) (he : bk n = r ++ [a]) : s.take 0 n = ((a, 0), ud s.dec.dec.dec (s.W.set (1 + n) (oat s.W a.toNat))) := by
  have hto := h.to18
  have hm : mayN (n : Int) := ⟨by omega, by omega⟩
  have a0 := h.nx0
  have a1 := h.nx1
  have a2 := h.fr0
  have a3 := h.to1
  have hin := h.bin n hn1 hn2 a (by rw [he]; simp)
  have h0 : oat s.W (1 + n) = a + 1 := by have := h.ch n hn1 hn2; rw [he, List.reverse_append] at this; exact this.1
  have g1 := get_in (a := hdA 0 n) hk (by rw [hdA0 hm]; omega) (by rw [hdA0 hm, h.len]; omega)
  have e1 : oat s.W (hdA 0 n).toNat = a + 1 := by rw [hdA0 hm, show (1 + (n : Int)).toNat = 1 + n by omega]; exact h0
  have hw : uw (a + 1 - 1) = a := by rw [show a + 1 - 1 = a by omega]; exact uw_of (by omega) (by omega)
  have g2 := get_in (s := s.dec) (a := a) (hk.dec (by omega)) (by omega) (by show a < (s.W.length : Int); rw [h.len]; omega)
  have p1 := put_in (s := s.dec.dec) (K := K + 1 + 1) (a := hdA 0 n) (x := oat s.W a.toNat) ((hk.dec (by omega)).dec (by omega)) (by rw [hdA0 hm]; omega) (by show hdA 0 n < (s.W.length : Int); rw [hdA0 hm, h.len]; omega)
  unfold Wd.take
  rw [if_neg (by simpa using hm), g1, e1]
  simp only [ne_eq, not_true_eq_false, if_false]
  rw [if_neg (by omega), hw]
  unfold Wd.takeG
  rw [g2]
  simp only [ne_eq, not_true_eq_false, if_false]
  have p2 : s.dec.dec.put (hdA 0 n) (oat s.dec.W a.toNat) = _ := p1
  rw [p2, hdA0 hm, show (1 + (n : Int)).toNat = 1 + n by omega]
  simp only [not_true_eq_false, if_false]
  rfl

/-- Give. -/
theorem Rm.give_ok (h : Rm s fr to O bk) (hk : Lk s K) (hK : K + 4 < 4611686018427387904) (n : Nat) (hn1 : 1 ≤ n) (hn2 : n ≤ 16) (a : Int) (hin : (a, (n : Int)) ∈ O) : s.give 0 a n = (0, ud s.dec.dec.dec ((s.W.set a.toNat (oat s.W (1 + n))).set (1 + n) (a + 1))) := by
  have hto := h.to18
  have hm : mayN (n : Int) := ⟨by omega, by omega⟩
  have a1 := h.nx1
  have a2 := h.fr0
  have a3 := h.to1
  have hi := h.oin _ hin
  dsimp only at hi
  have g1 := get_in (a := hdA 0 n) hk (by rw [hdA0 hm]; omega) (by rw [hdA0 hm, h.len]; omega)
  have e1 : oat s.W (hdA 0 n).toNat = oat s.W (1 + n) := by rw [hdA0 hm, show (1 + (n : Int)).toNat = 1 + n by omega]
  have p1 := put_in (s := s.dec) (K := K + 1) (a := a) (x := oat s.W (1 + n)) (hk.dec (by omega)) (by omega) (by show a < (s.W.length : Int); rw [h.len]; omega)
  have hw : uw (a + 1) = a + 1 := uw_of (by omega) (by omega)
  have p2 := put_in (s := ud s.dec.dec (s.W.set a.toNat (oat s.W (1 + n)))) (K := K + 1 + 1) (a := hdA 0 n) (x := a + 1) ((hk.dec (by omega)).dec (by omega)) (by rw [hdA0 hm]; omega) (by show hdA 0 n < ((s.W.set a.toNat (oat s.W (1 + n))).length : Int); rw [hdA0 hm, List.length_set, h.len]; omega)
  unfold Wd.give
  rw [if_neg (by simpa using hm), g1, e1]
  simp only [ne_eq, not_true_eq_false, if_false]
  rw [p1]
  simp only [not_true_eq_false, if_false]
  rw [hw]
  have p3 : ({ s.dec.dec with W := s.dec.W.set a.toNat (oat s.W (1 + n)) } : Wd).put (hdA 0 n) (a + 1) = _ := p2
  rw [p3, hdA0 hm, show (1 + (n : Int)).toNat = 1 + n by omega]
  rfl
end
def updL (f : Nat → List Int) (n : Nat) (v : List Int) : Nat → List Int := fun m => if m = n then v else f m
theorem updL_same (f : Nat → List Int) (n : Nat) (v : List Int) : updL f n v n = v := by unfold updL; rw [if_pos rfl]
theorem updL_other (f : Nat → List Int) {n m : Nat} (v : List Int) (h : m ≠ n) : updL f n v m = f m := by unfold updL; rw [if_neg h]

section
variable {s : Wd} {fr to K : Int} {O : List (Int × Int)} {bk : Nat → List Int}

theorem oat_ne {l : List Int} {i j : Nat} {x : Int} (h : i ≠ j) : oat (l.set i x) j = oat l j := by rw [oat_set, if_neg (fun e => h e.1)]
theorem oat_eq {l : List Int} {i : Nat} {x : Int} (h : i < l.length) : oat (l.set i x) i = x := by rw [oat_set, if_pos ⟨rfl, h⟩]
theorem Rm.bk_low (h : Rm s fr to O bk) {n : Nat} (h1 : 1 ≤ n) (h2 : n ≤ 16) {a : Int} (ha : a ∈ bk n) : 18 ≤ a.toNat ∧ (a.toNat : Int) = a ∧ (a.toNat : Int) < to := by
  have hto := h.to18
  have q := h.bin n h1 h2 a ha
  have q1 := h.fr0
  have q2 := h.nx1
  have q3 := h.to1
  omega
/-- A piece that is out is written over. -/
theorem Rm.write (h : Rm s fr to O bk) {a n k x : Int} (hp : (a, n) ∈ O) (h1 : a ≤ k) (h2 : k < a + n) : Rm (ud s (s.W.set k.toNat x)) fr to O bk := by
  have hto := h.to18
  have hi := h.oin _ hp
  dsimp only at hi
  have q1 := h.fr0
  have q2 := h.nx1
  have q3 := h.to1
  have hk : 18 ≤ k.toNat := by omega
  have e : ∀ j, j < 18 → oat (s.W.set k.toNat x) j = oat s.W j := fun j hj => oat_ne (by omega)
  refine ⟨by show ((s.W.set k.toNat x).length : Int) = to; rw [List.length_set]; exact h.len, h.fr0, h.to1, (e 1 (by omega)).trans h.w1, by show fr ≤ oat (s.W.set k.toNat x) 0; rw [e 0 (by omega)]; exact h.nx0, by show oat (s.W.set k.toNat x) 0 ≤ to; rw [e 0 (by omega)]; exact h.nx1, fun p hp' => by show fr ≤ p.1 ∧ mayN p.2 ∧ p.1 + p.2 ≤ oat (s.W.set k.toNat x) 0; rw [e 0 (by omega)]; exact h.oin p hp', fun m m1 m2 b hb => by show fr ≤ b ∧ b + m ≤ oat (s.W.set k.toNat x) 0; rw [e 0 (by omega)]; exact h.bin m m1 m2 b hb, h.oo, h.ob, h.bs, h.bb, fun m m1 m2 => ?_⟩
  show chain (s.W.set k.toNat x) (oat (s.W.set k.toNat x) (1 + m)) _
  rw [e (1 + m) (by omega)]
  refine chain_same (fun b hb => oat_ne ?_) (h.ch m m1 m2)
  have hb' : b ∈ bk m := by simpa using hb
  have d := h.ob _ hp m m1 m2 b hb'
  have l := h.bk_low m1 m2 hb'
  unfold PD at d
  dsimp only at d
  omega
/-- New cells are taken. -/
theorem Rm.took_new (h : Rm s fr to O bk) (n : Nat) (hn1 : 1 ≤ n) (hn2 : n ≤ 16) (hl : n ≤ to - nx s) (s' : Wd) (hs : s'.W = s.W.set 0 (nx s + n)) : Rm s' fr to (O ++ [(nx s, (n : Int))]) bk ∧ ∀ p ∈ O, PD p (nx s, n) := by
  have hto := h.to18
  have l0 : 0 < s.W.length := by have := h.len; omega
  have e0 : oat s'.W 0 = nx s + n := by rw [hs]; exact oat_eq l0
  have e : ∀ j, j ≠ 0 → oat s'.W j = oat s.W j := fun j hj => by rw [hs]; exact oat_ne (Ne.symm hj)
  have hpd : ∀ p ∈ O, PD p (nx s, n) := fun p hp => .inl (h.oin p hp).2.2
  refine ⟨⟨by rw [hs, List.length_set]; exact h.len, h.fr0, h.to1, by rw [e 1 (by omega)]; exact h.w1, by rw [e0]; have := h.nx0; unfold nx; omega, by rw [e0]; omega, fun p hp => ?_, fun m m1 m2 b hb => ?_, ?_, fun p hp m m1 m2 b hb => ?_, h.bs, h.bb, fun m m1 m2 => ?_⟩, hpd⟩
  · rw [e0]
    rcases List.mem_append.1 hp with hp | hp
    · have q := h.oin p hp
      have : oat s.W 0 = nx s := rfl
      exact ⟨q.1, q.2.1, by have := q.2.2; unfold nx; omega⟩
    · obtain rfl : p = (nx s, (n : Int)) := by simpa using hp
      exact ⟨h.nx0, ⟨by show (1 : Int) ≤ n; omega, by show (n : Int) ≤ 16; omega⟩, by show nx s + n ≤ nx s + n; omega⟩
  · rw [e0]
    have q := h.bin m m1 m2 b hb
    exact ⟨q.1, by have := q.2; unfold nx; omega⟩
  · rw [List.pairwise_append]
    refine ⟨h.oo, List.pairwise_singleton _ _, fun p hp q hq => ?_⟩
    obtain rfl : q = (nx s, (n : Int)) := by simpa using hq
    exact hpd p hp
  · rcases List.mem_append.1 hp with hp | hp
    · exact h.ob p hp m m1 m2 b hb
    · obtain rfl : p = (nx s, (n : Int)) := by simpa using hp
      exact .inr (h.bin m m1 m2 b hb).2
  · rw [e (1 + m) (by omega)]
    refine chain_same (fun b hb => ?_) (h.ch m m1 m2)
    have hb' : b ∈ bk m := by simpa using hb
    have l := h.bk_low m1 m2 hb'
    exact e _ (by omega)
/-- A piece that was given back is taken. -/
theorem Rm.took_old (h : Rm s fr to O bk) (n : Nat) (hn1 : 1 ≤ n) (hn2 : n ≤ 16) (a : Int) (r : List Int) (he : bk n = r ++ [a]) (s' : Wd) (hs : s'.W = s.W.set (1 + n) (oat s.W a.toNat)) : Rm s' fr to (O ++ [(a, (n : Int))]) (updL bk n r) ∧ (∀ p ∈ O, PD p (a, n)) ∧ fr ≤ a ∧ a + n ≤ to := by
  have hto := h.to18
  have ha : a ∈ bk n := by rw [he]; simp
  have hin := h.bin n hn1 hn2 a ha
  have q2 := h.nx1
  have l0 : 1 + n < s.W.length := by have := h.len; omega
  have eh : oat s'.W (1 + n) = oat s.W a.toNat := by rw [hs]; exact oat_eq l0
  have e : ∀ j, j ≠ 1 + n → oat s'.W j = oat s.W j := fun j hj => by rw [hs]; exact oat_ne (Ne.symm hj)
  have e0 := e 0 (by omega)
  have hpd : ∀ p ∈ O, PD p (a, n) := fun p hp => h.ob p hp n hn1 hn2 a ha
  have sub : ∀ m b, b ∈ updL bk n r m → b ∈ bk m := fun m b hb => by
    by_cases hm : m = n
    · subst hm; rw [updL_same] at hb; rw [he]; simp [hb]
    · rw [updL_other _ _ hm] at hb; exact hb
  have bsn := h.bs n hn1 hn2
  rw [he, List.pairwise_append] at bsn
  refine ⟨⟨by rw [hs, List.length_set]; exact h.len, h.fr0, h.to1, by rw [e 1 (by omega)]; exact h.w1, by rw [e0]; exact h.nx0, by rw [e0]; exact h.nx1, fun p hp => ?_, fun m m1 m2 b hb => ?_, ?_, fun p hp m m1 m2 b hb => ?_, fun m m1 m2 => ?_, fun m k m1 m2 k1 k2 hmk x hx y hy => h.bb m k m1 m2 k1 k2 hmk x (sub m x hx) y (sub k y hy), fun m m1 m2 => ?_⟩, hpd, hin.1, by omega⟩
  · rw [e0]
    rcases List.mem_append.1 hp with hp | hp
    · exact h.oin p hp
    · obtain rfl : p = (a, (n : Int)) := by simpa using hp
      exact ⟨hin.1, ⟨by show (1 : Int) ≤ n; omega, by show (n : Int) ≤ 16; omega⟩, hin.2⟩
  · rw [e0]
    exact h.bin m m1 m2 b (sub m b hb)
  · rw [List.pairwise_append]
    refine ⟨h.oo, List.pairwise_singleton _ _, fun p hp q hq => ?_⟩
    obtain rfl : q = (a, (n : Int)) := by simpa using hq
    exact hpd p hp
  · rcases List.mem_append.1 hp with hp | hp
    · exact h.ob p hp m m1 m2 b (sub m b hb)
    · obtain rfl : p = (a, (n : Int)) := by simpa using hp
      by_cases hm : m = n
      · subst hm
        rw [updL_same] at hb
        exact (bsn.2.2 b hb a (by simp)).symm
      · exact (h.bb n m hn1 hn2 m1 m2 (Ne.symm hm) a ha b (sub m b hb))
  · by_cases hm : m = n
    · subst hm; rw [updL_same]; exact bsn.1
    · rw [updL_other _ _ hm]; exact h.bs m m1 m2
  · have low : ∀ b ∈ bk m, oat s'.W b.toNat = oat s.W b.toNat := fun b hb => e _ (by have := h.bk_low m1 m2 hb; omega)
    by_cases hm : m = n
    · subst hm
      rw [updL_same, eh]
      have c := h.ch m m1 m2
      rw [he, List.reverse_append] at c
      exact chain_same (fun b hb => low b (by rw [he]; simp at hb; simp [hb])) c.2
    · rw [updL_other _ _ hm, e (1 + m) (by omega)]
      exact chain_same (fun b hb => low b (by simpa using hb)) (h.ch m m1 m2)
/-- A piece is given back. -/
theorem Rm.gave (h : Rm s fr to O bk) (n : Nat) (hn1 : 1 ≤ n) (hn2 : n ≤ 16) (a : Int) (k : Nat) (hk : O[k]? = some (a, (n : Int))) (s' : Wd) (hs : s'.W = (s.W.set a.toNat (oat s.W (1 + n))).set (1 + n) (a + 1)) : Rm s' fr to (O.eraseIdx k) (updL bk n (bk n ++ [a])) := by
  have hto := h.to18
  obtain ⟨hkl, hke⟩ := List.getElem?_eq_some_iff.1 hk
  have hmem : (a, (n : Int)) ∈ O := List.mem_of_getElem? hk
  have hin := h.oin _ hmem
  dsimp only at hin
  have q1 := h.fr0
  have q2 := h.nx1
  have q3 := h.to1
  have hsub : ∀ p ∈ O.eraseIdx k, p ∈ O := fun p hp => (List.eraseIdx_sublist O k).subset hp
  have hother : ∀ p ∈ O.eraseIdx k, PD p (a, n) := fun p hp => by
    obtain ⟨i, hik, hi⟩ := List.mem_eraseIdx_iff_getElem?.1 hp
    obtain ⟨hil, hie⟩ := List.getElem?_eq_some_iff.1 hi
    have pw := List.pairwise_iff_getElem.1 h.oo
    rcases Nat.lt_or_ge i k with hlt | hge
    · have := pw i k hil hkl hlt
      rw [hie, hke] at this
      exact this
    · have := pw k i hkl hil (by omega)
      rw [hie, hke] at this
      exact this.symm
  have lh : 1 + n < (s.W.set a.toNat (oat s.W (1 + n))).length := by rw [List.length_set]; have := h.len; omega
  have la : a.toNat < s.W.length := by have := h.len; omega
  have eh : oat s'.W (1 + n) = a + 1 := by rw [hs]; exact oat_eq lh
  have ea : oat s'.W a.toNat = oat s.W (1 + n) := by rw [hs, oat_ne (by omega)]; exact oat_eq la
  have e : ∀ j, j ≠ 1 + n → j ≠ a.toNat → oat s'.W j = oat s.W j := fun j h1 h2 => by rw [hs, oat_ne (Ne.symm h1)]; exact oat_ne (Ne.symm h2)
  have e0 := e 0 (by omega) (by omega)
  have mem : ∀ m b, b ∈ updL bk n (bk n ++ [a]) m → b ∈ bk m ∨ (m = n ∧ b = a) := fun m b hb => by
    by_cases hm : m = n
    · subst hm
      rw [updL_same] at hb
      rcases List.mem_append.1 hb with hb | hb
      · exact .inl hb
      · exact .inr ⟨rfl, by simpa using hb⟩
    · rw [updL_other _ _ hm] at hb; exact .inl hb
  refine ⟨by rw [hs, List.length_set, List.length_set]; exact h.len, h.fr0, h.to1, by rw [e 1 (by omega) (by omega)]; exact h.w1, by rw [e0]; exact h.nx0, by rw [e0]; exact h.nx1, fun p hp => by rw [e0]; exact h.oin p (hsub p hp), fun m m1 m2 b hb => ?_, h.oo.sublist (List.eraseIdx_sublist O k), fun p hp m m1 m2 b hb => ?_, fun m m1 m2 => ?_, fun m j m1 m2 j1 j2 hmj x hx y hy => ?_, fun m m1 m2 => ?_⟩
  · rw [e0]
    rcases mem m b hb with hb | ⟨rfl, rfl⟩
    · exact h.bin m m1 m2 b hb
    · exact ⟨hin.1, hin.2.2⟩
  · rcases mem m b hb with hb | ⟨rfl, rfl⟩
    · exact h.ob p (hsub p hp) m m1 m2 b hb
    · exact hother p hp
  · by_cases hm : m = n
    · subst hm
      rw [updL_same, List.pairwise_append]
      refine ⟨h.bs m m1 m2, List.pairwise_singleton _ _, fun x hx y hy => ?_⟩
      obtain rfl : y = a := by simpa using hy
      exact (h.ob _ hmem m m1 m2 x hx).symm
    · rw [updL_other _ _ hm]; exact h.bs m m1 m2
  · have px := mem m x hx
    have py := mem j y hy
    clear hx hy
    rcases px with px | ⟨rfl, rfl⟩
    · rcases py with py | ⟨rfl, rfl⟩
      · exact h.bb m j m1 m2 j1 j2 hmj x px y py
      · exact (h.ob _ hmem m m1 m2 x px).symm
    · rcases py with py | ⟨rfl, _⟩
      · exact h.ob _ hmem j j1 j2 y py
      · exact absurd rfl hmj
  · have low : ∀ b ∈ bk m, oat s'.W b.toNat = oat s.W b.toNat := fun b hb => e _ (by have := h.bk_low m1 m2 hb; omega) (by
      have d := h.ob _ hmem m m1 m2 b hb
      have l := h.bk_low m1 m2 hb
      unfold PD at d
      dsimp only at d
      omega)
    by_cases hm : m = n
    · subst hm
      rw [updL_same, eh, List.reverse_append]
      refine ⟨rfl, ?_⟩
      rw [ea]
      exact chain_same (fun b hb => low b (by simpa using hb)) (h.ch m m1 m2)
    · rw [updL_other _ _ hm, e (1 + m) (by omega) (by omega)]
      exact chain_same (fun b hb => low b (by simpa using hb)) (h.ch m m1 m2)
end
end Go.Proofs.Ytadbplbifjeghaa


/- Pure (layer 23): queues in a room; what New, Put, Take and Drop do to them. No statement of the seat is proved here. -/
namespace Go.Proofs.Ytadbplbifjeghaa
open Go.RowKit

/-- A queue: where it is, its nodes. -/
structure Qu where
  a : Int
  ns : List Int
def Qu.ws (W : List Int) (q : Qu) : List Int := q.ns.map fun n => oat W n.toNat
def pcq (q : Qu) : List (Int × Int) := (q.a, 3) :: q.ns.map fun n => (n, 2)
def allP (Q : List Qu) : List (Int × Int) := Q.flatMap pcq
def inP (P : List (Int × Int)) (c : Int) : Prop := ∃ p ∈ P, p.1 ≤ c ∧ c < p.1 + p.2
/-- What holds of a block that is not refused. -/
structure Gd (s : Wd) (K : Int) : Prop where
  lk : Lk s K
  ok : s.Ok
theorem Gd.more {s : Wd} {K K' : Int} (h : Gd s K) (hk : K ≤ K') (hK : K' < 4611686018427387904) : Gd s K' := ⟨h.lk.more hk hK, h.ok⟩

theorem Rm.perm {s : Wd} {fr to : Int} {O O' : List (Int × Int)} {bk : Nat → List Int} (h : Rm s fr to O bk) (p : O.Perm O') : Rm s fr to O' bk :=
  ⟨h.len, h.fr0, h.to1, h.w1, h.nx0, h.nx1, fun q hq => h.oin q (p.mem_iff.2 hq), h.bin, (p.pairwise_iff (fun h => h.symm)).1 h.oo, fun q hq => h.ob q (p.mem_iff.2 hq), h.bs, h.bb, h.ch⟩
theorem Rm.same {s s' : Wd} {fr to : Int} {O : List (Int × Int)} {bk : Nat → List Int} (h : Rm s fr to O bk) (e : s'.W = s.W) : Rm s' fr to O bk := by
  obtain ⟨h1, h2, h3, h4, h5, h6, h7, h8, h9, h10, h11, h12, h13⟩ := h
  exact ⟨by rw [e]; exact h1, h2, h3, by rw [e]; exact h4, by rw [e]; exact h5, by rw [e]; exact h6, by rw [e]; exact h7, by rw [e]; exact h8, h9, h10, h11, h12, by rw [e]; exact h13⟩
theorem Rm.inb {s : Wd} {fr to : Int} {O : List (Int × Int)} {bk : Nat → List Int} (h : Rm s fr to O bk) {a n : Int} (hp : (a, n) ∈ O) : 18 ≤ a ∧ 1 ≤ n ∧ a + n ≤ to ∧ to ≤ 1000 ∧ (s.W.length : Int) = to := by
  have q := h.oin _ hp
  have q1 := h.fr0
  have q2 := h.nx1
  have q3 := q.2.1.1
  dsimp only at q q3
  exact ⟨by omega, q3, by omega, h.to1, h.len⟩

/-- Two rooms alike take alike. -/
theorem took_both {s r : Wd} {N K : Int} {O : List (Int × Int)} {bk : Nat → List Int} (hs : Rm s 18 N O bk) (hr : Rm r 18 N O bk) (hn : nx s = nx r) (gs : Gd s K) (gr : Gd r K) (hK : K + 4 < 4611686018427387904) (n : Nat) (hn1 : 1 ≤ n) (hn2 : n ≤ 16) :
    (∃ s' r', s.take 0 n = ((0, 9), s') ∧ r.take 0 n = ((0, 9), r') ∧ s'.W = s.W ∧ r'.W = r.W ∧ Gd s' (K + 4) ∧ Gd r' (K + 4) ∧ N - nx s < n) ∨
    (∃ a bk' s' r', s.take 0 n = ((a, 0), s') ∧ r.take 0 n = ((a, 0), r') ∧ Rm s' 18 N ((a, (n : Int)) :: O) bk' ∧ Rm r' 18 N ((a, (n : Int)) :: O) bk' ∧ nx s' = nx r' ∧ (∀ c, 18 ≤ c → oat s'.W c = oat s.W c) ∧ s'.W.length = s.W.length ∧ Gd s' (K + 4) ∧ Gd r' (K + 4) ∧ nx s' ≤ nx s + n) := by
  have lsd : ∀ (k : Nat) (x : Wd), k ≤ 4 → Lk x (K + k) → Lk x (K + 4) := fun k x hk h => h.more (by omega) hK
  have d1 : ∀ x : Wd, Lk x K → Lk x.dec (K + 1) := fun x h => h.dec (by omega)
  have d3 : ∀ x : Wd, Lk x K → Lk x.dec.dec.dec (K + 1 + 1 + 1) := fun x h => ((h.dec (by omega)).dec (by omega)).dec (by omega)
  have d4 : ∀ x : Wd, Lk x K → Lk x.dec.dec.dec.dec (K + 1 + 1 + 1 + 1) := fun x h => (d3 x h).dec (by omega)
  have wN : ∀ x : Wd, Rm x 18 N O bk → 18 ≤ nx x ∧ nx x ≤ 1000 := fun x h => ⟨h.nx0, by have := h.nx1; have := h.to1; unfold nx; omega⟩
  have okset : ∀ (x : Wd) (l c m : Int) (i : Nat) (y : Int), x.Ok → isW y → (⟨x.W.set i y, l, c, m⟩ : Wd).Ok := fun x l c m i y h hy => ⟨fun z hz => by
    rcases List.mem_or_eq_of_mem_set hz with h1 | h1
    · exact h.1 z h1
    · rw [h1]; exact hy, by show (x.W.set i y).length ≤ _; rw [List.length_set]; exact h.2⟩
  rcases List.eq_nil_or_concat (bk n) with he | ⟨rr, a, he⟩
  · by_cases hl : N - nx s < n
    · refine .inl ⟨_, _, hs.take_no gs.lk (by omega) n hn1 hn2 he hl, hr.take_no gr.lk (by omega) n hn1 hn2 he (by rw [← hn]; exact hl), rfl, rfl, ⟨(d3 s gs.lk).more (by omega) hK, gs.ok⟩, ⟨(d3 r gr.lk).more (by omega) hK, gr.ok⟩, hl⟩
    · have t1 := hs.take_new gs.lk (by omega) n hn1 hn2 he (by omega)
      have t2 := hr.take_new gr.lk (by omega) n hn1 hn2 he (by omega)
      have m1 := (hs.took_new n hn1 hn2 (by omega) (ud s.dec.dec.dec.dec (s.W.set 0 (nx s + n))) rfl).1
      have m2 := (hr.took_new n hn1 hn2 (by omega) (ud r.dec.dec.dec.dec (r.W.set 0 (nx r + n))) rfl).1
      rw [← hn] at t2 m2
      have b1 := wN s hs
      refine .inr ⟨nx s, bk, _, _, t1, t2, m1.perm (List.perm_append_singleton _ _), m2.perm (List.perm_append_singleton _ _), ?_, fun c hc => oat_ne (by omega), by show (s.W.set 0 _).length = _; rw [List.length_set], ⟨((d4 s gs.lk).ud _).more (by omega) hK, okset s _ _ _ _ _ gs.ok ⟨by omega, by omega⟩⟩, ⟨((d4 r gr.lk).ud _).more (by omega) hK, okset r _ _ _ _ _ gr.ok ⟨by omega, by omega⟩⟩, by
        show oat (s.W.set 0 _) 0 ≤ _
        rw [oat_eq (by have := hs.len; have := hs.to18; omega)]
        exact Int.le_refl _⟩
      show oat (s.W.set 0 _) 0 = oat (r.W.set 0 _) 0
      rw [oat_eq (by have := hs.len; have := hs.to18; omega), oat_eq (by have := hr.len; have := hr.to18; omega)]
  · rw [List.concat_eq_append] at he
    have t1 := hs.take_old gs.lk (by omega) n hn1 hn2 a rr he
    have t2 := hr.take_old gr.lk (by omega) n hn1 hn2 a rr he
    have m1 := (hs.took_old n hn1 hn2 a rr he (ud s.dec.dec.dec (s.W.set (1 + n) (oat s.W a.toNat))) rfl).1
    have m2 := (hr.took_old n hn1 hn2 a rr he (ud r.dec.dec.dec (r.W.set (1 + n) (oat r.W a.toNat))) rfl).1
    refine .inr ⟨a, updL bk n rr, _, _, t1, t2, m1.perm (List.perm_append_singleton _ _), m2.perm (List.perm_append_singleton _ _), ?_, fun c hc => oat_ne (by omega), by show (s.W.set _ _).length = _; rw [List.length_set], ⟨((d3 s gs.lk).ud _).more (by omega) hK, okset s _ _ _ _ _ gs.ok (oat_isW gs.ok.1 _)⟩, ⟨((d3 r gr.lk).ud _).more (by omega) hK, okset r _ _ _ _ _ gr.ok (oat_isW gr.ok.1 _)⟩, by
      show oat (s.W.set _ _) 0 ≤ oat s.W 0 + n
      rw [oat_ne (by omega)]
      omega⟩
    show oat (s.W.set _ _) 0 = oat (r.W.set _ _) 0
    rw [oat_ne (by omega), oat_ne (by omega)]
    exact hn

/-- A piece is given back. -/
theorem gave_one {s : Wd} {N K : Int} {O O' : List (Int × Int)} {bk : Nat → List Int} (hs : Rm s 18 N O bk) (gs : Gd s K) (hK : K + 4 < 4611686018427387904) (n : Nat) (hn1 : 1 ≤ n) (hn2 : n ≤ 16) (a : Int) (hp : O.Perm ((a, (n : Int)) :: O')) :
    ∃ s', s.give 0 a n = (0, s') ∧ Rm s' 18 N O' (updL bk n (bk n ++ [a])) ∧ nx s' = nx s ∧ (∀ c, 18 ≤ c → c ≠ a.toNat → oat s'.W c = oat s.W c) ∧ s'.W.length = s.W.length ∧ Gd s' (K + 4) := by
  have h2 := hs.perm hp
  have b := h2.inb (List.mem_cons_self)
  have t := h2.give_ok gs.lk (by omega) n hn1 hn2 a List.mem_cons_self
  have m := h2.gave n hn1 hn2 a 0 rfl (ud s.dec.dec.dec ((s.W.set a.toNat (oat s.W (1 + n))).set (1 + n) (a + 1))) rfl
  refine ⟨_, t, m, ?_, fun c hc hca => ?_, by show ((s.W.set _ _).set _ _).length = _; rw [List.length_set, List.length_set], ⟨(((((gs.lk.dec (by omega)).dec (by omega)).dec (by omega))).ud _).more (by omega) hK, ⟨fun z hz => ?_, by show ((s.W.set _ _).set _ _).length ≤ _; rw [List.length_set, List.length_set]; exact gs.ok.2⟩⟩⟩
  · show oat ((s.W.set _ _).set _ _) 0 = oat s.W 0
    rw [oat_ne (by omega), oat_ne (by omega)]
  · show oat ((s.W.set _ _).set _ _) c = oat s.W c
    rw [oat_ne (by omega), oat_ne (by omega)]
  · rcases List.mem_or_eq_of_mem_set hz with h1 | h1
    · rcases List.mem_or_eq_of_mem_set h1 with h1 | h1
      · exact gs.ok.1 z h1
      · rw [h1]; exact oat_isW gs.ok.1 _
    · rw [h1]; exact ⟨by omega, by omega⟩
/-- A word is put into a piece that is out. -/
theorem put_out {s : Wd} {N K : Int} {O : List (Int × Int)} {bk : Nat → List Int} (hs : Rm s 18 N O bk) (gs : Gd s K) (hK : K + 1 < 4611686018427387904) {a n c x : Int} (hp : (a, n) ∈ O) (h1 : a ≤ c) (h2 : c < a + n) (hx : isW x) :
    ∃ s', s.put c x = (0, s') ∧ s'.W = s.W.set c.toNat x ∧ Rm s' 18 N O bk ∧ Gd s' (K + 1) := by
  have b := hs.inb hp
  have p := put_in (a := c) (x := x) gs.lk (by omega) (by omega)
  refine ⟨_, p, rfl, (hs.write hp h1 h2 (x := x)).same rfl, ⟨gs.lk.dec hK, ⟨fun z hz => ?_, by show (s.W.set _ _).length ≤ _; rw [List.length_set]; exact gs.ok.2⟩⟩⟩
  rcases List.mem_or_eq_of_mem_set hz with h3 | h3
  · exact gs.ok.1 z h3
  · rw [h3]; exact hx
theorem get_out' {s : Wd} {N K : Int} {O : List (Int × Int)} {bk : Nat → List Int} (hs : Rm s 18 N O bk) (gs : Gd s K) (hK : K + 1 < 4611686018427387904) {a n c : Int} (hp : (a, n) ∈ O) (h1 : a ≤ c) (h2 : c < a + n) :
    ∃ s', s.get c = ((oat s.W c.toNat, 0), s') ∧ s'.W = s.W ∧ Rm s' 18 N O bk ∧ Gd s' (K + 1) := by
  have b := hs.inb hp
  exact ⟨_, get_in (a := c) gs.lk (by omega) (by omega), rfl, hs.same rfl, ⟨gs.lk.dec hK, gs.ok⟩⟩
/-- What a queue is hangs on its own cells alone. -/
theorem lk_same {W W' : List Int} (hl : W'.length = W.length) : ∀ {to : Int} {ns : List Int}, (∀ n ∈ ns, oat W' (n + 1).toNat = oat W (n + 1).toNat) → lk W to ns → lk W' to ns
  | _, [], _, h => h
  | _, n :: ns, hc, h => ⟨h.1, h.2.1, by rw [hl]; exact h.2.2.1, by rw [hc n List.mem_cons_self]; exact lk_same hl (fun m hm => hc m (List.mem_cons_of_mem _ hm)) h.2.2.2⟩
theorem inP_q {q : Qu} {c : Int} (h1 : q.a ≤ c) (h2 : c < q.a + 3) : inP (pcq q) c := ⟨_, List.mem_cons_self, h1, h2⟩
theorem inP_n {q : Qu} {n c : Int} (hn : n ∈ q.ns) (h1 : n ≤ c) (h2 : c < n + 2) : inP (pcq q) c := ⟨(n, 2), List.mem_cons_of_mem _ (List.mem_map.2 ⟨n, hn, rfl⟩), h1, h2⟩
theorem wh_same {W W' : List Int} (hl : W'.length = W.length) {q : Qu} (hc : ∀ c, inP (pcq q) c → oat W' c.toNat = oat W c.toNat) (h : Wh W q.a q.ns) : Wh W' q.a q.ns := by
  obtain ⟨h1, h2, h3, h4, h5, h6⟩ := h
  refine ⟨h1, by rw [hl]; exact h2, by rw [hc _ (inP_q (by omega) (by omega))]; exact h3, h4, ?_, by rw [hc _ (inP_q (by omega) (by omega))]; exact h6⟩
  rw [hc _ (inP_q (by omega) (by omega))]
  exact lk_same hl (fun n hn => hc _ (inP_n hn (by omega) (by omega))) h5
theorem ws_same {W W' : List Int} {q : Qu} (hc : ∀ c, inP (pcq q) c → oat W' c.toNat = oat W c.toNat) : q.ws W' = q.ws W := by
  unfold Qu.ws
  exact List.map_congr_left fun n hn => hc n (inP_n hn (by omega) (by omega))
end Go.Proofs.Ytadbplbifjeghaa


/- Pure (layer 23): New and Put on queues in a room. No statement of the seat is proved here. -/
namespace Go.Proofs.Ytadbplbifjeghaa
open Go.RowKit

theorem addk {a : Int} (k : Nat) (h0 : 0 ≤ a) (h1 : a + k < 18446744073709551616) : uw (a + (k : Int)) = a + k := uw_of (by omega) (by omega)
theorem puts_nil (a : Int) (l : List Int) (s : Wd) : putK a l s 0 = (0, s) := rfl
theorem puts_step {a : Int} {l : List Int} {s s1 s2 : Wd} {k : Nat} (h : putK a l s k = (0, s1)) (hp : s1.put (uw (a + (k : Int))) (oat l k) = (0, s2)) : putK a l s (k + 1) = (0, s2) := by
  unfold putK
  rw [h]
  simp only [ne_eq, not_true_eq_false, if_false]
  exact hp
theorem putsU_of {a : Int} {l : List Int} {s s1 : Wd} (h : putK a l s l.length = (0, s1)) : putsU a l s = (((), 0), s1) := by
  have e : s.puts a l = (0, s1) := h
  unfold putsU
  rw [e]
theorem putU_of {a x : Int} {s s1 : Wd} (h : s.put a x = (0, s1)) : putU a x s = (((), 0), s1) := by unfold putU; rw [h]
theorem q1_of {q : Int} (h0 : 0 ≤ q) (h1 : q < 18446744073709551610) : q1 q = q + 1 := uw_of (by omega) (by omega)
theorem q2_of {q : Int} (h0 : 0 ≤ q) (h1 : q < 18446744073709551610) : q2 q = q + 2 := uw_of (by omega) (by omega)
theorem toNat_ne {a b : Int} (ha : 0 ≤ a) (hb : 0 ≤ b) (h : a ≠ b) : a.toNat ≠ b.toNat := by omega
theorem oat_set_ne {l : List Int} {a b x : Int} (ha : 0 ≤ a) (hb : 0 ≤ b) (h : a ≠ b) : oat (l.set a.toNat x) b.toNat = oat l b.toNat := oat_ne (toNat_ne ha hb h)
theorem oat_set_eq {l : List Int} {a x : Int} (ha : 0 ≤ a) (h : a < l.length) : oat (l.set a.toNat x) a.toNat = x := oat_eq (by omega)

section
variable {s r : Wd} {N K : Int} {bk : Nat → List Int} {R : List (Int × Int)}

/-- New. -/
theorem new_ok (hs : Rm s 18 N R bk) (hr : Rm r 18 N R bk) (hn : nx s = nx r) (gs : Gd s K) (gr : Gd r K) (hK : K + 40 < 4611686018427387904) :
    (∃ s' r', Wd.qnew 0 s = ((0, 9), s') ∧ r.take 0 3 = ((0, 9), r') ∧ s'.W = s.W ∧ r'.W = r.W ∧ Gd s' (K + 40) ∧ Gd r' (K + 40) ∧ N - nx s < 3) ∨
    (∃ a bk' s' r', Wd.qnew 0 s = ((a, 0), s') ∧ r.take 0 3 = ((a, 0), r') ∧ Rm s' 18 N (pcq ⟨a, []⟩ ++ R) bk' ∧ Rm r' 18 N (pcq ⟨a, []⟩ ++ R) bk' ∧ nx s' = nx r' ∧ Wh s'.W a [] ∧ (∀ c, inP R c → oat s'.W c.toNat = oat s.W c.toNat) ∧ s'.W.length = s.W.length ∧ isW a ∧ Gd s' (K + 40) ∧ Gd r' (K + 40) ∧ nx s' ≤ nx s + 3) := by
  rcases took_both hs hr hn gs gr (by omega) 3 (by omega) (by omega) with ⟨s', r', h1, h2, h3, h4, h5, h6, h7⟩ | ⟨a, bk', s1, r1, h1, h2, h3, h4, h5, h6, h7, h8, h9, h10⟩
  · refine .inl ⟨s', r', ?_, h2, h3, h4, h5.more (by omega) hK, h6.more (by omega) hK, h7⟩
    unfold Wd.qnew
    exact bnd_no h1 (by decide)
  · have h3' : Rm s1 18 N ((a, 3) :: R) bk' := h3
    have b := h3'.inb List.mem_cons_self
    obtain ⟨s2, p1, w1, m1, g1⟩ := put_out h3' h8 (by omega) (x := 0) (c := a) List.mem_cons_self (by omega) (by omega) zero_isW'
    obtain ⟨s3, p2, w2, m2, g2⟩ := put_out m1 g1 (by omega) (x := 0) (c := a + 1) List.mem_cons_self (by omega) (by omega) zero_isW'
    obtain ⟨s4, p3, w3, m3, g3⟩ := put_out m2 g2 (by omega) (x := 0) (c := a + 2) List.mem_cons_self (by omega) (by omega) zero_isW'
    have q0 : putK a [0, 0, 0] s1 1 = (0, s2) := puts_step (puts_nil _ _ _) (by rw [show uw (a + ((0 : Nat) : Int)) = a by rw [addk 0 (by omega) (by omega)]; omega]; exact p1)
    have q1' : putK a [0, 0, 0] s1 2 = (0, s3) := puts_step q0 (by rw [addk 1 (by omega) (by omega)]; exact p2)
    have q2' : putK a [0, 0, 0] s1 3 = (0, s4) := puts_step q1' (by rw [addk 2 (by omega) (by omega)]; exact p3)
    have hW : s4.W = ((s1.W.set a.toNat 0).set (a + 1).toNat 0).set (a + 2).toNat 0 := by rw [w3, w2, w1]
    have hlen : s4.W.length = s1.W.length := by rw [hW]; simp
    have hin : ∀ c : Int, a ≤ c → c < a + 3 → oat s4.W c.toNat = 0 := fun c h1 h2 => by
      rw [hW]
      have : c = a ∨ c = a + 1 ∨ c = a + 2 := by omega
      rcases this with rfl | rfl | rfl
      · rw [oat_set_ne (by omega) (by omega) (by omega), oat_set_ne (by omega) (by omega) (by omega), oat_set_eq (by omega) (by omega)]
      · rw [oat_set_ne (by omega) (by omega) (by omega), oat_set_eq (by omega) (by rw [List.length_set]; omega)]
      · rw [oat_set_eq (by omega) (by rw [List.length_set, List.length_set]; omega)]
    have e : nx s4 = nx s1 := by
      show oat s4.W 0 = oat s1.W 0
      rw [hW, oat_ne (by omega), oat_ne (by omega), oat_ne (by omega)]
    refine .inr ⟨a, bk', s4, r1, ?_, h2, m3, h4, ?_, ⟨by omega, by rw [hlen]; omega, hin _ (by omega) (by omega), by simp, hin _ (by omega) (by omega), hin _ (by omega) (by omega)⟩, fun c hc => ?_, hlen.trans h7, ⟨by omega, by omega⟩, g3.more (by omega) hK, h9.more (by omega) hK, by rw [e]; exact h10⟩
    · unfold Wd.qnew
      rw [bnd_ok h1, bnd_ok (putsU_of q2')]
      rfl
    · rw [e]
      exact h5
    · obtain ⟨p, hp, c1, c2⟩ := hc
      have pd := List.rel_of_pairwise_cons h3'.oo hp
      have bp := h3'.inb (a := p.1) (n := p.2) (List.mem_cons_of_mem _ hp)
      unfold PD at pd
      dsimp only at pd
      rw [hW, oat_set_ne (by omega) (by omega) (by omega), oat_set_ne (by omega) (by omega) (by omega), oat_set_ne (by omega) (by omega) (by omega)]
      exact h6 _ (by omega)

theorem lastL_mem : ∀ {a : Int} {n : Int} {ns : List Int}, ∃ m ∈ n :: ns, lastL a (n :: ns) = m + 1
  | _, n, [] => ⟨n, List.mem_cons_self, rfl⟩
  | _, n, k :: ns => by
    obtain ⟨m, hm, e⟩ := lastL_mem (a := n + 1) (n := k) (ns := ns)
    exact ⟨m, List.mem_cons_of_mem _ hm, e⟩
theorem lastL_snoc (a : Int) : ∀ (ns : List Int) (x : Int), lastL a (ns ++ [x]) = x + 1
  | [], _x => rfl
  | n :: ns, x => lastL_snoc (n + 1) ns x
/-- One node more at a chain's end. -/
theorem lk_snoc {W W' : List Int} (hl : W'.length = W.length) {x : Int} (hx0 : 0 ≤ x) (hx1 : x + 1 < W.length) (hxe : oat W' (x + 1).toNat = 0) : ∀ {to : Int} {n : Int} {ns : List Int}, (n :: ns).Nodup → lk W to (n :: ns) → (∀ m ∈ n :: ns, m + 1 ≠ lastL 0 (n :: ns) → oat W' (m + 1).toNat = oat W (m + 1).toNat) → oat W' (lastL 0 (n :: ns)).toNat = x + 1 → lk W' to (n :: ns ++ [x])
  | to, n, [], _, h, _, hlast => ⟨h.1, h.2.1, by rw [hl]; exact h.2.2.1, by
      have e : oat W' (n + 1).toNat = x + 1 := hlast
      rw [e]
      exact ⟨rfl, hx0, by rw [hl]; exact hx1, hxe⟩⟩
  | to, n, k :: ns, hnd, h, hc, hlast => by
    have e : lastL 0 (n :: k :: ns) = lastL 0 (k :: ns) := rfl
    obtain ⟨m, hm, em⟩ := lastL_mem (a := 0) (n := k) (ns := ns)
    have hne : n + 1 ≠ lastL 0 (n :: k :: ns) := by
      rw [e, em]
      intro q
      have : n = m := by omega
      subst this
      exact (List.nodup_cons.1 hnd).1 hm
    refine ⟨h.1, h.2.1, by rw [hl]; exact h.2.2.1, ?_⟩
    rw [hc n List.mem_cons_self hne]
    exact lk_snoc hl hx0 hx1 hxe (List.nodup_cons.1 hnd).2 h.2.2.2 (fun m hm q => hc m (List.mem_cons_of_mem _ hm) q) hlast
end
end Go.Proofs.Ytadbplbifjeghaa


/- Pure (layer 23): Put on a queue in a room. No statement of the seat is proved here. -/
namespace Go.Proofs.Ytadbplbifjeghaa
open Go.RowKit

theorem pw_all : ∀ {l : List (Int × Int)}, l.Pairwise PD → ∀ p ∈ l, ∀ q ∈ l, p ≠ q → PD p q
  | [], _, p, hp, _, _, _ => by simp at hp
  | a :: l, h, p, hp, q, hq, hne => by
    rcases List.mem_cons.1 hp with e1 | hp2
    · rcases List.mem_cons.1 hq with e2 | hq2
      · exact absurd (e1.trans e2.symm) hne
      · rw [e1]; exact List.rel_of_pairwise_cons h hq2
    · rcases List.mem_cons.1 hq with e2 | hq2
      · rw [e2]; exact (List.rel_of_pairwise_cons h hp2).symm
      · exact pw_all (List.Pairwise.of_cons h) p hp2 q hq2 hne
theorem nd_len : ∀ (B : Nat) (l : List Int), l.Nodup → (∀ x ∈ l, 0 ≤ x ∧ x < B) → l.length ≤ B
  | 0, l, _, h => by
    cases l with
    | nil => exact Nat.le_refl _
    | cons x l => have := h x List.mem_cons_self; omega
  | B + 1, l, hn, h => by
    by_cases hm : (B : Int) ∈ l
    · have q := nd_len B (l.erase B) (hn.erase _) (fun x hx => by
        have p := (List.Nodup.mem_erase_iff hn).1 hx
        have := h x p.2
        have := p.1
        omega)
      rw [List.length_erase_of_mem hm] at q
      omega
    · have q := nd_len B l hn (fun x hx => by
        have := h x hx
        have : x ≠ B := fun e => hm (by rw [← e]; exact hx)
        omega)
      omega
theorem pd_ne {p q : Int × Int} (h : PD p q) {c c' : Int} (h1 : p.1 ≤ c) (h2 : c < p.1 + p.2) (h3 : q.1 ≤ c') (h4 : c' < q.1 + q.2) : c ≠ c' := by
  unfold PD at h
  omega
/-- How a queue's pieces lie: apart. -/
structure Ap (q : Qu) (R : List (Int × Int)) : Prop where
  qn : ∀ n ∈ q.ns, PD (q.a, 3) (n, 2)
  nn : ∀ n ∈ q.ns, ∀ m ∈ q.ns, n ≠ m → PD (n, 2) (m, 2)
  nd : q.ns.Nodup
  qR : ∀ p ∈ R, PD (q.a, 3) p
  nR : ∀ n ∈ q.ns, ∀ p ∈ R, PD (n, 2) p
theorem Rm.ap {s : Wd} {fr to : Int} {q : Qu} {R : List (Int × Int)} {bk : Nat → List Int} (h : Rm s fr to (pcq q ++ R) bk) : Ap q R := by
  have hp := List.pairwise_append.1 h.oo
  have h1 : (pcq q).Pairwise PD := hp.1
  have hmn : ∀ n ∈ q.ns, ((n, 2) : Int × Int) ∈ q.ns.map fun n => (n, (2 : Int)) := fun n hn => List.mem_map.2 ⟨n, hn, rfl⟩
  refine ⟨fun n hn => List.rel_of_pairwise_cons h1 (hmn n hn), fun n hn m hm hne => pw_all (List.Pairwise.of_cons h1) _ (hmn n hn) _ (hmn m hm) (fun e => hne (by injection e)), ?_, fun p hp' => hp.2.2 _ List.mem_cons_self _ hp', fun n hn p hp' => hp.2.2 _ (List.mem_cons_of_mem _ (hmn n hn)) _ hp'⟩
  have h2 := List.pairwise_map.1 (List.Pairwise.of_cons h1)
  exact h2.imp (fun {a b} hab e => by subst e; unfold PD at hab; dsimp only at hab; omega)
theorem mem_q (q : Qu) (R : List (Int × Int)) : (q.a, (3 : Int)) ∈ pcq q ++ R := List.mem_append_left _ List.mem_cons_self
theorem mem_n {q : Qu} {R : List (Int × Int)} {n : Int} (hn : n ∈ q.ns) : (n, (2 : Int)) ∈ pcq q ++ R := List.mem_append_left _ (List.mem_cons_of_mem _ (List.mem_map.2 ⟨n, hn, rfl⟩))
theorem pcq_snoc (q : Qu) (x : Int) (R : List (Int × Int)) : ((x, (2 : Int)) :: (pcq q ++ R)).Perm (pcq ⟨q.a, q.ns ++ [x]⟩ ++ R) := by
  have e : pcq ⟨q.a, q.ns ++ [x]⟩ = pcq q ++ [(x, 2)] := by simp [pcq]
  rw [e, List.append_assoc]
  exact List.perm_middle.symm

section
variable {s r : Wd} {N K : Int} {bk : Nat → List Int} {R : List (Int × Int)} {q : Qu}
set_option maxRecDepth 100000 in
/-- Put. -/
theorem push_ok (hs : Rm s 18 N (pcq q ++ R) bk) (hr : Rm r 18 N (pcq q ++ R) bk) (hn : nx s = nx r) (gs : Gd s K) (gr : Gd r K) (hK : K + 40 < 4611686018427387904) (hwh : Wh s.W q.a q.ns) {x : Int} (hx : isW x) :
    (∃ s' r', Wd.qput 0 q.a x s = (((), 9), s') ∧ r.take 0 2 = ((0, 9), r') ∧ s'.W = s.W ∧ r'.W = r.W ∧ Gd s' (K + 40) ∧ Gd r' (K + 40) ∧ N - nx s < 2) ∨
    (∃ a bk' s' r', Wd.qput 0 q.a x s = (((), 0), s') ∧ r.take 0 2 = ((a, 0), r') ∧ Rm s' 18 N (pcq ⟨q.a, q.ns ++ [a]⟩ ++ R) bk' ∧ Rm r' 18 N (pcq ⟨q.a, q.ns ++ [a]⟩ ++ R) bk' ∧ nx s' = nx r' ∧ Wh s'.W q.a (q.ns ++ [a]) ∧ Qu.ws s'.W ⟨q.a, q.ns ++ [a]⟩ = q.ws s.W ++ [x] ∧ (∀ c, inP R c → oat s'.W c.toNat = oat s.W c.toNat) ∧ s'.W.length = s.W.length ∧ isW a ∧ Gd s' (K + 40) ∧ Gd r' (K + 40) ∧ nx s' ≤ nx s + 2) := by
  rcases took_both hs hr hn gs gr (by omega) 2 (by omega) (by omega) with ⟨s', r', h1, h2, h3, h4, h5, h6, h7⟩ | ⟨a, bk', s1, r1, h1, h2, h3, h4, h5, h6, h7, h8, h9, h10⟩
  · refine .inl ⟨s', r', ?_, h2, h3, h4, h5.more (by omega) hK, h6.more (by omega) hK, h7⟩
    unfold Wd.qput
    exact bnd_no h1 (by decide)
  · have h3' : Rm s1 18 N ((a, 2) :: (pcq q ++ R)) bk' := h3
    have b := h3'.inb List.mem_cons_self
    have ap : Ap q R := hs.ap
    have bq := hs.inb (mem_q q R)
    have pda : ∀ p ∈ pcq q ++ R, PD (a, 2) p := fun p hp => List.rel_of_pairwise_cons h3'.oo hp
    have pdq := pda _ (mem_q q R)
    have pdn : ∀ n ∈ q.ns, PD (a, 2) (n, 2) := fun n hn => pda _ (mem_n hn)
    have bn : ∀ n ∈ q.ns, 18 ≤ n ∧ n + 2 ≤ N := fun n hn => by have := hs.inb (mem_n (R := R) hn); omega
    obtain ⟨s2, p1, w1, m1, g1⟩ := put_out h3' h8 (by omega) (x := x) (c := a) List.mem_cons_self (by omega) (by omega) hx
    obtain ⟨s3, p2, w2, m2, g2⟩ := put_out m1 g1 (by omega) (x := 0) (c := a + 1) List.mem_cons_self (by omega) (by omega) zero_isW'
    have k0 : putK a [x, 0] s1 1 = (0, s2) := puts_step (puts_nil _ _ _) (by rw [show uw (a + ((0 : Nat) : Int)) = a by rw [addk 0 (by omega) (by omega)]; omega]; exact p1)
    have k1 : putK a [x, 0] s1 2 = (0, s3) := puts_step k0 (by rw [addk 1 (by omega) (by omega)]; exact p2)
    obtain ⟨s4, p3, w3, m3, g3⟩ := get_out' m2 g2 (by omega) (c := q.a + 1) (List.mem_cons_of_mem _ (mem_q q R)) (by omega) (by omega)
    have eW3 : s3.W = (s1.W.set a.toNat x).set (a + 1).toNat 0 := by rw [w2, w1]
    have o3 : ∀ c, 18 ≤ c → c ≠ a → c ≠ a + 1 → oat s3.W c.toNat = oat s.W c.toNat := fun c hc hca hca1 => by
      rw [eW3, oat_set_ne (by omega) (by omega) (by omega), oat_set_ne (by omega) (by omega) (by omega)]
      exact h6 _ (by omega)
    have qa1 : ∀ c, q.a ≤ c → c < q.a + 3 → c ≠ a ∧ c ≠ a + 1 := fun c h1 h2 => ⟨(pd_ne pdq (c := a) (c' := c) (by omega) (by omega) h1 h2).symm, (pd_ne pdq (c := a + 1) (c' := c) (by omega) (by omega) h1 h2).symm⟩
    have na1 : ∀ n ∈ q.ns, ∀ c, n ≤ c → c < n + 2 → c ≠ a ∧ c ≠ a + 1 := fun n hn c h1 h2 => ⟨(pd_ne (pdn n hn) (c := a) (c' := c) (by omega) (by omega) h1 h2).symm, (pd_ne (pdn n hn) (c := a + 1) (c' := c) (by omega) (by omega) h1 h2).symm⟩
    have nq : ∀ n ∈ q.ns, ∀ c, n ≤ c → c < n + 2 → ∀ c', q.a ≤ c' → c' < q.a + 3 → c ≠ c' := fun n hn c h1 h2 c' h3 h4 => (pd_ne (ap.qn n hn) (c := c') (c' := c) h3 h4 h1 h2).symm
    obtain ⟨w0, wl, wc, wm, wk, wlast⟩ := hwh
    have v3 : oat s3.W (q.a + 1).toNat = lastL 0 q.ns := by rw [o3 _ (by omega) (qa1 _ (by omega) (by omega)).1 (qa1 _ (by omega) (by omega)).2]; exact wlast
    rw [v3] at p3
    have eq1' : q1 q.a = q.a + 1 := q1_of (by omega) (by omega)
    have eq2' : q2 q.a = q.a + 2 := q2_of (by omega) (by omega)
    have ha1 : uw (a + 1) = a + 1 := uw_of (by omega) (by omega)
    have hwa : isW (a + 1) := ⟨by omega, by omega⟩
    -- where the link lies
    obtain ⟨L, pl, hL, hpl, hl1, hl2, hnil, hcons⟩ : ∃ L pl, (if lastL 0 q.ns = 0 then q.a else uw (nodeA (lastL 0 q.ns) + 1)) = L ∧ pl ∈ pcq q ++ R ∧ pl.1 ≤ L ∧ L < pl.1 + pl.2 ∧ (q.ns = [] → L = q.a) ∧ (q.ns ≠ [] → L = lastL 0 q.ns ∧ ∃ m ∈ q.ns, L = m + 1 ∧ pl = (m, 2)) := by
      cases hns : q.ns with
      | nil => exact ⟨q.a, (q.a, 3), if_pos rfl, mem_q q R, Int.le_refl _, by show q.a < q.a + 3; omega, fun _ => rfl, fun h => absurd rfl h⟩
      | cons n ns =>
        obtain ⟨m, hm, e⟩ := lastL_mem (a := 0) (n := n) (ns := ns)
        have hm' : m ∈ q.ns := by rw [hns]; exact hm
        have bm := bn m hm'
        refine ⟨m + 1, (m, 2), ?_, mem_n hm', by show m ≤ m + 1; omega, by show m + 1 < m + 2; omega, fun h => by simp at h, fun _ => ⟨e.symm, m, hm, rfl, rfl⟩⟩
        rw [e, if_neg (by omega), nodeA_of (by omega) ⟨by omega, by omega⟩, show m + 1 - 1 = m by omega]
        exact uw_of (by omega) (by omega)
    have bL : 18 ≤ L ∧ L < N := by have := h3'.inb (a := pl.1) (n := pl.2) (List.mem_cons_of_mem _ hpl); omega
    obtain ⟨s5, p4, w4, m4, g4⟩ := put_out m3 g3 (by omega) (x := a + 1) (c := L) (List.mem_cons_of_mem _ hpl) hl1 hl2 hwa
    obtain ⟨s6, p5, w5, m5, g5⟩ := put_out m4 g4 (by omega) (x := a + 1) (c := q.a + 1) (List.mem_cons_of_mem _ (mem_q q R)) (by omega) (by omega) hwa
    have hang : hangU q.a a s3 = (((), 0), s6) := by
      unfold hangU
      rw [eq1', bnd_ok p3, ha1, hL, bnd_ok (putU_of p4)]
      exact putU_of p5
    have Lq : L ≠ q.a + 1 ∧ L ≠ q.a + 2 ∧ L ≠ a ∧ L ≠ a + 1 := by
      by_cases hns : q.ns = []
      · have := hnil hns
        have := qa1 q.a (by omega) (by omega)
        omega
      · obtain ⟨_, m, hm, e, _⟩ := hcons hns
        have := nq m hm L (by omega) (by omega)
        have := na1 m hm L (by omega) (by omega)
        have := nq m hm L (by omega) (by omega) (q.a + 1) (by omega) (by omega)
        have := nq m hm L (by omega) (by omega) (q.a + 2) (by omega) (by omega)
        omega
    obtain ⟨s7, p6, w6, m6, g6⟩ := get_out' m5 g5 (by omega) (c := q.a + 2) (List.mem_cons_of_mem _ (mem_q q R)) (by omega) (by omega)
    have q2a := qa1 (q.a + 2) (by omega) (by omega)
    have v6 : oat s6.W (q.a + 2).toNat = q.ns.length := by
      rw [w5, oat_set_ne (by omega) (by omega) (by omega), w4, w3, oat_set_ne (by omega) (by omega) (by omega), o3 _ (by omega) q2a.1 q2a.2]
      exact wc
    rw [v6] at p6
    obtain ⟨s8, p7, w7, m7, g7⟩ := put_out m6 g6 (by omega) (x := (q.ns.length : Int) + 1) (c := q.a + 2) (List.mem_cons_of_mem _ (mem_q q R)) (by omega) (by omega) ⟨by omega, by omega⟩
    have hrec : recountU q.a 1 s6 = (((), 0), s8) := by
      unfold recountU
      rw [eq2', bnd_ok p6]
      have e : uw ((q.ns.length : Int) + 1) = (q.ns.length : Int) + 1 := uw_of (by omega) (by omega)
      rw [e]
      exact putU_of p7
    have hW : s8.W = ((s3.W.set L.toNat (a + 1)).set (q.a + 1).toNat (a + 1)).set (q.a + 2).toNat ((q.ns.length : Int) + 1) := by rw [w7, w6, w5, w4, w3]
    have l3 : s3.W.length = s1.W.length := by rw [eW3]; simp
    have hlen : s8.W.length = s1.W.length := by rw [hW]; simp [l3]
    have bl : (s1.W.length : Int) = N := b.2.2.2.2
    have oq2 : oat s8.W (q.a + 2).toNat = (q.ns.length : Int) + 1 := by rw [hW]; exact oat_set_eq (by omega) (by rw [List.length_set, List.length_set, l3]; omega)
    have oq1 : oat s8.W (q.a + 1).toNat = a + 1 := by rw [hW, oat_set_ne (by omega) (by omega) (by omega)]; exact oat_set_eq (by omega) (by rw [List.length_set, l3]; omega)
    have oL : oat s8.W L.toNat = a + 1 := by rw [hW, oat_set_ne (by omega) (by omega) (by omega), oat_set_ne (by omega) (by omega) (by omega)]; exact oat_set_eq (by omega) (by rw [l3]; omega)
    have oo : ∀ c, 18 ≤ c → c ≠ L → c ≠ q.a + 1 → c ≠ q.a + 2 → oat s8.W c.toNat = oat s3.W c.toNat := fun c h0 h1 h2 h3 => by rw [hW, oat_set_ne (by omega) (by omega) (by omega), oat_set_ne (by omega) (by omega) (by omega), oat_set_ne (by omega) (by omega) (by omega)]
    have aq := qa1 (q.a + 1) (by omega) (by omega)
    have oa : oat s8.W a.toNat = x := by
      rw [oo a (by omega) (by omega) (by omega) (by omega), eW3, oat_set_ne (by omega) (by omega) (by omega)]
      exact oat_set_eq (by omega) (by omega)
    have oa1 : oat s8.W (a + 1).toNat = 0 := by
      rw [oo (a + 1) (by omega) (by omega) (by omega) (by omega), eW3]
      exact oat_set_eq (by omega) (by rw [List.length_set]; omega)
    have oc : ∀ c, 18 ≤ c → c ≠ L → c ≠ q.a + 1 → c ≠ q.a + 2 → c ≠ a → c ≠ a + 1 → oat s8.W c.toNat = oat s.W c.toNat := fun c h0 h1 h2 h3 h4 h5 => by rw [oo c h0 h1 h2 h3, o3 c h0 h4 h5]
    have e : nx s8 = nx s1 := by
      show oat s8.W 0 = oat s1.W 0
      have z : (0 : Int).toNat = 0 := rfl
      rw [hW, oat_ne (by omega), oat_ne (by omega), oat_ne (by omega), eW3, oat_ne (by omega), oat_ne (by omega)]
    refine .inr ⟨a, bk', s8, r1, ?_, h2, m7.perm (pcq_snoc q a R), h4.perm (pcq_snoc q a R), ?_, ⟨w0, by rw [hlen]; omega, by rw [oq2]; simp, by have p := nd_len 1000 q.ns ap.nd (fun n hn => by have := bn n hn; omega); simp; omega, ?_, by rw [oq1, lastL_snoc]⟩, ?_, fun c hc => ?_, hlen.trans h7, ⟨by omega, by omega⟩, g7.more (by omega) hK, h9.more (by omega) hK, by rw [e]; exact h10⟩
    · unfold Wd.qput
      rw [bnd_ok h1, bnd_ok (putsU_of k1), bnd_ok hang]
      exact hrec
    · skip
      rw [e]
      exact h5
    · by_cases hns : q.ns = []
      · have e := hnil hns
        rw [hns]
        rw [e] at oL
        exact ⟨oL, by omega, by rw [hlen]; omega, oa1⟩
      · obtain ⟨e1, m, hm, e2, e3⟩ := hcons hns
        have hq0 : oat s8.W q.a.toNat = oat s.W q.a.toNat := oc q.a (by omega) (nq m hm L (by omega) (by omega) q.a (by omega) (by omega)).symm (by omega) (by omega) (qa1 q.a (by omega) (by omega)).1 (qa1 q.a (by omega) (by omega)).2
        rw [hq0]
        obtain ⟨n, ns, hnn⟩ := List.exists_cons_of_ne_nil hns
        have lks := wk
        rw [hnn] at lks ⊢
        refine lk_snoc (hlen.trans h7) (by omega) (by omega) oa1 (by rw [← hnn]; exact ap.nd) lks (fun k hk hkl => ?_) (by rw [← hnn, ← e1]; exact oL)
        rw [← hnn] at hk hkl
        have bk := bn k hk
        have t1 := nq k hk (k + 1) (by omega) (by omega) (q.a + 1) (by omega) (by omega)
        have t2 := nq k hk (k + 1) (by omega) (by omega) (q.a + 2) (by omega) (by omega)
        have t3 := na1 k hk (k + 1) (by omega) (by omega)
        exact oc (k + 1) (by omega) (by rw [e1]; exact hkl) t1 t2 t3.1 t3.2
    · unfold Qu.ws
      rw [List.map_append]
      show _ = _ ++ [x]
      rw [List.map_singleton, oa]
      congr 1
      refine List.map_congr_left fun k hk => ?_
      have bk := bn k hk
      have t1 := nq k hk k (by omega) (by omega) (q.a + 1) (by omega) (by omega)
      have t2 := nq k hk k (by omega) (by omega) (q.a + 2) (by omega) (by omega)
      have t3 := na1 k hk k (by omega) (by omega)
      have t4 : k ≠ L := by
        by_cases hns : q.ns = []
        · rw [hns] at hk; simp at hk
        · obtain ⟨_, m, hm, e2, _⟩ := hcons hns
          by_cases hkm : k = m
          · omega
          · exact pd_ne (ap.nn k hk m hm hkm) (c := k) (c' := L) (by show k ≤ k; omega) (by show k < k + 2; omega) (by show m ≤ L; omega) (by show L < m + 2; omega)
      exact oc k (by omega) t4 t1 t2 t3.1 t3.2
    · obtain ⟨p, hp, c1, c2⟩ := hc
      have bp := hs.inb (a := p.1) (n := p.2) (List.mem_append_right _ hp)
      have t0 := pda p (List.mem_append_right _ hp)
      have t1 := ap.qR p hp
      have t2 : c ≠ L := by
        by_cases hns : q.ns = []
        · rw [hnil hns]
          exact (pd_ne t1 (c := q.a) (c' := c) (by show q.a ≤ q.a; omega) (by show q.a < q.a + 3; omega) c1 c2).symm
        · obtain ⟨_, m, hm, e2, _⟩ := hcons hns
          exact (pd_ne (ap.nR m hm p hp) (c := L) (c' := c) (by show m ≤ L; omega) (by show L < m + 2; omega) c1 c2).symm
      have t3 := pd_ne t1 (c := q.a + 1) (c' := c) (by show q.a ≤ q.a + 1; omega) (by show q.a + 1 < q.a + 3; omega) c1 c2
      have t4 := pd_ne t1 (c := q.a + 2) (c' := c) (by show q.a ≤ q.a + 2; omega) (by show q.a + 2 < q.a + 3; omega) c1 c2
      have t5 := pd_ne t0 (c := a) (c' := c) (by show a ≤ a; omega) (by show a < a + 2; omega) c1 c2
      have t6 := pd_ne t0 (c := a + 1) (c' := c) (by show a ≤ a + 1; omega) (by show a + 1 < a + 2; omega) c1 c2
      exact oc c (by omega) t2 t3.symm t4.symm t5.symm t6.symm
end
end Go.Proofs.Ytadbplbifjeghaa
