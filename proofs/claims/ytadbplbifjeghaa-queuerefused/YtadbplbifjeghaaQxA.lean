
/- Pure (layer 23): a room whose pieces are out or given back, and what its calls do to it. No statement of the seat is proved here. -/
import Derived.Test.YtadbplbifjeghaaQwA
import Derived.Test.YtadbplbifjeghaaQuG
namespace Go.Proofs.Ytadbplbifjeghaa
open Go.RowKit

/-- A list of pieces by its first cells. -/
def chain (W : List Int) : Int → List Int → Prop
  | h, [] => h = 0
  | h, a :: r => h = a + 1 ∧ chain W (oat W a.toNat) r
theorem chain_same {W W' : List Int} : ∀ {l : List Int} {h : Int}, (∀ a ∈ l, oat W' a.toNat = oat W a.toNat) → chain W h l → chain W' h l
  | [], _, _, q => q
  | a :: r, h, hs, q => ⟨q.1, by rw [hs a (by simp)]; exact chain_same (fun b hb => hs b (by simp [hb])) q.2⟩

/-- Two pieces have no cell in common. -/
def PD (p q : Int × Int) : Prop := p.1 + p.2 ≤ q.1 ∨ q.1 + q.2 ≤ p.1
theorem PD.symm {p q : Int × Int} (h : PD p q) : PD q p := h.elim .inr .inl

/-- A room: its words, from where to where, the pieces that are out, those that were given back, by size. -/
structure Rm (s : Wd) (fr to : Int) (O : List (Int × Int)) (bk : Nat → List Int) : Prop where
  len : (s.W.length : Int) = to
  fr0 : 18 ≤ fr
  to1 : to ≤ 1000
  w1 : oat s.W 1 = to
  nx0 : fr ≤ oat s.W 0
  nx1 : oat s.W 0 ≤ to
  oin : ∀ p ∈ O, fr ≤ p.1 ∧ mayN p.2 ∧ p.1 + p.2 ≤ oat s.W 0
  bin : ∀ n : Nat, 1 ≤ n → n ≤ 16 → ∀ a ∈ bk n, fr ≤ a ∧ a + n ≤ oat s.W 0
  oo : O.Pairwise PD
  ob : ∀ p ∈ O, ∀ n : Nat, 1 ≤ n → n ≤ 16 → ∀ a ∈ bk n, PD p (a, n)
  bs : ∀ n : Nat, 1 ≤ n → n ≤ 16 → (bk n).Pairwise fun a b => PD (a, n) (b, n)
  bb : ∀ n m : Nat, 1 ≤ n → n ≤ 16 → 1 ≤ m → m ≤ 16 → n ≠ m → ∀ a ∈ bk n, ∀ b ∈ bk m, PD (a, (n : Int)) (b, (m : Int))
  ch : ∀ n : Nat, 1 ≤ n → n ≤ 16 → chain s.W (oat s.W (1 + n)) (bk n).reverse

def nx (s : Wd) : Int := oat s.W 0

section
variable {s : Wd} {fr to K : Int} {O : List (Int × Int)} {bk : Nat → List Int}

theorem Rm.to18 (h : Rm s fr to O bk) : 18 ≤ to := by have := h.fr0; have := h.nx0; have := h.nx1; omega
/-- Left. -/
theorem Rm.lft (h : Rm s fr to O bk) (hk : Lk s K) (hK : K + 2 < 4611686018427387904) : s.lft 0 = ((to - nx s, 0), s.dec.dec) := by
  have hto := h.to18
  have h0 := h.nx0
  have h1 := h.nx1
  have h2 := h.fr0
  have h3 := h.to1
  have g1 := get_in (a := 0) hk (by omega) (by rw [h.len]; omega)
  have g2 := get_in (s := s.dec) (a := 1) (hk.dec (by omega)) (by omega) (by show (1 : Int) < (s.W.length : Int); rw [h.len]; omega)
  have g3 : oat s.dec.W (1 : Int).toNat = to := h.w1
  unfold Wd.lft Wd.free
  rw [endA0, g1]
  simp only [ne_eq, not_true_eq_false, if_false]
  rw [g2]
  simp only [not_true_eq_false, if_false, g3]
  have e : oat s.W (0 : Int).toNat = nx s := rfl
  rw [e]
  by_cases hlt : nx s < to
  · rw [if_pos hlt, uw_of (by omega) (by unfold nx at *; omega)]
  · rw [if_neg hlt]
    have : to - nx s = 0 := by unfold nx at *; omega
    rw [this]

theorem Rm.dec (h : Rm s fr to O bk) : Rm s.dec fr to O bk := ⟨h.len, h.fr0, h.to1, h.w1, h.nx0, h.nx1, h.oin, h.bin, h.oo, h.ob, h.bs, h.bb, h.ch⟩
theorem nx_dec : nx s.dec = nx s := rfl

/-- Take where none was given back: the refusal. -/
theorem Rm.take_no (h : Rm s fr to O bk) (hk : Lk s K) (hK : K + 3 < 4611686018427387904) (n : Nat) (hn1 : 1 ≤ n) (hn2 : n ≤ 16) (he : bk n = []) (hl : to - nx s < n) : s.take 0 n = ((0, 9), s.dec.dec.dec) := by
  have hto := h.to18
  have hm : mayN (n : Int) := ⟨by omega, by omega⟩
  have h0 : oat s.W (1 + n) = 0 := by have := h.ch n hn1 hn2; rw [he] at this; exact this
  have g1 := get_in (a := hdA 0 n) hk (by rw [hdA0 hm]; omega) (by rw [hdA0 hm, h.len]; omega)
  have e1 : oat s.W (hdA 0 n).toNat = 0 := by rw [hdA0 hm, show (1 + (n : Int)).toNat = 1 + n by omega]; exact h0
  have q := (h.dec).lft (hk.dec (by omega)) (by omega)
  unfold Wd.lft at q
  injection q with q1 q2
  injection q1 with q3 q4
  unfold Wd.take
  rw [if_neg (by simpa using hm), g1, e1]
  simp only [ne_eq, not_true_eq_false, if_false, if_true]
  unfold Wd.takeN
  rw [q4, q3, q2, if_neg (by simp), if_pos (by rw [nx_dec]; exact hl)]

/-- Take of new cells. -/
theorem Rm.take_new (h : Rm s fr to O bk) (hk : Lk s K) (hK : K + 4 < 4611686018427387904) (n : Nat) (hn1 : 1 ≤ n) (hn2 : n ≤ 16) (he : bk n = []) (hl : n ≤ to - nx s) : s.take 0 n = ((nx s, 0), ud s.dec.dec.dec.dec (s.W.set 0 (nx s + n))) := by
  have hto := h.to18
  have hm : mayN (n : Int) := ⟨by omega, by omega⟩
  have a0 := h.nx0
  have a1 := h.nx1
  have a2 := h.fr0
  have a3 := h.to1
  have h0 : oat s.W (1 + n) = 0 := by have := h.ch n hn1 hn2; rw [he] at this; exact this
  have g1 := get_in (a := hdA 0 n) hk (by rw [hdA0 hm]; omega) (by rw [hdA0 hm, h.len]; omega)
  have e1 : oat s.W (hdA 0 n).toNat = 0 := by rw [hdA0 hm, show (1 + (n : Int)).toNat = 1 + n by omega]; exact h0
  have q := (h.dec).lft (hk.dec (by omega)) (by omega)
  have qf : (s.dec.free 0).1.1 = nx s := by
    have g1' := get_in (s := s.dec) (a := 0) (hk.dec (by omega)) (by omega) (by show (0 : Int) < (s.W.length : Int); rw [h.len]; omega)
    have g2' := get_in (s := s.dec.dec) (a := 1) ((hk.dec (by omega)).dec (by omega)) (by omega) (by show (1 : Int) < (s.W.length : Int); rw [h.len]; omega)
    unfold Wd.free
    rw [endA0, g1']
    simp only [ne_eq, not_true_eq_false, if_false]
    rw [g2']
    simp only [not_true_eq_false, if_false]
    rfl
  unfold Wd.lft at q
  injection q with q1 q2
  injection q1 with q3 q4
  have hw : uw (nx s + n) = nx s + n := uw_of (by unfold nx; omega) (by unfold nx at *; omega)
  have p1 := put_in (s := s.dec.dec.dec) (K := K + 1 + 1 + 1) (a := 0) (x := nx s + n) (((hk.dec (by omega)).dec (by omega)).dec (by omega)) (by omega) (by show (0 : Int) < (s.W.length : Int); rw [h.len]; omega)
  unfold Wd.take
  rw [if_neg (by simpa using hm), g1, e1]
  simp only [ne_eq, not_true_eq_false, if_false, if_true]
  unfold Wd.takeN
  rw [q4, q3, q2, qf, hw, p1, if_neg (by simp), if_neg (by rw [nx_dec]; omega), if_neg (by simp)]
  rfl

/-- Take of a piece that was given back. -/
theorem Rm.take_old (h : Rm s fr to O bk) (hk : Lk s K) (hK : K + 4 < 4611686018427387904) (n : Nat) (hn1 : 1 ≤ n) (hn2 : n ≤ 16) (a : Int) (r : List Int) (he : bk n = r ++ [a]) : s.take 0 n = ((a, 0), ud s.dec.dec.dec (s.W.set (1 + n) (oat s.W a.toNat))) := by
  have hto := h.to18
  have hm : mayN (n : Int) := ⟨by omega, by omega⟩
  have a0 := h.nx0
  have a1 := h.nx1
  have a2 := h.fr0
  have a3 := h.to1
  have hin := h.bin n hn1 hn2 a (by rw [he]; simp)
  have h0 : oat s.W (1 + n) = a + 1 := by have := h.ch n hn1 hn2; rw [he, List.reverse_append] at this; exact this.1
  have g1 := get_in (a := hdA 0 n) hk (by rw [hdA0 hm]; omega) (by rw [hdA0 hm, h.len]; omega)
  have e1 : oat s.W (hdA 0 n).toNat = a + 1 := by rw [hdA0 hm, show (1 + (n : Int)).toNat = 1 + n by omega]; exact h0
  have hw : uw (a + 1 - 1) = a := by rw [show a + 1 - 1 = a by omega]; exact uw_of (by omega) (by omega)
  have g2 := get_in (s := s.dec) (a := a) (hk.dec (by omega)) (by omega) (by show a < (s.W.length : Int); rw [h.len]; omega)
  have p1 := put_in (s := s.dec.dec) (K := K + 1 + 1) (a := hdA 0 n) (x := oat s.W a.toNat) ((hk.dec (by omega)).dec (by omega)) (by rw [hdA0 hm]; omega) (by show hdA 0 n < (s.W.length : Int); rw [hdA0 hm, h.len]; omega)
  unfold Wd.take
  rw [if_neg (by simpa using hm), g1, e1]
  simp only [ne_eq, not_true_eq_false, if_false]
  rw [if_neg (by omega), hw]
  unfold Wd.takeG
  rw [g2]
  simp only [ne_eq, not_true_eq_false, if_false]
  have p2 : s.dec.dec.put (hdA 0 n) (oat s.dec.W a.toNat) = _ := p1
  rw [p2, hdA0 hm, show (1 + (n : Int)).toNat = 1 + n by omega]
  simp only [not_true_eq_false, if_false]
  rfl

/-- Give. -/
theorem Rm.give_ok (h : Rm s fr to O bk) (hk : Lk s K) (hK : K + 4 < 4611686018427387904) (n : Nat) (hn1 : 1 ≤ n) (hn2 : n ≤ 16) (a : Int) (hin : (a, (n : Int)) ∈ O) : s.give 0 a n = (0, ud s.dec.dec.dec ((s.W.set a.toNat (oat s.W (1 + n))).set (1 + n) (a + 1))) := by
  have hto := h.to18
  have hm : mayN (n : Int) := ⟨by omega, by omega⟩
  have a1 := h.nx1
  have a2 := h.fr0
  have a3 := h.to1
  have hi := h.oin _ hin
  dsimp only at hi
  have g1 := get_in (a := hdA 0 n) hk (by rw [hdA0 hm]; omega) (by rw [hdA0 hm, h.len]; omega)
  have e1 : oat s.W (hdA 0 n).toNat = oat s.W (1 + n) := by rw [hdA0 hm, show (1 + (n : Int)).toNat = 1 + n by omega]
  have p1 := put_in (s := s.dec) (K := K + 1) (a := a) (x := oat s.W (1 + n)) (hk.dec (by omega)) (by omega) (by show a < (s.W.length : Int); rw [h.len]; omega)
  have hw : uw (a + 1) = a + 1 := uw_of (by omega) (by omega)
  have p2 := put_in (s := ud s.dec.dec (s.W.set a.toNat (oat s.W (1 + n)))) (K := K + 1 + 1) (a := hdA 0 n) (x := a + 1) ((hk.dec (by omega)).dec (by omega)) (by rw [hdA0 hm]; omega) (by show hdA 0 n < ((s.W.set a.toNat (oat s.W (1 + n))).length : Int); rw [hdA0 hm, List.length_set, h.len]; omega)
  unfold Wd.give
  rw [if_neg (by simpa using hm), g1, e1]
  simp only [ne_eq, not_true_eq_false, if_false]
  rw [p1]
  simp only [not_true_eq_false, if_false]
  rw [hw]
  have p3 : ({ s.dec.dec with W := s.dec.W.set a.toNat (oat s.W (1 + n)) } : Wd).put (hdA 0 n) (a + 1) = _ := p2
  rw [p3, hdA0 hm, show (1 + (n : Int)).toNat = 1 + n by omega]
  rfl
end
def updL (f : Nat → List Int) (n : Nat) (v : List Int) : Nat → List Int := fun m => if m = n then v else f m
theorem updL_same (f : Nat → List Int) (n : Nat) (v : List Int) : updL f n v n = v := by unfold updL; rw [if_pos rfl]
theorem updL_other (f : Nat → List Int) {n m : Nat} (v : List Int) (h : m ≠ n) : updL f n v m = f m := by unfold updL; rw [if_neg h]

section
variable {s : Wd} {fr to K : Int} {O : List (Int × Int)} {bk : Nat → List Int}

theorem oat_ne {l : List Int} {i j : Nat} {x : Int} (h : i ≠ j) : oat (l.set i x) j = oat l j := by rw [oat_set, if_neg (fun e => h e.1)]
theorem oat_eq {l : List Int} {i : Nat} {x : Int} (h : i < l.length) : oat (l.set i x) i = x := by rw [oat_set, if_pos ⟨rfl, h⟩]
theorem Rm.bk_low (h : Rm s fr to O bk) {n : Nat} (h1 : 1 ≤ n) (h2 : n ≤ 16) {a : Int} (ha : a ∈ bk n) : 18 ≤ a.toNat ∧ (a.toNat : Int) = a ∧ (a.toNat : Int) < to := by
  have hto := h.to18
  have q := h.bin n h1 h2 a ha
  have q1 := h.fr0
  have q2 := h.nx1
  have q3 := h.to1
  omega
/-- A piece that is out is written over. -/
theorem Rm.write (h : Rm s fr to O bk) {a n k x : Int} (hp : (a, n) ∈ O) (h1 : a ≤ k) (h2 : k < a + n) : Rm (ud s (s.W.set k.toNat x)) fr to O bk := by
  have hto := h.to18
  have hi := h.oin _ hp
  dsimp only at hi
  have q1 := h.fr0
  have q2 := h.nx1
  have q3 := h.to1
  have hk : 18 ≤ k.toNat := by omega
  have e : ∀ j, j < 18 → oat (s.W.set k.toNat x) j = oat s.W j := fun j hj => oat_ne (by omega)
  refine ⟨by show ((s.W.set k.toNat x).length : Int) = to; rw [List.length_set]; exact h.len, h.fr0, h.to1, (e 1 (by omega)).trans h.w1, by show fr ≤ oat (s.W.set k.toNat x) 0; rw [e 0 (by omega)]; exact h.nx0, by show oat (s.W.set k.toNat x) 0 ≤ to; rw [e 0 (by omega)]; exact h.nx1, fun p hp' => by show fr ≤ p.1 ∧ mayN p.2 ∧ p.1 + p.2 ≤ oat (s.W.set k.toNat x) 0; rw [e 0 (by omega)]; exact h.oin p hp', fun m m1 m2 b hb => by show fr ≤ b ∧ b + m ≤ oat (s.W.set k.toNat x) 0; rw [e 0 (by omega)]; exact h.bin m m1 m2 b hb, h.oo, h.ob, h.bs, h.bb, fun m m1 m2 => ?_⟩
  show chain (s.W.set k.toNat x) (oat (s.W.set k.toNat x) (1 + m)) _
  rw [e (1 + m) (by omega)]
  refine chain_same (fun b hb => oat_ne ?_) (h.ch m m1 m2)
  have hb' : b ∈ bk m := by simpa using hb
  have d := h.ob _ hp m m1 m2 b hb'
  have l := h.bk_low m1 m2 hb'
  unfold PD at d
  dsimp only at d
  omega
/-- New cells are taken. -/
theorem Rm.took_new (h : Rm s fr to O bk) (n : Nat) (hn1 : 1 ≤ n) (hn2 : n ≤ 16) (hl : n ≤ to - nx s) (s' : Wd) (hs : s'.W = s.W.set 0 (nx s + n)) : Rm s' fr to (O ++ [(nx s, (n : Int))]) bk ∧ ∀ p ∈ O, PD p (nx s, n) := by
  have hto := h.to18
  have l0 : 0 < s.W.length := by have := h.len; omega
  have e0 : oat s'.W 0 = nx s + n := by rw [hs]; exact oat_eq l0
  have e : ∀ j, j ≠ 0 → oat s'.W j = oat s.W j := fun j hj => by rw [hs]; exact oat_ne (Ne.symm hj)
  have hpd : ∀ p ∈ O, PD p (nx s, n) := fun p hp => .inl (h.oin p hp).2.2
  refine ⟨⟨by rw [hs, List.length_set]; exact h.len, h.fr0, h.to1, by rw [e 1 (by omega)]; exact h.w1, by rw [e0]; have := h.nx0; unfold nx; omega, by rw [e0]; omega, fun p hp => ?_, fun m m1 m2 b hb => ?_, ?_, fun p hp m m1 m2 b hb => ?_, h.bs, h.bb, fun m m1 m2 => ?_⟩, hpd⟩
  · rw [e0]
    rcases List.mem_append.1 hp with hp | hp
    · have q := h.oin p hp
      have : oat s.W 0 = nx s := rfl
      exact ⟨q.1, q.2.1, by have := q.2.2; unfold nx; omega⟩
    · obtain rfl : p = (nx s, (n : Int)) := by simpa using hp
      exact ⟨h.nx0, ⟨by show (1 : Int) ≤ n; omega, by show (n : Int) ≤ 16; omega⟩, by show nx s + n ≤ nx s + n; omega⟩
  · rw [e0]
    have q := h.bin m m1 m2 b hb
    exact ⟨q.1, by have := q.2; unfold nx; omega⟩
  · rw [List.pairwise_append]
    refine ⟨h.oo, List.pairwise_singleton _ _, fun p hp q hq => ?_⟩
    obtain rfl : q = (nx s, (n : Int)) := by simpa using hq
    exact hpd p hp
  · rcases List.mem_append.1 hp with hp | hp
    · exact h.ob p hp m m1 m2 b hb
    · obtain rfl : p = (nx s, (n : Int)) := by simpa using hp
      exact .inr (h.bin m m1 m2 b hb).2
  · rw [e (1 + m) (by omega)]
    refine chain_same (fun b hb => ?_) (h.ch m m1 m2)
    have hb' : b ∈ bk m := by simpa using hb
    have l := h.bk_low m1 m2 hb'
    exact e _ (by omega)
/-- A piece that was given back is taken. -/
theorem Rm.took_old (h : Rm s fr to O bk) (n : Nat) (hn1 : 1 ≤ n) (hn2 : n ≤ 16) (a : Int) (r : List Int) (he : bk n = r ++ [a]) (s' : Wd) (hs : s'.W = s.W.set (1 + n) (oat s.W a.toNat)) : Rm s' fr to (O ++ [(a, (n : Int))]) (updL bk n r) ∧ (∀ p ∈ O, PD p (a, n)) ∧ fr ≤ a ∧ a + n ≤ to := by
  have hto := h.to18
  have ha : a ∈ bk n := by rw [he]; simp
  have hin := h.bin n hn1 hn2 a ha
  have q2 := h.nx1
  have l0 : 1 + n < s.W.length := by have := h.len; omega
  have eh : oat s'.W (1 + n) = oat s.W a.toNat := by rw [hs]; exact oat_eq l0
  have e : ∀ j, j ≠ 1 + n → oat s'.W j = oat s.W j := fun j hj => by rw [hs]; exact oat_ne (Ne.symm hj)
  have e0 := e 0 (by omega)
  have hpd : ∀ p ∈ O, PD p (a, n) := fun p hp => h.ob p hp n hn1 hn2 a ha
  have sub : ∀ m b, b ∈ updL bk n r m → b ∈ bk m := fun m b hb => by
    by_cases hm : m = n
    · subst hm; rw [updL_same] at hb; rw [he]; simp [hb]
    · rw [updL_other _ _ hm] at hb; exact hb
  have bsn := h.bs n hn1 hn2
  rw [he, List.pairwise_append] at bsn
  refine ⟨⟨by rw [hs, List.length_set]; exact h.len, h.fr0, h.to1, by rw [e 1 (by omega)]; exact h.w1, by rw [e0]; exact h.nx0, by rw [e0]; exact h.nx1, fun p hp => ?_, fun m m1 m2 b hb => ?_, ?_, fun p hp m m1 m2 b hb => ?_, fun m m1 m2 => ?_, fun m k m1 m2 k1 k2 hmk x hx y hy => h.bb m k m1 m2 k1 k2 hmk x (sub m x hx) y (sub k y hy), fun m m1 m2 => ?_⟩, hpd, hin.1, by omega⟩
  · rw [e0]
    rcases List.mem_append.1 hp with hp | hp
    · exact h.oin p hp
    · obtain rfl : p = (a, (n : Int)) := by simpa using hp
      exact ⟨hin.1, ⟨by show (1 : Int) ≤ n; omega, by show (n : Int) ≤ 16; omega⟩, hin.2⟩
  · rw [e0]
    exact h.bin m m1 m2 b (sub m b hb)
  · rw [List.pairwise_append]
    refine ⟨h.oo, List.pairwise_singleton _ _, fun p hp q hq => ?_⟩
    obtain rfl : q = (a, (n : Int)) := by simpa using hq
    exact hpd p hp
  · rcases List.mem_append.1 hp with hp | hp
    · exact h.ob p hp m m1 m2 b (sub m b hb)
    · obtain rfl : p = (a, (n : Int)) := by simpa using hp
      by_cases hm : m = n
      · subst hm
        rw [updL_same] at hb
        exact (bsn.2.2 b hb a (by simp)).symm
      · exact (h.bb n m hn1 hn2 m1 m2 (Ne.symm hm) a ha b (sub m b hb))
  · by_cases hm : m = n
    · subst hm; rw [updL_same]; exact bsn.1
    · rw [updL_other _ _ hm]; exact h.bs m m1 m2
  · have low : ∀ b ∈ bk m, oat s'.W b.toNat = oat s.W b.toNat := fun b hb => e _ (by have := h.bk_low m1 m2 hb; omega)
    by_cases hm : m = n
    · subst hm
      rw [updL_same, eh]
      have c := h.ch m m1 m2
      rw [he, List.reverse_append] at c
      exact chain_same (fun b hb => low b (by rw [he]; simp at hb; simp [hb])) c.2
    · rw [updL_other _ _ hm, e (1 + m) (by omega)]
      exact chain_same (fun b hb => low b (by simpa using hb)) (h.ch m m1 m2)
/-- A piece is given back. -/
theorem Rm.gave (h : Rm s fr to O bk) (n : Nat) (hn1 : 1 ≤ n) (hn2 : n ≤ 16) (a : Int) (k : Nat) (hk : O[k]? = some (a, (n : Int))) (s' : Wd) (hs : s'.W = (s.W.set a.toNat (oat s.W (1 + n))).set (1 + n) (a + 1)) : Rm s' fr to (O.eraseIdx k) (updL bk n (bk n ++ [a])) := by
  have hto := h.to18
  obtain ⟨hkl, hke⟩ := List.getElem?_eq_some_iff.1 hk
  have hmem : (a, (n : Int)) ∈ O := List.mem_of_getElem? hk
  have hin := h.oin _ hmem
  dsimp only at hin
  have q1 := h.fr0
  have q2 := h.nx1
  have q3 := h.to1
  have hsub : ∀ p ∈ O.eraseIdx k, p ∈ O := fun p hp => (List.eraseIdx_sublist O k).subset hp
  have hother : ∀ p ∈ O.eraseIdx k, PD p (a, n) := fun p hp => by
    obtain ⟨i, hik, hi⟩ := List.mem_eraseIdx_iff_getElem?.1 hp
    obtain ⟨hil, hie⟩ := List.getElem?_eq_some_iff.1 hi
    have pw := List.pairwise_iff_getElem.1 h.oo
    rcases Nat.lt_or_ge i k with hlt | hge
    · have := pw i k hil hkl hlt
      rw [hie, hke] at this
      exact this
    · have := pw k i hkl hil (by omega)
      rw [hie, hke] at this
      exact this.symm
  have lh : 1 + n < (s.W.set a.toNat (oat s.W (1 + n))).length := by rw [List.length_set]; have := h.len; omega
  have la : a.toNat < s.W.length := by have := h.len; omega
  have eh : oat s'.W (1 + n) = a + 1 := by rw [hs]; exact oat_eq lh
  have ea : oat s'.W a.toNat = oat s.W (1 + n) := by rw [hs, oat_ne (by omega)]; exact oat_eq la
  have e : ∀ j, j ≠ 1 + n → j ≠ a.toNat → oat s'.W j = oat s.W j := fun j h1 h2 => by rw [hs, oat_ne (Ne.symm h1)]; exact oat_ne (Ne.symm h2)
  have e0 := e 0 (by omega) (by omega)
  have mem : ∀ m b, b ∈ updL bk n (bk n ++ [a]) m → b ∈ bk m ∨ (m = n ∧ b = a) := fun m b hb => by
    by_cases hm : m = n
    · subst hm
      rw [updL_same] at hb
      rcases List.mem_append.1 hb with hb | hb
      · exact .inl hb
      · exact .inr ⟨rfl, by simpa using hb⟩
    · rw [updL_other _ _ hm] at hb; exact .inl hb
  refine ⟨by rw [hs, List.length_set, List.length_set]; exact h.len, h.fr0, h.to1, by rw [e 1 (by omega) (by omega)]; exact h.w1, by rw [e0]; exact h.nx0, by rw [e0]; exact h.nx1, fun p hp => by rw [e0]; exact h.oin p (hsub p hp), fun m m1 m2 b hb => ?_, h.oo.sublist (List.eraseIdx_sublist O k), fun p hp m m1 m2 b hb => ?_, fun m m1 m2 => ?_, fun m j m1 m2 j1 j2 hmj x hx y hy => ?_, fun m m1 m2 => ?_⟩
  · rw [e0]
    rcases mem m b hb with hb | ⟨rfl, rfl⟩
    · exact h.bin m m1 m2 b hb
    · exact ⟨hin.1, hin.2.2⟩
  · rcases mem m b hb with hb | ⟨rfl, rfl⟩
    · exact h.ob p (hsub p hp) m m1 m2 b hb
    · exact hother p hp
  · by_cases hm : m = n
    · subst hm
      rw [updL_same, List.pairwise_append]
      refine ⟨h.bs m m1 m2, List.pairwise_singleton _ _, fun x hx y hy => ?_⟩
      obtain rfl : y = a := by simpa using hy
      exact (h.ob _ hmem m m1 m2 x hx).symm
    · rw [updL_other _ _ hm]; exact h.bs m m1 m2
  · have px := mem m x hx
    have py := mem j y hy
    clear hx hy
    rcases px with px | ⟨rfl, rfl⟩
    · rcases py with py | ⟨rfl, rfl⟩
      · exact h.bb m j m1 m2 j1 j2 hmj x px y py
      · exact (h.ob _ hmem m m1 m2 x px).symm
    · rcases py with py | ⟨rfl, _⟩
      · exact h.ob _ hmem j j1 j2 y py
      · exact absurd rfl hmj
  · have low : ∀ b ∈ bk m, oat s'.W b.toNat = oat s.W b.toNat := fun b hb => e _ (by have := h.bk_low m1 m2 hb; omega) (by
      have d := h.ob _ hmem m m1 m2 b hb
      have l := h.bk_low m1 m2 hb
      unfold PD at d
      dsimp only at d
      omega)
    by_cases hm : m = n
    · subst hm
      rw [updL_same, eh, List.reverse_append]
      refine ⟨rfl, ?_⟩
      rw [ea]
      exact chain_same (fun b hb => low b (by simpa using hb)) (h.ch m m1 m2)
    · rw [updL_other _ _ hm, e (1 + m) (by omega) (by omega)]
      exact chain_same (fun b hb => low b (by simpa using hb)) (h.ch m m1 m2)
end
end Go.Proofs.Ytadbplbifjeghaa
