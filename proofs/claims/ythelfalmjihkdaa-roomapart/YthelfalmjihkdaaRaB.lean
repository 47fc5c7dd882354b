
/- Pure (layer 20, RoomApart): what is left of a room behind each of its calls. No statement of the seat is proved here. -/
import Derived.Test.YthelfalmjihkdaaRaA
namespace Go.Proofs.Ythelfalmjihkdaa
open Go.RowKit

def updL (f : Nat → List Int) (n : Nat) (v : List Int) : Nat → List Int := fun m => if m = n then v else f m
theorem updL_same (f : Nat → List Int) (n : Nat) (v : List Int) : updL f n v n = v := by unfold updL; rw [if_pos rfl]
theorem updL_other (f : Nat → List Int) {n m : Nat} (v : List Int) (h : m ≠ n) : updL f n v m = f m := by unfold updL; rw [if_neg h]

section
variable {s : Wd} {fr to K : Int} {O : List (Int × Int)} {bk : Nat → List Int}

theorem oat_ne {l : List Int} {i j : Nat} {x : Int} (h : i ≠ j) : oat (l.set i x) j = oat l j := by rw [oat_set, if_neg (fun e => h e.1)]
theorem oat_eq {l : List Int} {i : Nat} {x : Int} (h : i < l.length) : oat (l.set i x) i = x := by rw [oat_set, if_pos ⟨rfl, h⟩]
theorem Rm.bk_low (h : Rm s fr to O bk) {n : Nat} (h1 : 1 ≤ n) (h2 : n ≤ 16) {a : Int} (ha : a ∈ bk n) : 18 ≤ a.toNat ∧ (a.toNat : Int) = a ∧ a.toNat < 300 := by
  have q := h.bin n h1 h2 a ha
  have q1 := h.fr0
  have q2 := h.nx1
  have q3 := h.to1
  omega
/-- A piece that is out is written over. -/
theorem Rm.write (h : Rm s fr to O bk) {a n k x : Int} (hp : (a, n) ∈ O) (h1 : a ≤ k) (h2 : k < a + n) : Rm (ud s (s.W.set k.toNat x)) fr to O bk := by
  have hi := h.oin _ hp
  dsimp only at hi
  have q1 := h.fr0
  have q2 := h.nx1
  have q3 := h.to1
  have hk : 18 ≤ k.toNat := by omega
  have e : ∀ j, j < 18 → oat (s.W.set k.toNat x) j = oat s.W j := fun j hj => oat_ne (by omega)
  refine ⟨by show (s.W.set k.toNat x).length = 300; rw [List.length_set]; exact h.len, h.fr0, h.to1, (e 1 (by omega)).trans h.w1, by show fr ≤ oat (s.W.set k.toNat x) 0; rw [e 0 (by omega)]; exact h.nx0, by show oat (s.W.set k.toNat x) 0 ≤ to; rw [e 0 (by omega)]; exact h.nx1, fun p hp' => by show fr ≤ p.1 ∧ mayN p.2 ∧ p.1 + p.2 ≤ oat (s.W.set k.toNat x) 0; rw [e 0 (by omega)]; exact h.oin p hp', fun m m1 m2 b hb => by show fr ≤ b ∧ b + m ≤ oat (s.W.set k.toNat x) 0; rw [e 0 (by omega)]; exact h.bin m m1 m2 b hb, h.oo, h.ob, h.bs, h.bb, fun m m1 m2 => ?_⟩
  show chain (s.W.set k.toNat x) (oat (s.W.set k.toNat x) (1 + m)) _
  rw [e (1 + m) (by omega)]
  refine chain_same (fun b hb => oat_ne ?_) (h.ch m m1 m2)
  have hb' : b ∈ bk m := by simpa using hb
  have d := h.ob _ hp m m1 m2 b hb'
  have l := h.bk_low m1 m2 hb'
  unfold PD at d
  dsimp only at d
  omega
/-- New cells are taken. -/
theorem Rm.took_new (h : Rm s fr to O bk) (n : Nat) (hn1 : 1 ≤ n) (hn2 : n ≤ 16) (hl : n ≤ to - nx s) (s' : Wd) (hs : s'.W = s.W.set 0 (nx s + n)) : Rm s' fr to (O ++ [(nx s, (n : Int))]) bk ∧ ∀ p ∈ O, PD p (nx s, n) := by
  have l0 : 0 < s.W.length := by rw [h.len]; omega
  have e0 : oat s'.W 0 = nx s + n := by rw [hs]; exact oat_eq l0
  have e : ∀ j, j ≠ 0 → oat s'.W j = oat s.W j := fun j hj => by rw [hs]; exact oat_ne (Ne.symm hj)
  have hpd : ∀ p ∈ O, PD p (nx s, n) := fun p hp => .inl (h.oin p hp).2.2
  refine ⟨⟨by rw [hs, List.length_set]; exact h.len, h.fr0, h.to1, by rw [e 1 (by omega)]; exact h.w1, by rw [e0]; have := h.nx0; unfold nx; omega, by rw [e0]; omega, fun p hp => ?_, fun m m1 m2 b hb => ?_, ?_, fun p hp m m1 m2 b hb => ?_, h.bs, h.bb, fun m m1 m2 => ?_⟩, hpd⟩
  · rw [e0]
    rcases List.mem_append.1 hp with hp | hp
    · have q := h.oin p hp
      have : oat s.W 0 = nx s := rfl
      exact ⟨q.1, q.2.1, by have := q.2.2; unfold nx; omega⟩
    · obtain rfl : p = (nx s, (n : Int)) := by simpa using hp
      exact ⟨h.nx0, ⟨by show (1 : Int) ≤ n; omega, by show (n : Int) ≤ 16; omega⟩, by show nx s + n ≤ nx s + n; omega⟩
  · rw [e0]
    have q := h.bin m m1 m2 b hb
    exact ⟨q.1, by have := q.2; unfold nx; omega⟩
  · rw [List.pairwise_append]
    refine ⟨h.oo, List.pairwise_singleton _ _, fun p hp q hq => ?_⟩
    obtain rfl : q = (nx s, (n : Int)) := by simpa using hq
    exact hpd p hp
  · rcases List.mem_append.1 hp with hp | hp
    · exact h.ob p hp m m1 m2 b hb
    · obtain rfl : p = (nx s, (n : Int)) := by simpa using hp
      exact .inr (h.bin m m1 m2 b hb).2
  · rw [e (1 + m) (by omega)]
    refine chain_same (fun b hb => ?_) (h.ch m m1 m2)
    have hb' : b ∈ bk m := by simpa using hb
    have l := h.bk_low m1 m2 hb'
    exact e _ (by omega)
/-- A piece that was given back is taken. -/
theorem Rm.took_old (h : Rm s fr to O bk) (n : Nat) (hn1 : 1 ≤ n) (hn2 : n ≤ 16) (a : Int) (r : List Int) (he : bk n = r ++ [a]) (s' : Wd) (hs : s'.W = s.W.set (1 + n) (oat s.W a.toNat)) : Rm s' fr to (O ++ [(a, (n : Int))]) (updL bk n r) ∧ (∀ p ∈ O, PD p (a, n)) ∧ fr ≤ a ∧ a + n ≤ to := by
  have ha : a ∈ bk n := by rw [he]; simp
  have hin := h.bin n hn1 hn2 a ha
  have q2 := h.nx1
  have l0 : 1 + n < s.W.length := by rw [h.len]; omega
  have eh : oat s'.W (1 + n) = oat s.W a.toNat := by rw [hs]; exact oat_eq l0
  have e : ∀ j, j ≠ 1 + n → oat s'.W j = oat s.W j := fun j hj => by rw [hs]; exact oat_ne (Ne.symm hj)
  have e0 := e 0 (by omega)
  have hpd : ∀ p ∈ O, PD p (a, n) := fun p hp => h.ob p hp n hn1 hn2 a ha
  have sub : ∀ m b, b ∈ updL bk n r m → b ∈ bk m := fun m b hb => by
    by_cases hm : m = n
    · subst hm; rw [updL_same] at hb; rw [he]; simp [hb]
    · rw [updL_other _ _ hm] at hb; exact hb
  have bsn := h.bs n hn1 hn2
  rw [he, List.pairwise_append] at bsn
  refine ⟨⟨by rw [hs, List.length_set]; exact h.len, h.fr0, h.to1, by rw [e 1 (by omega)]; exact h.w1, by rw [e0]; exact h.nx0, by rw [e0]; exact h.nx1, fun p hp => ?_, fun m m1 m2 b hb => ?_, ?_, fun p hp m m1 m2 b hb => ?_, fun m m1 m2 => ?_, fun m k m1 m2 k1 k2 hmk x hx y hy => h.bb m k m1 m2 k1 k2 hmk x (sub m x hx) y (sub k y hy), fun m m1 m2 => ?_⟩, hpd, hin.1, by omega⟩
  · rw [e0]
    rcases List.mem_append.1 hp with hp | hp
    · exact h.oin p hp
    · obtain rfl : p = (a, (n : Int)) := by simpa using hp
      exact ⟨hin.1, ⟨by show (1 : Int) ≤ n; omega, by show (n : Int) ≤ 16; omega⟩, hin.2⟩
  · rw [e0]
    exact h.bin m m1 m2 b (sub m b hb)
  · rw [List.pairwise_append]
    refine ⟨h.oo, List.pairwise_singleton _ _, fun p hp q hq => ?_⟩
    obtain rfl : q = (a, (n : Int)) := by simpa using hq
    exact hpd p hp
  · rcases List.mem_append.1 hp with hp | hp
    · exact h.ob p hp m m1 m2 b (sub m b hb)
    · obtain rfl : p = (a, (n : Int)) := by simpa using hp
      by_cases hm : m = n
      · subst hm
        rw [updL_same] at hb
        exact (bsn.2.2 b hb a (by simp)).symm
      · exact (h.bb n m hn1 hn2 m1 m2 (Ne.symm hm) a ha b (sub m b hb))
  · by_cases hm : m = n
    · subst hm; rw [updL_same]; exact bsn.1
    · rw [updL_other _ _ hm]; exact h.bs m m1 m2
  · have low : ∀ b ∈ bk m, oat s'.W b.toNat = oat s.W b.toNat := fun b hb => e _ (by have := h.bk_low m1 m2 hb; omega)
    by_cases hm : m = n
    · subst hm
      rw [updL_same, eh]
      have c := h.ch m m1 m2
      rw [he, List.reverse_append] at c
      exact chain_same (fun b hb => low b (by rw [he]; simp at hb; simp [hb])) c.2
    · rw [updL_other _ _ hm, e (1 + m) (by omega)]
      exact chain_same (fun b hb => low b (by simpa using hb)) (h.ch m m1 m2)
/-- A piece is given back. -/
theorem Rm.gave (h : Rm s fr to O bk) (n : Nat) (hn1 : 1 ≤ n) (hn2 : n ≤ 16) (a : Int) (k : Nat) (hk : O[k]? = some (a, (n : Int))) (s' : Wd) (hs : s'.W = (s.W.set a.toNat (oat s.W (1 + n))).set (1 + n) (a + 1)) : Rm s' fr to (O.eraseIdx k) (updL bk n (bk n ++ [a])) := by
  obtain ⟨hkl, hke⟩ := List.getElem?_eq_some_iff.1 hk
  have hmem : (a, (n : Int)) ∈ O := List.mem_of_getElem? hk
  have hin := h.oin _ hmem
  dsimp only at hin
  have q1 := h.fr0
  have q2 := h.nx1
  have q3 := h.to1
  have hsub : ∀ p ∈ O.eraseIdx k, p ∈ O := fun p hp => (List.eraseIdx_sublist O k).subset hp
  have hother : ∀ p ∈ O.eraseIdx k, PD p (a, n) := fun p hp => by
    obtain ⟨i, hik, hi⟩ := List.mem_eraseIdx_iff_getElem?.1 hp
    obtain ⟨hil, hie⟩ := List.getElem?_eq_some_iff.1 hi
    have pw := List.pairwise_iff_getElem.1 h.oo
    rcases Nat.lt_or_ge i k with hlt | hge
    · have := pw i k hil hkl hlt
      rw [hie, hke] at this
      exact this
    · have := pw k i hkl hil (by omega)
      rw [hie, hke] at this
      exact this.symm
  have lh : 1 + n < (s.W.set a.toNat (oat s.W (1 + n))).length := by rw [List.length_set, h.len]; omega
  have la : a.toNat < s.W.length := by rw [h.len]; omega
  have eh : oat s'.W (1 + n) = a + 1 := by rw [hs]; exact oat_eq lh
  have ea : oat s'.W a.toNat = oat s.W (1 + n) := by rw [hs, oat_ne (by omega)]; exact oat_eq la
  have e : ∀ j, j ≠ 1 + n → j ≠ a.toNat → oat s'.W j = oat s.W j := fun j h1 h2 => by rw [hs, oat_ne (Ne.symm h1)]; exact oat_ne (Ne.symm h2)
  have e0 := e 0 (by omega) (by omega)
  have mem : ∀ m b, b ∈ updL bk n (bk n ++ [a]) m → b ∈ bk m ∨ (m = n ∧ b = a) := fun m b hb => by
    by_cases hm : m = n
    · subst hm
      rw [updL_same] at hb
      rcases List.mem_append.1 hb with hb | hb
      · exact .inl hb
      · exact .inr ⟨rfl, by simpa using hb⟩
    · rw [updL_other _ _ hm] at hb; exact .inl hb
  refine ⟨by rw [hs, List.length_set, List.length_set]; exact h.len, h.fr0, h.to1, by rw [e 1 (by omega) (by omega)]; exact h.w1, by rw [e0]; exact h.nx0, by rw [e0]; exact h.nx1, fun p hp => by rw [e0]; exact h.oin p (hsub p hp), fun m m1 m2 b hb => ?_, h.oo.sublist (List.eraseIdx_sublist O k), fun p hp m m1 m2 b hb => ?_, fun m m1 m2 => ?_, fun m j m1 m2 j1 j2 hmj x hx y hy => ?_, fun m m1 m2 => ?_⟩
  · rw [e0]
    rcases mem m b hb with hb | ⟨rfl, rfl⟩
    · exact h.bin m m1 m2 b hb
    · exact ⟨hin.1, hin.2.2⟩
  · rcases mem m b hb with hb | ⟨rfl, rfl⟩
    · exact h.ob p (hsub p hp) m m1 m2 b hb
    · exact hother p hp
  · by_cases hm : m = n
    · subst hm
      rw [updL_same, List.pairwise_append]
      refine ⟨h.bs m m1 m2, List.pairwise_singleton _ _, fun x hx y hy => ?_⟩
      obtain rfl : y = a := by simpa using hy
      exact (h.ob _ hmem m m1 m2 x hx).symm
    · rw [updL_other _ _ hm]; exact h.bs m m1 m2
  · have px := mem m x hx
    have py := mem j y hy
    clear hx hy
    rcases px with px | ⟨rfl, rfl⟩
    · rcases py with py | ⟨rfl, rfl⟩
      · exact h.bb m j m1 m2 j1 j2 hmj x px y py
      · exact (h.ob _ hmem m m1 m2 x px).symm
    · rcases py with py | ⟨rfl, _⟩
      · exact h.ob _ hmem j j1 j2 y py
      · exact absurd rfl hmj
  · have low : ∀ b ∈ bk m, oat s'.W b.toNat = oat s.W b.toNat := fun b hb => e _ (by have := h.bk_low m1 m2 hb; omega) (by
      have d := h.ob _ hmem m m1 m2 b hb
      have l := h.bk_low m1 m2 hb
      unfold PD at d
      dsimp only at d
      omega)
    by_cases hm : m = n
    · subst hm
      rw [updL_same, eh, List.reverse_append]
      refine ⟨rfl, ?_⟩
      rw [ea]
      exact chain_same (fun b hb => low b (by simpa using hb)) (h.ch m m1 m2)
    · rw [updL_other _ _ hm, e (1 + m) (by omega) (by omega)]
      exact chain_same (fun b hb => low b (by simpa using hb)) (h.ch m m1 m2)
end
end Go.Proofs.Ythelfalmjihkdaa
