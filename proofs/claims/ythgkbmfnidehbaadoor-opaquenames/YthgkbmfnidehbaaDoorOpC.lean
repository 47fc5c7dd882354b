
/- Walks of isPlain, has, misses, IndexFunc (layer 16). No statement of the seat is proved here. -/
import Derived.Test.YthgkbmfnidehbaaDoorOpAI
import Derived.Test.YthgkbmfnidehbaaDoorWiD
import Derived.Deep.RegionHeld3
import Derived.Test.YthgkbmfnidehbaaDoorEvX
namespace Go.Proofs.YthgkbmfnidehbaaDoor
open Go.RowKit Go.Shelf

def plainE (e : Ev) : Bool := decide (e.kd = 10) || decide (e.kd = 11)
def missE (n : Nat) (e : Ev) : Bool := (decide (e.kd = 2) || decide (e.kd = 3)) && !decide (e.ad < n)
def idxF {α : Type} (f : α → Bool) : List α → Nat → Int
  | [], _ => -1
  | x :: l, k => if f x then (k : Int) else idxF f l (k + 1)
theorem idxF_in {α : Type} (f : α → Bool) : ∀ (l : List α) (k : Nat), idxF f l k = -1 ∧ (∀ x ∈ l, f x = false) ∨ (∃ j : Nat, idxF f l k = ((k + j : Nat) : Int) ∧ j < l.length ∧ ∀ h : j < l.length, f (l[j]) = true)
  | [], _ => .inl ⟨rfl, fun x hx => by simp at hx⟩
  | x :: l, k => by
    rw [idxF]
    by_cases h : f x = true
    · rw [if_pos h]
      exact .inr ⟨0, by simp, by simp, fun _ => h⟩
    · rw [if_neg h]
      rcases idxF_in f l (k + 1) with ⟨q, h2⟩ | ⟨j, h1, h2, h3⟩
      · exact .inl ⟨q, fun y hy => by
          rcases List.mem_cons.1 hy with rfl | hy
          · simpa using h
          · exact h2 y hy⟩
      · exact .inr ⟨j + 1, by rw [h1]; congr 1; omega, by simp; omega, fun hh => by simpa using h3 h2⟩
theorem bool_cases2 (b : Bool) : b = true ∨ b = false := by cases b <;> simp

def cmpI (x y : Int) : Int := if x < y then -1 else if y < x then 1 else 0
set_option maxRecDepth 100000 in
set_option maxHeartbeats 4000000 in
theorem cmpN_any (x y : Int) (w : World) : Calls Tryd.prog 29 #[.int .i64 x, .int .i64 y] w fun e w' => e = .returned (.int .i64 (cmpI x y)) ∧ w' = w := by
  unfold cmpI
  by_cases h1 : x < y
  · rw [if_pos h1]
    go_enter Tryd.func29, Tryd.ntmps29
    go_wp2
    go_ret
    exact ⟨rfl, rfl⟩
  · rw [if_neg h1]
    by_cases h2 : y < x
    · rw [if_pos h2]
      have h3 : x > y := h2
      go_enter Tryd.func29, Tryd.ntmps29
      go_wp2
      go_ret
      exact ⟨rfl, rfl⟩
    · rw [if_neg h2]
      have h3 : ¬ x > y := h2
      go_enter Tryd.func29, Tryd.ntmps29
      go_wp2
      go_ret
      exact ⟨rfl, rfl⟩

set_option maxRecDepth 100000 in
set_option maxHeartbeats 4000000 in
theorem isPlain_any (e : Ev) (w : World) : Calls Tryd.prog 16 #[.agg e.cells] w fun ex w' => ex = .returned (.bool (plainE e)) ∧ Keeps (fun _ => False) w w' := by
  have k0 := (Keeps.refl (fun _ => False) w).alloc (.cells e.cells 29)
  unfold plainE
  obtain ⟨th, kd, ad, wd, own, er⟩ := e
  dsimp only at k0 ⊢
  by_cases h1 : kd = 10
  · subst h1
    go_enter Tryd.func16, Tryd.ntmps16
    go_wp2
    go_ret
    exact ⟨rfl, k0⟩
  · have h1b : (kd == 10) = false := by rw [beq_eq_false_iff_ne]; exact h1
    rw [decide_eq_false h1]
    by_cases h2 : kd = 11
    · subst h2
      go_enter Tryd.func16, Tryd.ntmps16
      go_wp2
      go_ret
      exact ⟨rfl, k0⟩
    · have h2b : (kd == 11) = false := by rw [beq_eq_false_iff_ne]; exact h2
      rw [decide_eq_false h2]
      go_enter Tryd.func16, Tryd.ntmps16
      go_wp2
      go_ret
      exact ⟨rfl, k0⟩

set_option maxRecDepth 100000 in
set_option maxHeartbeats 4000000 in
theorem phas_any (pb n cap : Nat) (a : Option Addr) (ad : Int) (w : World) (c0 : w.cell? ⟨pb, 0, none⟩ = some (.slice a n cap)) (hn : n ≤ 65536) : Calls Tryd.prog 25 #[.pointer (some ⟨pb, 0, none⟩), .int .u64 ad] w fun ex w' => ex = .returned (.bool (decide (ad < (n : Int)))) ∧ w' = w := by
  have hw : IntKind.u64.wrap (n : Int) = n := by rw [IntKind.wrap_u64]; omega
  go_enter Tryd.func25, Tryd.ntmps25
  go_wp2
  go_ret
  exact ⟨rfl, rfl⟩

set_option maxRecDepth 100000 in
set_option maxHeartbeats 4000000 in
theorem misses_any (pb n cap : Nat) (a : Option Addr) (e : Ev) (w : World) (c0 : w.cell? ⟨pb, 0, none⟩ = some (.slice a n cap)) (hn : n ≤ 65536) : Calls Tryd.prog 17 #[.pointer (some ⟨pb, 0, none⟩), .agg e.cells] w fun ex w' => ex = .returned (.bool (missE n e)) ∧ Keeps (fun _ => False) w w' := by
  have k0 := (Keeps.refl (fun _ => False) w).alloc (.cells e.cells 29)
  have HH := fun ad => phas_any pb n cap a ad _ (k0.cellB (fun f => f) c0) hn
  unfold missE
  obtain ⟨th, kd, ad, wd, own, er⟩ := e
  dsimp only at k0 HH ⊢
  have HH := HH ad
  obtain ⟨q, hq⟩ : ∃ q, q = decide (ad < (n : Int)) := ⟨_, rfl⟩
  rw [← hq] at HH ⊢
  clear hq c0
  by_cases h1 : kd = 2
  · subst h1
    go_enter Tryd.func17, Tryd.ntmps17
    go_wp2_with fail
    refine HH.mono ?_
    rintro ex w2 ⟨rfl, rfl⟩
    go_wp2_with fail
    go_ret
    exact ⟨by simp, k0⟩
  · have h1b : (kd == 2) = false := by rw [beq_eq_false_iff_ne]; exact h1
    rw [decide_eq_false h1]
    by_cases h2 : kd = 3
    · subst h2
      go_enter Tryd.func17, Tryd.ntmps17
      go_wp2_with fail
      refine HH.mono ?_
      rintro ex w2 ⟨rfl, rfl⟩
      go_wp2_with fail
      go_ret
      exact ⟨by simp, k0⟩
    · have h2b : (kd == 3) = false := by rw [beq_eq_false_iff_ne]; exact h2
      rw [decide_eq_false h2]
      clear HH
      go_enter Tryd.func17, Tryd.ntmps17
      go_wp2_with fail
      go_ret
      exact ⟨rfl, k0⟩

set_option maxRecDepth 100000 in
set_option maxHeartbeats 4000000 in
theorem idx_plain (v : Value) (L : List Ev) (w : World) (hv : EvsAt w v L) : Calls Tryd.prog 15 #[v, .func (.func 16) #[] #[]] w fun ex w' => ex = .returned (.int .i64 (idxF (plainE) L 0)) ∧ Keeps (fun _ => False) w w' := by
  have hbig := hv.big
  have HV : Hid (∀ X, Keeps (fun _ => False) w X → EvsAt X v L) := fun X k => hv.keeps k
  obtain ⟨a1, cap1, rfl, hcap⟩ := hv.els.shape
  clear hv
  obtain ⟨z, hz⟩ : ∃ z, z = idxF (plainE) L 0 := ⟨_, rfl⟩
  rw [← hz]
  have HZ : Hid (z = idxF (plainE) L 0) := hz
  clear hz
  go_enter Tryd.func15, Tryd.ntmps15
  go_wp2_with fail
  go_loopw [8] (fun u wr => ∃ k : Nat, u = .int .i64 k ∧ k ≤ L.length ∧ Hid (z = idxF (plainE) (L.drop k) k) ∧ Keeps (fun _ => False) w wr) (fun u _ => L.length - (intOf u).toNat)
  case atStart => exact ⟨0, rfl, Nat.zero_le _, HZ.out, Keeps.refl _ _⟩
  case round =>
    obtain ⟨k, rfl, hk, hh, kr⟩ := hrel
    by_cases hlt : k < L.length
    · have hki : (k : Int) < L.length := by omega
      have hk0 : (0 : Int) ≤ k := by omega
      obtain ⟨g, off, rfl, x0, x1, x2, x3, x4, x5⟩ := (HV.out wr kr).at k hlt
      have PL := isPlain_any (L[k]) wr
      have hst := hh.out
      rw [List.drop_eq_getElem_cons hlt, idxF] at hst
      generalize hev : L[k]'hlt = e at *
      clear hev
      have HP : Hid ((plainE) e = true ∨ (plainE) e = false) := bool_cases2 _
      obtain ⟨th, kd, ad, wd, own, er⟩ := e
      dsimp only at x0 x1 x2 x3 x4 x5
      rcases HP.out with hp | hp
      · rw [if_pos hp] at hst
        rw [hp] at PL
        clear hp HP HZ hh
        have HF : Hid (z = (k : Int)) := hst
        clear hst
        go_wp2_with fail
        refine PL.mono ?_
        rintro ex w2 ⟨rfl, k2⟩
        go_wp2_with fail
        go_ret
        exact ⟨by rw [HF.out]; rfl, kr.trans k2⟩
      · rw [if_neg (by rw [hp]; exact Bool.false_ne_true)] at hst
        rw [hp] at PL
        clear hp HP HZ hh
        have HF : Hid (z = _) := hst
        clear hst
        go_wp2_with fail
        refine PL.mono ?_
        rintro ex w2 ⟨rfl, k2⟩
        have kk := kr.trans k2
        clear PL x0 x1 x2 x3 x4 x5 k2
        go_wp2_with fail
        go_roundw
        · exact ⟨k + 1, by simp, by omega, HF.out, kk⟩
        · simp [intOf]; omega
    · obtain rfl : k = L.length := by omega
      have HF : Hid (z = -1) := by have := hh.out; rw [List.drop_length, idxF] at this; exact this
      clear hh
      go_wp2_with fail
      go_ret
      exact ⟨by rw [HF.out]; rfl, kr⟩

set_option maxRecDepth 100000 in
set_option maxHeartbeats 4000000 in
theorem idx_miss (v : Value) (L : List Ev) (pb n cap : Nat) (a : Option Addr) (w : World) (hv : EvsAt w v L) (c0 : w.cell? ⟨pb, 0, none⟩ = some (.slice a n cap)) (hn : n ≤ 65536) : Calls Tryd.prog 15 #[v, .func (.func 17) #[.pointer (some ⟨pb, 0, none⟩)] #[]] w fun ex w' => ex = .returned (.int .i64 (idxF (missE n) L 0)) ∧ Keeps (fun _ => False) w w' := by
  have hbig := hv.big
  have HV : Hid (∀ X, Keeps (fun _ => False) w X → EvsAt X v L) := fun X k => hv.keeps k
  obtain ⟨a1, cap1, rfl, hcap⟩ := hv.els.shape
  clear hv
  have HC : Hid (∀ X, Keeps (fun _ => False) w X → X.cell? ⟨pb, 0, none⟩ = some (.slice a n cap)) := fun X k => k.cellB (fun f => f) c0
  clear c0
  obtain ⟨z, hz⟩ : ∃ z, z = idxF (missE n) L 0 := ⟨_, rfl⟩
  rw [← hz]
  have HZ : Hid (z = idxF (missE n) L 0) := hz
  clear hz
  go_enter Tryd.func15, Tryd.ntmps15
  go_wp2_with fail
  go_loopw [8] (fun u wr => ∃ k : Nat, u = .int .i64 k ∧ k ≤ L.length ∧ Hid (z = idxF (missE n) (L.drop k) k) ∧ Keeps (fun _ => False) w wr) (fun u _ => L.length - (intOf u).toNat)
  case atStart => exact ⟨0, rfl, Nat.zero_le _, HZ.out, Keeps.refl _ _⟩
  case round =>
    obtain ⟨k, rfl, hk, hh, kr⟩ := hrel
    by_cases hlt : k < L.length
    · have hki : (k : Int) < L.length := by omega
      have hk0 : (0 : Int) ≤ k := by omega
      obtain ⟨g, off, rfl, x0, x1, x2, x3, x4, x5⟩ := (HV.out wr kr).at k hlt
      have PL := misses_any pb n cap a (L[k]) wr (HC.out wr kr) hn
      have hst := hh.out
      rw [List.drop_eq_getElem_cons hlt, idxF] at hst
      generalize hev : L[k]'hlt = e at *
      clear hev
      have HP : Hid ((missE n) e = true ∨ (missE n) e = false) := bool_cases2 _
      obtain ⟨th, kd, ad, wd, own, er⟩ := e
      dsimp only at x0 x1 x2 x3 x4 x5
      rcases HP.out with hp | hp
      · rw [if_pos hp] at hst
        rw [hp] at PL
        clear hp HP HZ hh
        have HF : Hid (z = (k : Int)) := hst
        clear hst
        go_wp2_with fail
        refine PL.mono ?_
        rintro ex w2 ⟨rfl, k2⟩
        go_wp2_with fail
        go_ret
        exact ⟨by rw [HF.out]; rfl, kr.trans k2⟩
      · rw [if_neg (by rw [hp]; exact Bool.false_ne_true)] at hst
        rw [hp] at PL
        clear hp HP HZ hh
        have HF : Hid (z = _) := hst
        clear hst
        go_wp2_with fail
        refine PL.mono ?_
        rintro ex w2 ⟨rfl, k2⟩
        have kk := kr.trans k2
        clear PL x0 x1 x2 x3 x4 x5 k2
        go_wp2_with fail
        go_roundw
        · exact ⟨k + 1, by simp, by omega, HF.out, kk⟩
        · simp [intOf]; omega
    · obtain rfl : k = L.length := by omega
      have HF : Hid (z = -1) := by have := hh.out; rw [List.drop_length, idxF] at this; exact this
      clear hh
      go_wp2_with fail
      go_ret
      exact ⟨by rw [HF.out]; rfl, kr⟩

end Go.Proofs.YthgkbmfnidehbaaDoor