/-
  The law's plays: the other kinds of steps, and any. No statement of the seat is proved here.
-/
import Derived.Test.YtbhocajmcfdffaaDoorMwA
import Derived.Test.YtbhocajmcfdffaaDoorGoesB
import Derived.Test.YtbhocajmcfdffaaDoorGoesN
import Derived.Test.YtbhocajmcfdffaaDoorClear
namespace Go.Proofs.YtbhocajmcfdffaaDoor
open Go.RowKit Go.Shelf

theorem putP_le2 {p : Nat} {K : List (Option Int)} {O : List Int} {k : Int} (hp : p ≤ 42) (hO : O.length < 3298534883328) : (putP p K O k).1 ≤ 42 := by
  unfold putP
  split
  · exact hp
  · split
    · exact hp
    · rename_i h1 h2
      have : p < 42 := by
        apply Classical.byContradiction
        intro hc
        have : 2 ^ 42 ≤ 2 ^ p := Nat.pow_le_pow_right (by decide) (by omega)
        omega
      show p + 1 ≤ 42
      omega

theorem goes_any (w W : World) (bt br p : Nat) (K : List (Option Int)) (O : List Int) (uf : Int → Int) (Ot Or : Nat → Prop) (h : Pair w W bt br p K O uf Ot Or) (leave : Int) :
    Calls Tryd.prog 54 #[.pointer (some ⟨bt, 0, none⟩), .pointer (some ⟨br, 0, none⟩), .int .i64 leave] W fun e W' => e = .returned (.bool true) ∧ Below W.heap.size W W' := by
  by_cases hl : leave < 1
  · exact goes_a w W bt br p K O uf Ot Or h leave hl
  · exact goes_b w W bt br p K O uf Ot Or h leave (by omega)

set_option maxRecDepth 100000 in
set_option maxHeartbeats 1000000 in
theorem plays_goes (w W : World) (bt br p : Nat) (K : List (Option Int)) (O : List Int) (uf : Int → Int) (Ot Or : Nat → Prop) (h : Pair w W bt br p K O uf Ot Or) (who to leave key value : Int) :
    Calls Tryd.prog 14 #[.pointer (some ⟨bt, 0, none⟩), .pointer (some ⟨br, 0, none⟩), stepV 4 who to leave key value] W fun e W' => e = .returned (.bool true) ∧ Below W.heap.size W W' := by
  obtain ⟨hA, hs, hnt, hnr⟩ := h.laid (.cells (stepC 4 who to leave key value) 31)
  have hkn : Below W.heap.size W (W.alloc (.cells (stepC 4 who to leave key value) 31)) := (Below.refl _ W).alloc (Nat.le_refl _) _
  unfold stepV
  unfold stepC at *
  go_enter Tryd.func14, Tryd.ntmps14
  go_wp2_with fail
  generalize W.alloc (.cells #[.int .i64 4, .int .i64 who, .int .i64 to, .int .i64 leave, .int .u64 key, .int .u64 value] 31) = WA at *
  refine (goes_any w WA bt br p K O uf Ot Or hA leave).mono ?_
  rintro e W1 ⟨rfl, hb⟩
  go_wp2_with fail
  go_ret
  exact ⟨rfl, hkn.trans (hb.mono hkn.size)⟩

set_option maxRecDepth 100000 in
set_option maxHeartbeats 1000000 in
theorem plays_tells (w W : World) (bt br p : Nat) (K : List (Option Int)) (O : List Int) (uf : Int → Int) (Ot Or : Nat → Prop) (h : Pair w W bt br p K O uf Ot Or) (hw : Tz w) (who to leave key value : Int) (hO : O.length < 4398046511000) :
    Calls Tryd.prog 14 #[.pointer (some ⟨bt, 0, none⟩), .pointer (some ⟨br, 0, none⟩), stepV 5 who to leave key value] W fun e W' => e = .returned (.bool true) ∧ Below W.heap.size W W' := by
  obtain ⟨hA, hs, hnt, hnr⟩ := h.laid (.cells (stepC 5 who to leave key value) 31)
  have hkn : Below W.heap.size W (W.alloc (.cells (stepC 5 who to leave key value) 31)) := (Below.refl _ W).alloc (Nat.le_refl _) _
  unfold stepV
  unfold stepC at *
  go_enter Tryd.func14, Tryd.ntmps14
  go_wp2_with fail
  generalize W.alloc (.cells #[.int .i64 5, .int .i64 who, .int .i64 to, .int .i64 leave, .int .u64 key, .int .u64 value] 31) = WA at *
  refine (tells_at w WA bt br p K O uf Ot Or hA hw key hO).mono ?_
  rintro e W1 ⟨rfl, hb⟩
  go_wp2_with fail
  go_ret
  exact ⟨rfl, hkn.trans (hb.mono hkn.size)⟩

set_option maxRecDepth 100000 in
set_option maxHeartbeats 1000000 in
theorem plays_clear (w W : World) (bt br p : Nat) (K : List (Option Int)) (O : List Int) (uf : Int → Int) (Ot Or : Nat → Prop) (h : Pair w W bt br p K O uf Ot Or) (who to leave key value : Int) :
    Calls Tryd.prog 14 #[.pointer (some ⟨bt, 0, none⟩), .pointer (some ⟨br, 0, none⟩), stepV 6 who to leave key value] W fun e W' => e = .returned (.bool true) ∧
      ∃ Ot' Or', Pair w W' bt br 3 (List.replicate 8 none) [] uf Ot' Or' ∧ Keeps (fun q => Ot q ∨ Or q) W W' ∧ ∀ q, Ot' q ∨ Or' q → (Ot q ∨ Or q) ∨ W.heap.size ≤ q := by
  obtain ⟨hA, hs, hnt, hnr⟩ := h.laid (.cells (stepC 6 who to leave key value) 31)
  have hkn := fun W1 W2 => keeps_both (W := W) (Ot := Ot) (Or := Or) (W1 := W1) (W2 := W2) (o := .cells (stepC 6 who to leave key value) 31)
  have hWA : W.heap.size ≤ (W.alloc (.cells (stepC 6 who to leave key value) 31)).heap.size := by simp
  unfold stepV
  unfold stepC at *
  go_enter Tryd.func14, Tryd.ntmps14
  go_wp2_with fail
  generalize hN : W.heap.size = N at *
  have HN : Hid (W.heap.size = N) := hN
  clear hN
  generalize W.alloc (.cells #[.int .i64 6, .int .i64 who, .int .i64 to, .int .i64 leave, .int .u64 key, .int .u64 value] 31) = WA at *
  refine (U.hold_clear bt p K O (wv uf) Ot WA hA.t).mono ?_
  rintro e W1 ⟨⟨v1, rfl⟩, ⟨Ot', hHt, hOt⟩, hK1⟩
  obtain ⟨hr1, hb1⟩ := hA.mid hK1
  go_wp2_with fail
  refine (R.hold_clear br p K O uf Or W1 hr1).mono ?_
  rintro e W2 ⟨⟨v2, rfl⟩, ⟨Or', hHr, hOr⟩, hK2⟩
  have hP := hA.step hHt hOt hK1 hHr hOr hK2
  have hfin := hkn W1 W2 hK1 hK2
  have hown : ∀ q, Ot' q ∨ Or' q → (Ot q ∨ Or q) ∨ N ≤ q := fun q hq => by
    have := hK1.size
    rcases hq with hq | hq
    · rcases hOt q hq with e | e
      · exact .inl (.inl e)
      · exact .inr (by omega)
    · rcases hOr q hq with e | e
      · exact .inl (.inr e)
      · exact .inr (by omega)
  clear hs hkn
  go_wp2_with fail
  go_ret
  exact ⟨rfl, _, _, hP, hfin, by rw [HN.out]; exact hown⟩

set_option maxRecDepth 100000 in
set_option maxHeartbeats 1000000 in
theorem plays_other (pt pr : Option Addr) (W : World) (kind who to leave key value : Int) (hk : kind < 1 ∨ 6 < kind) :
    Calls Tryd.prog 14 #[.pointer pt, .pointer pr, stepV kind who to leave key value] W fun e W' => e = .returned (.bool true) ∧ Below W.heap.size W W' := by
  have hkn : Below W.heap.size W (W.alloc (.cells (stepC kind who to leave key value) 31)) := (Below.refl _ W).alloc (Nat.le_refl _) _
  have k1 : (kind == 1) = false := by simp; omega
  have k2 : (kind == 2) = false := by simp; omega
  have k3 : (kind == 3) = false := by simp; omega
  have k4 : (kind == 4) = false := by simp; omega
  have k5 : (kind == 5) = false := by simp; omega
  have k6 : (kind == 6) = false := by simp; omega
  have j1 : ¬ kind = 1 := by omega
  have j2 : ¬ kind = 2 := by omega
  have j3 : ¬ kind = 3 := by omega
  have j4 : ¬ kind = 4 := by omega
  have j5 : ¬ kind = 5 := by omega
  have j6 : ¬ kind = 6 := by omega
  unfold stepV
  unfold stepC at *
  go_enter Tryd.func14, Tryd.ntmps14
  go_wp2_with fail
  go_ret
  exact ⟨rfl, hkn⟩

/-- Any step, at two tables that are alike. -/
theorem plays_any (w W : World) (bt br p : Nat) (K : List (Option Int)) (O : List Int) (uf : Int → Int) (Ot Or : Nat → Prop) (h : Pair w W bt br p K O uf Ot Or) (hw : Tz w) (kind who to leave key value : Int) (hO : O.length < 3298534883328) (hp : p ≤ 42) :
    Calls Tryd.prog 14 #[.pointer (some ⟨bt, 0, none⟩), .pointer (some ⟨br, 0, none⟩), stepV kind who to leave key value] W fun e W' => e = .returned (.bool true) ∧
      ∃ (p' : Nat) (K' : List (Option Int)) (O' : List Int) (uf' : Int → Int) (Ot' Or' : Nat → Prop), Pair w W' bt br p' K' O' uf' Ot' Or' ∧ Keeps (fun q => Ot q ∨ Or q) W W' ∧ (∀ q, Ot' q ∨ Or' q → (Ot q ∨ Or q) ∨ W.heap.size ≤ q) ∧ O'.length ≤ O.length + 1 ∧ p' ≤ 42 := by
  have hsame : ∀ (e : Ending) (W' : World), e = .returned (.bool true) ∧ Below W.heap.size W W' → e = .returned (.bool true) ∧ ∃ (p' : Nat) (K' : List (Option Int)) (O' : List Int) (uf' : Int → Int) (Ot' Or' : Nat → Prop), Pair w W' bt br p' K' O' uf' Ot' Or' ∧ Keeps (fun q => Ot q ∨ Or q) W W' ∧ (∀ q, Ot' q ∨ Or' q → (Ot q ∨ Or q) ∨ W.heap.size ≤ q) ∧ O'.length ≤ O.length + 1 ∧ p' ≤ 42 :=
    fun e W' ⟨h1, h2⟩ => ⟨h1, p, K, O, uf, Ot, Or, h.both h2, Keeps.of_below h2 _, fun q hq => .inl hq, by omega, hp⟩
  by_cases k1 : kind = 1
  · subst k1
    exact (plays_putO w W bt br p K O uf Ot Or h hw who to leave key value (by omega)).mono fun e W' ⟨h1, Ot', Or', h2, h3, h4⟩ => ⟨h1, _, _, _, _, Ot', Or', h2, h3, h4, putO_le O key, putP_le2 hp hO⟩
  by_cases k2 : kind = 2
  · subst k2
    exact (plays_get w W bt br p K O uf Ot Or h hw who to leave key value).mono fun e W' ⟨h1, h2, h3⟩ => hsame e W' ⟨h1, h3.below _ (Nat.le_refl _) (fun _ f => f.elim)⟩
  by_cases k3 : kind = 3
  · subst k3
    exact (plays_takeO w W bt br p K O uf Ot Or h hw who to leave key value).mono fun e W' ⟨h1, Ot', Or', h2, h3, h4⟩ => ⟨h1, _, _, _, _, Ot', Or', h2, h3, h4, by have := List.length_filter_le (fun q => decide (q ≠ key)) O; omega, hp⟩
  by_cases k4 : kind = 4
  · subst k4
    exact (plays_goes w W bt br p K O uf Ot Or h who to leave key value).mono hsame
  by_cases k5 : kind = 5
  · subst k5
    exact (plays_tells w W bt br p K O uf Ot Or h hw who to leave key value (by omega)).mono hsame
  by_cases k6 : kind = 6
  · subst k6
    exact (plays_clear w W bt br p K O uf Ot Or h who to leave key value).mono fun e W' ⟨h1, Ot', Or', h2, h3, h4⟩ => ⟨h1, _, _, _, _, Ot', Or', h2, h3, h4, by simp, by omega⟩
  exact (plays_other _ _ W kind who to leave key value (by omega)).mono hsame
end Go.Proofs.YtbhocajmcfdffaaDoor
