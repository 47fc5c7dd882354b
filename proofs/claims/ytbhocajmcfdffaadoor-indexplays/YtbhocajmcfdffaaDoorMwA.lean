/-
  What a loop over All holds of two tables that are turned meanwhile. No statement of the seat is proved here.
-/
import Derived.Test.YtbhocajmcfdffaaDoorMany
import Derived.Test.YtbhocajmcfdffaaDoorWas
import Derived.Test.YtbhocajmcfdffaaDoorPlayB
namespace Go.Proofs.YtbhocajmcfdffaaDoor
open Go.RowKit Go.Shelf

theorem held_skip {P : Program} {ops : Array Oper} {md : Region.Mode} {S : World → Prop} {i : Nat} {oi : Oper} {K : Act → World → Prop} {fuel : Nat} {listed : Array Bool} {a : Act} {w : World} (d : Nat) (hi : ops[i]? = some oi) (hdst : oi.dst = some d)
    (hs : Region.noSelect ops = true) (hf : Region.free md ops listed i = true) (hr : (Region.ready md ops listed).contains i = true) (hw : Region.wanted oi (yielded ops a.tmps) = false) (hS : S w)
    (h : wpAnyH P md ops (atEnd K) S fuel (listed.setIfInBounds i true) (a.put (some d) undef) w) : wpAnyH P md ops (atEnd K) S (fuel + 1) listed a w :=
  wpAnyH_take hi hs hf hr (fun _ _ _ h => h.elim) (.inr ⟨hw, rfl⟩) hS (by rw [hdst]; exact h)

/-- The types of the tables' own blocks. -/
def ownT : List TypeId := [79, 77, 85, 48, 95, 25]

theorem U.Holds.cells {w : World} {b p : Nat} {K : List (Option Int)} {O : List Int} {vf : Int → Value} {Ow : Nat → Prop} (h : U.Holds w b p K O vf Ow) {q : Nat} (hq : Ow q) :
    ∃ c t fr, w.heap[q]? = some (.cells c t fr) ∧ t ∈ ownT ∧ (t = 85 → c[2]? ≠ some (.pointer none)) := by
  obtain ⟨s, e0, bf, hG, hO⟩ := h
  rcases (hO q).1 hq with rfl | rfl | rfl | ⟨k, hk, rfl⟩
  · exact ⟨_, _, _, hG.tab.tab, by decide, fun e => absurd e (by decide)⟩
  · exact ⟨_, _, _, hG.tab.slots, by decide, fun e => absurd e (by decide)⟩
  · exact ⟨_, _, _, hG.tab.sent, by decide, fun _ => by simp [entCells]⟩
  · obtain ⟨a, c, he⟩ := hG.tab.key hk
    exact ⟨_, _, _, he, by decide, fun _ => by simp [entCells]⟩
theorem R.Holds.cells {w : World} {b p : Nat} {K : List (Option Int)} {O : List Int} {uf : Int → Int} {Ow : Nat → Prop} (h : R.Holds w b p K O uf Ow) {q : Nat} (hq : Ow q) :
    ∃ c t fr, w.heap[q]? = some (.cells c t fr) ∧ t ∈ ownT ∧ (t = 85 → c[2]? ≠ some (.pointer none)) := by
  obtain ⟨s, v, hF, hO⟩ := h
  rcases (hO q).1 hq with rfl | rfl | e
  · obtain ⟨ct, ht⟩ := hF.tab.tab
    exact ⟨_, _, _, ht, by decide, fun e => absurd e (by decide)⟩
  · obtain ⟨ex, hs⟩ := hF.tab.slots
    exact ⟨_, _, _, hs, by decide, fun e => absurd e (by decide)⟩
  · rcases hF.tab.row.2 with ⟨h1, _⟩ | ⟨g, cap, cur, rfl, h2, h3, h4⟩
    · rw [h1] at e; simp [Value.ownBlock] at e
    · simp [Value.ownBlock] at e
      subst e
      exact ⟨_, _, _, h3, by decide, fun e => absurd e (by decide)⟩

theorem not_cells {W : World} {q : Nat} {row : Option Nat} (hc : ∃ c t fr, W.heap[q]? = some (.cells c t fr) ∧ t ∈ ownT ∧ (t = 85 → c[2]? ≠ some (.pointer none))) (hr : ∀ r, row = some r → ∃ o : Obj, W.heap[r]? = some o ∧ o.isCells = false) : ¬ row = some q := fun e => by
  obtain ⟨c, t, fr, h1, _⟩ := hc
  obtain ⟨o, h2, h3⟩ := hr q e
  rw [h1] at h2
  cases h2
  cases h3

section
variable {w W W1 : World} {bt br p : Nat} {K : List (Option Int)} {O : List Int} {uf : Int → Int} {Ot Or : Nat → Prop} {row : Option Nat}
theorem Pair.cells (h : Pair w W bt br p K O uf Ot Or) {q : Nat} (hq : Ot q ∨ Or q) : ∃ c t fr, W.heap[q]? = some (.cells c t fr) ∧ t ∈ ownT ∧ (t = 85 → c[2]? ≠ some (.pointer none)) := by
  rcases hq with hq | hq
  · exact h.t.cells hq
  · exact h.r.cells hq
theorem keeps_row (hg : W.grownBy W1 row) : Keeps (fun q => row = some q) W W1 := ⟨hg.os, hg.tape, hg.output, hg.size, fun q hq hs => hg.block q hq (fun e => hs e.symm)⟩
theorem Pair.grown (h : Pair w W bt br p K O uf Ot Or) (hg : W.grownBy W1 row) (hr : ∀ r, row = some r → ∃ o : Obj, W.heap[r]? = some o ∧ o.isCells = false) (hB : Below w.heap.size w W1) : Pair w W1 bt br p K O uf Ot Or :=
  ⟨h.t.kept (keeps_row hg) (fun _ hq => not_cells (h.t.cells hq) hr), h.r.kept (keeps_row hg) (fun _ hq => not_cells (h.r.cells hq) hr), h.bt, h.br, h.apart, hB⟩
/-- What is turned between two rounds does not touch what the loop keeps. -/
theorem Pair.nil (h : Pair w W bt br p K O uf Ot Or) (hk : Keeps (fun q => Ot q ∨ Or q) W W1) : U.KeptNil W W1 := U.KeptNil.keeps hk (fun _ hq => by
  obtain ⟨c, t, fr, h1, _, h2⟩ := h.cells hq
  exact ⟨c, t, fr, h1, h2⟩)
theorem Pair.from (h : Pair w W bt br p K O uf Ot Or) (hk : Keeps (fun q => Ot q ∨ Or q) W W1) (B : Nat) : KeepsFrom B W W1 :=
  ⟨hk.size, fun j o _ hj ho => hk.old hj (fun hs => by
    obtain ⟨c, t, fr, h1, _⟩ := h.cells hs
    rw [h1] at hj
    cases hj
    cases ho)⟩
end

theorem putP_le {p : Nat} {K : List (Option Int)} {O : List Int} {k : Int} (hp : p ≤ 40) (hO : O.length ≤ 4194304) : (putP p K O k).1 ≤ 40 := by
  unfold putP
  split
  · exact hp
  · split
    · exact hp
    · rename_i h1 h2
      have : p < 24 := by
        apply Classical.byContradiction
        intro hc
        have : 2 ^ 24 ≤ 2 ^ p := Nat.pow_le_pow_right (by decide) (by omega)
        omega
      show p + 1 ≤ 40
      omega


section
variable {w W W1 : World} {bt br p : Nat} {K : List (Option Int)} {O : List Int} {uf : Int → Int} {Ot Or : Nat → Prop}
/-- A box is not a table's. -/
theorem Pair.free (h : Pair w W bt br p K O uf Ot Or) {q : Nat} {c : Array Value} {t : TypeId} {fr : Nat × Nat} (hq : W.heap[q]? = some (.cells c t fr)) (ht : t ∉ ownT) : ¬ (Ot q ∨ Or q) := fun e => by
  obtain ⟨c', t', fr', h1, h2, _⟩ := h.cells e
  rw [hq] at h1
  cases h1
  exact ht h2
theorem Pair.box (h : Pair w W bt br p K O uf Ot Or) (hk : Keeps (fun q => Ot q ∨ Or q) W W1) {q : Nat} {c : Array Value} {t : TypeId} {fr : Nat × Nat} (hq : W.heap[q]? = some (.cells c t fr)) (ht : t ∉ ownT) : W1.heap[q]? = some (.cells c t fr) :=
  hk.old hq (h.free hq ht)
theorem Pair.rebase {w0 : World} (h : Pair w W bt br p K O uf Ot Or) (hb : Below w0.heap.size w0 w) : Pair w0 W bt br p K O uf Ot Or :=
  ⟨h.t, h.r, fun q hq => Nat.le_trans hb.size (h.bt q hq), fun q hq => Nat.le_trans hb.size (h.br q hq), h.apart, hb.trans (h.below.mono hb.size)⟩
end

/-- The boxes of more, take, the result, t and r. -/
structure Bx (N B7 B8 bt br : Nat) (vm vt : Value) (X : World) : Prop where
  more : X.heap[N]? = some (.cells #[vm] 37 (0, 0))
  take : X.heap[N + 1]? = some (.cells #[vt] 37 (0, 0))
  res : X.heap[N + 1 + 1]? = some (.cells #[.bool false] 4 (0, 0))
  t : X.heap[B7]? = some (.cells #[.pointer (some ⟨bt, 0, none⟩)] 23 (0, 0))
  r : X.heap[B8]? = some (.cells #[.pointer (some ⟨br, 0, none⟩)] 27 (0, 0))
theorem Bx.turn {N B7 B8 bt br : Nat} {vm vt : Value} {X Y : World} (h : Bx N B7 B8 bt br vm vt X) (hb : ∀ (q : Nat) (c : Array Value) (t : TypeId), X.heap[q]? = some (Obj.cells c t (0, 0)) → t ∉ ownT → Y.heap[q]? = some (Obj.cells c t (0, 0))) : Bx N B7 B8 bt br vm vt Y :=
  ⟨hb _ _ _ h.more (by decide), hb _ _ _ h.take (by decide), hb _ _ _ h.res (by decide), hb _ _ _ h.t (by decide), hb _ _ _ h.r (by decide)⟩
/-- Those of was and n besides. -/
structure By (N B7 B8 B10 B12 bt br bw : Nat) (vm vt : Value) (m : Int) (X : World) : Prop where
  bx : Bx N B7 B8 bt br vm vt X
  was : X.heap[B10]? = some (.cells #[.pointer (some ⟨bw, 0, none⟩)] 27 (0, 0))
  n : X.heap[B12]? = some (.cells #[.int .i64 m] 3 (0, 0))
theorem By.turn {N B7 B8 B10 B12 bt br bw : Nat} {vm vt : Value} {m : Int} {X Y : World} (h : By N B7 B8 B10 B12 bt br bw vm vt m X) (hb : ∀ (q : Nat) (c : Array Value) (t : TypeId), X.heap[q]? = some (Obj.cells c t (0, 0)) → t ∉ ownT → Y.heap[q]? = some (Obj.cells c t (0, 0))) : By N B7 B8 B10 B12 bt br bw vm vt m Y :=
  ⟨h.bx.turn hb, hb _ _ _ h.was (by decide), hb _ _ _ h.n (by decide)⟩

/-- All that stands between two calls of a round: the boxes, the tables, the copy. -/
structure Amid (w : World) (B7 B8 B10 B12 bt br bw : Nat) (vm vt v : Value) (p0 : Nat) (K0 : List (Option Int)) (O0 : List Int) (uf0 : Int → Int) (m : Int) (Z : Nat) (X : World) : Prop where
  ex : ∃ (p : Nat) (K : List (Option Int)) (O : List Int) (uf : Int → Int) (Ot Or Ow : Nat → Prop), Pair w X bt br p K O uf Ot Or ∧ R.Had X bw p0 K0 O0 uf0 v Ow ∧ (∀ q, Ow q → ¬ (Ot q ∨ Or q)) ∧ O.length ≤ Z
  bx : By w.heap.size B7 B8 B10 B12 bt br bw vm vt m X

section
variable {w : World} {B7 B8 B10 B12 bt br bw : Nat} {vm vt v : Value} {p0 : Nat} {K0 : List (Option Int)} {O0 : List Int} {uf0 : Int → Int} {m : Int} {Z : Nat} {X Y : World}
theorem Amid.below (h : Amid w B7 B8 B10 B12 bt br bw vm vt v p0 K0 O0 uf0 m Z X) : Below w.heap.size w X := by
  obtain ⟨p, K, O, uf, Ot, Or, Ow, hP, _⟩ := h.ex
  exact hP.below
theorem Amid.had (h : Amid w B7 B8 B10 B12 bt br bw vm vt v p0 K0 O0 uf0 m Z X) : ∃ Ow, R.Had X bw p0 K0 O0 uf0 v Ow := by
  obtain ⟨p, K, O, uf, Ot, Or, Ow, _, hH, _⟩ := h.ex
  exact ⟨Ow, hH⟩
theorem Amid.own (h : Amid w B7 B8 B10 B12 bt br bw vm vt v p0 K0 O0 uf0 m Z X) {row : Option Nat} (hg : X.grownBy Y row) (hr : ∀ r, row = some r → ∃ o : Obj, X.heap[r]? = some o ∧ o.isCells = false) (hB : Below w.heap.size w Y) : Amid w B7 B8 B10 B12 bt br bw vm vt v p0 K0 O0 uf0 m Z Y := by
  obtain ⟨p, K, O, uf, Ot, Or, Ow, hP, hH, hap, hZ⟩ := h.ex
  exact ⟨⟨p, K, O, uf, Ot, Or, Ow, hP.grown hg hr hB, hH.blocks (fun q hq => by
    obtain ⟨c, t, fr, h1, _⟩ := hH.cells hq
    rw [h1, block_kept h1 hg hr]), hap, hZ⟩, h.bx.turn (fun q c t hq _ => block_kept hq hg hr)⟩
theorem Amid.like (h : Amid w B7 B8 B10 B12 bt br bw vm vt v p0 K0 O0 uf0 m Z X) (l : Like Y X) : Amid w B7 B8 B10 B12 bt br bw vm vt v p0 K0 O0 uf0 m Z Y :=
  h.own (row := none) ⟨l.os, l.tape, l.output, by rw [l.heap]; exact Nat.le_refl _, fun q _ _ => by rw [l.heap]⟩ (fun r e => by cases e) ⟨l.os.trans h.below.os, l.tape.trans h.below.tape, l.output.trans h.below.output, by rw [l.heap]; exact h.below.size, fun k hk => by rw [l.heap]; exact h.below.block k hk⟩
theorem Amid.get (h : Amid w B7 B8 B10 B12 bt br bw vm vt v p0 K0 O0 uf0 m Z X) (k : Int) : Calls Tryd.prog 20 #[.pointer (some ⟨bw, 0, none⟩), .int .u64 k] X fun e w' => e = .returned (.tuple #[.int .u64 (if k ∈ O0 then uf0 k else 0), .bool (decide (k ∈ O0))]) ∧ Drew X w' := by
  obtain ⟨Ow, hH⟩ := h.had
  exact hH.get k
theorem Amid.len (h : Amid w B7 B8 B10 B12 bt br bw vm vt v p0 K0 O0 uf0 m Z X) : Calls Tryd.prog 21 #[.pointer (some ⟨bw, 0, none⟩)] X fun e w' => e = .returned (.int .i64 O0.length) ∧ w' = X := by
  obtain ⟨Ow, hH⟩ := h.had
  exact hH.len
theorem Amid.mono (h : Amid w B7 B8 B10 B12 bt br bw vm vt v p0 K0 O0 uf0 m Z X) {Z' : Nat} (hZ : Z ≤ Z') : Amid w B7 B8 B10 B12 bt br bw vm vt v p0 K0 O0 uf0 m Z' X := by
  obtain ⟨p, K, O, uf, Ot, Or, Ow, hP, hH, hap, hO⟩ := h.ex
  exact ⟨⟨p, K, O, uf, Ot, Or, Ow, hP, hH, hap, by omega⟩, h.bx⟩
/-- What a call keeps that the loop counts on. -/
def Still (B : Nat) (X Y : World) : Prop := KeepsFrom B X Y ∧ U.KeptNil X Y
theorem Still.refl (B : Nat) (X : World) : Still B X X := ⟨KeepsFrom.refl _ _, U.KeptNil.refl _⟩
theorem Still.trans {B : Nat} {X Y Z : World} (h : Still B X Y) (k : Still B Y Z) : Still B X Z := ⟨h.1.trans k.1, h.2.trans k.2⟩
theorem Still.like {B : Nat} {X Y : World} (l : Like Y X) : Still B X Y := ⟨⟨by rw [l.heap]; exact Nat.le_refl _, fun k o _ hk _ => by rw [l.heap]; exact hk⟩, (U.KeptNil.refl X).like l⟩

theorem Amid.step (h : Amid w B7 B8 B10 B12 bt br bw vm vt v p0 K0 O0 uf0 m Z X) {p p' : Nat} {K K' : List (Option Int)} {O O' : List Int} {uf uf' : Int → Int} {Ot Or Ow Ot' Or' : Nat → Prop} {Z' : Nat} (hP : Pair w X bt br p K O uf Ot Or) (hH : R.Had X bw p0 K0 O0 uf0 v Ow) (hap : ∀ q, Ow q → ¬ (Ot q ∨ Or q))
    (hP' : Pair w Y bt br p' K' O' uf' Ot' Or') (hk : Keeps (fun q => Ot q ∨ Or q) X Y) (ho : ∀ q, Ot' q ∨ Or' q → (Ot q ∨ Or q) ∨ X.heap.size ≤ q) (hZ : O'.length ≤ Z') (B : Nat) : Amid w B7 B8 B10 B12 bt br bw vm vt v p0 K0 O0 uf0 m Z' Y ∧ Still B X Y :=
  ⟨⟨⟨p', K', O', uf', Ot', Or', Ow, hP', hH.kept hk hap, fun q hq e => by
    rcases ho q e with e | e
    · exact hap q hq e
    · have := hH.lt hq; omega, hZ⟩, h.bx.turn (fun q c t hq ht => hP.box hk hq ht)⟩, hP.from hk B, hP.nil hk⟩
theorem Amid.put (h : Amid w B7 B8 B10 B12 bt br bw vm vt v p0 K0 O0 uf0 m Z X) (hw : Tz w) (hZ : Z < 4398046511000) (who to leave key value : Int) (B : Nat) :
    Calls Tryd.prog 14 #[.pointer (some ⟨bt, 0, none⟩), .pointer (some ⟨br, 0, none⟩), stepV 1 who to leave key value] X fun e Y => e = .returned (.bool true) ∧ Amid w B7 B8 B10 B12 bt br bw vm vt v p0 K0 O0 uf0 m (Z + 1) Y ∧ Still B X Y := by
  obtain ⟨p, K, O, uf, Ot, Or, Ow, hP, hH, hap, hO⟩ := h.ex
  refine (plays_putO w X bt br p K O uf Ot Or hP hw who to leave key value (by omega)).mono ?_
  rintro e Y ⟨rfl, Ot', Or', hP', hk, ho⟩
  exact ⟨rfl, h.step hP hH hap hP' hk ho (by have := putO_le O key; omega) B⟩
theorem Amid.took (h : Amid w B7 B8 B10 B12 bt br bw vm vt v p0 K0 O0 uf0 m Z X) (hw : Tz w) (who to leave key value : Int) (B : Nat) :
    Calls Tryd.prog 14 #[.pointer (some ⟨bt, 0, none⟩), .pointer (some ⟨br, 0, none⟩), stepV 3 who to leave key value] X fun e Y => e = .returned (.bool true) ∧ Amid w B7 B8 B10 B12 bt br bw vm vt v p0 K0 O0 uf0 m Z Y ∧ Still B X Y := by
  obtain ⟨p, K, O, uf, Ot, Or, Ow, hP, hH, hap, hO⟩ := h.ex
  refine (plays_takeO w X bt br p K O uf Ot Or hP hw who to leave key value).mono ?_
  rintro e Y ⟨rfl, Ot', Or', hP', hk, ho⟩
  exact ⟨rfl, h.step hP hH hap hP' hk ho (by have := List.length_filter_le (fun q => decide (q ≠ key)) O; omega) B⟩
theorem Amid.tells (h : Amid w B7 B8 B10 B12 bt br bw vm vt v p0 K0 O0 uf0 m Z X) (hw : Tz w) (hZ : Z < 4398046511000) (key : Int) :
    Calls Tryd.prog 15 #[.pointer (some ⟨bt, 0, none⟩), .pointer (some ⟨br, 0, none⟩), .int .u64 key] X fun e Y => e = .returned (.bool true) ∧ Below X.heap.size X Y := by
  obtain ⟨p, K, O, uf, Ot, Or, Ow, hP, hH, hap, hO⟩ := h.ex
  exact tells_at w X bt br p K O uf Ot Or hP hw key (by omega)
theorem Amid.count (h : Amid w B7 B8 B10 B12 bt br bw vm vt v p0 K0 O0 uf0 m Z X) (hBn : w.heap.size + 3 ≤ B12) (h10 : B10 ≠ B12) (h7 : B7 ≠ B12) (h8 : B8 ≠ B12) (u : Int) (B : Nat) : Amid w B7 B8 B10 B12 bt br bw vm vt v p0 K0 O0 uf0 u Z (X.setCell ⟨B12, 0, none⟩ (.int .i64 u)) ∧ Still B X (X.setCell ⟨B12, 0, none⟩ (.int .i64 u)) := by
  obtain ⟨p, K, O, uf, Ot, Or, Ow, hP, hH, hap, hO⟩ := h.ex
  have ho : ∀ q, q ≠ B12 → (X.setCell ⟨B12, 0, none⟩ (.int .i64 u)).heap[q]? = X.heap[q]? := fun q hq => Below.heap_setCell X ⟨B12, 0, none⟩ _ q hq
  have hfree := hP.free h.bx.n (by decide)
  have hk : Keeps (fun q => q = B12) X (X.setCell ⟨B12, 0, none⟩ (.int .i64 u)) := Keeps.setCell (S := fun q => q = B12) (Keeps.refl _ X) (p := ⟨B12, 0, none⟩) (.inr rfl) _
  have hB : Below w.heap.size w (X.setCell ⟨B12, 0, none⟩ (.int .i64 u)) := h.below.setCell (p := ⟨B12, 0, none⟩) (by show w.heap.size ≤ B12; omega) _
  refine ⟨⟨⟨p, K, O, uf, Ot, Or, Ow, ⟨hP.t.kept hk (fun q hq e => hfree (.inl (e ▸ hq))), hP.r.kept hk (fun q hq e => hfree (.inr (e ▸ hq))), hP.bt, hP.br, hP.apart, hB⟩, hH.kept hk (fun q hq e => ?_), hap, hO⟩, ⟨⟨?_, ?_, ?_, ?_, ?_⟩, ?_, ?_⟩⟩, ⟨?_, ?_⟩⟩
  · subst e
    obtain ⟨c, t, fr, h1, h2⟩ := hH.cells hq
    rw [h.bx.n] at h1
    cases h1
    exact h2.2 rfl
  · exact (ho _ (by omega)).trans h.bx.bx.more
  · exact (ho _ (by omega)).trans h.bx.bx.take
  · exact (ho _ (by omega)).trans h.bx.bx.res
  · exact (ho _ h7).trans h.bx.bx.t
  · exact (ho _ h8).trans h.bx.bx.r
  · exact (ho _ h10).trans h.bx.was
  · exact block_set h.bx.n 0 _
  · exact keepsFrom_set X _ _
  · exact ⟨by simp, fun j c hj _ => (ho j (fun e => by subst e; have := h.bx.n; rw [hj] at this; cases this)).trans hj, fun j x hj => (ho j (fun e => by subst e; have := h.bx.n; rw [hj] at this; cases this)).trans hj⟩
end

/-- Between two rounds. -/
def MwI (w : World) (B7 B8 B10 B12 bt br bw : Nat) (vm vt v : Value) (p0 : Nat) (K0 : List (Option Int)) (O0 : List Int) (uf0 : Int → Int) (pre : List (Int × Int)) (X : World) : Prop :=
  Amid w B7 B8 B10 B12 bt br bw vm vt v p0 K0 O0 uf0 pre.length (O0.length + pre.length) X ∧ pre = (tellsL O0 uf0).take pre.length
theorem mwI_own (w : World) (B7 B8 B10 B12 bt br bw : Nat) (vm vt v : Value) (p0 : Nat) (K0 : List (Option Int)) (O0 : List Int) (uf0 : Int → Int) {B : Nat} (hB : w.heap.size ≤ B) : OwnFrom B (MwI w B7 B8 B10 B12 bt br bw vm vt v p0 K0 O0 uf0) :=
  fun pre X Y row ⟨h1, h2⟩ hg hr => ⟨h1.own hg (fun r e => (hr r e).2) (ownFrom_below (Nat.le_refl _) hB pre X Y row h1.below hg hr), h2⟩
end Go.Proofs.YtbhocajmcfdffaaDoor
