/-
  A table of the document's answer with what it holds and the blocks that are its own; each call on it; and a table of the program's beside it. No statement of the seat is proved here.
-/
import Derived.Test.YtbhocajmcfdffaaDoorRefK
import Derived.Test.YtbhocajmcfdffaaDoorHoldGU
namespace Go.Proofs.YtbhocajmcfdffaaDoor.R
open Go.RowKit Go.Shelf

def Holds (w : World) (b p : Nat) (K : List (Option Int)) (O : List Int) (uf : Int → Int) (Ow : Nat → Prop) : Prop := ∃ s v, Fine w b s p K O uf v ∧ ∀ q, Ow q ↔ ROwn b s v q

section
variable {w w' : World} {b p : Nat} {K : List (Option Int)} {O : List Int} {uf : Int → Int} {Ow : Nat → Prop}
theorem Holds.kept {S : Nat → Prop} (h : Holds w b p K O uf Ow) (k : Keeps S w w') (hS : ∀ q, Ow q → ¬ S q) : Holds w' b p K O uf Ow := by
  obtain ⟨s, v, hG, hO⟩ := h
  exact ⟨s, v, hG.kept k (fun q hq => hS q ((hO q).2 hq)), hO⟩
theorem Holds.like {a : World} (h : Holds w b p K O uf Ow) (l : Like a w) : Holds a b p K O uf Ow := by
  obtain ⟨s, v, hG, hO⟩ := h
  exact ⟨s, v, hG.like l, hO⟩
theorem Holds.lt (h : Holds w b p K O uf Ow) {q : Nat} (hq : Ow q) : q < w.heap.size := by
  obtain ⟨s, v, hG, hO⟩ := h
  exact hG.tab.lt ((hO q).1 hq)
theorem Holds.many (h : Holds w b p K O uf Ow) : O.length ≤ 4398046511104 := by
  obtain ⟨s, v, hG, hO⟩ := h
  exact hG.many
end

theorem hold_new (uf : Int → Int) (w : World) :
    Calls Tryd.prog 10 #[] w fun e w' => e = .returned (.pointer (some ⟨w.heap.size + 1, 0, none⟩)) ∧ (∃ Ow, Holds w' (w.heap.size + 1) 3 (List.replicate 8 none) [] uf Ow ∧ ∀ q, Ow q → w.heap.size ≤ q) ∧ Keeps (fun _ => False) w w' := by
  refine (new_at uf w).mono fun e w' ⟨h1, h2, h3⟩ => ⟨h1, ⟨_, ⟨_, _, h2, fun q => Iff.rfl⟩, ?_⟩, h3⟩
  rintro q (rfl | rfl | h)
  · omega
  · omega
  · simp [Value.ownBlock] at h

theorem hold_put (b p : Nat) (K : List (Option Int)) (O : List Int) (uf : Int → Int) (Ow : Nat → Prop) (k u : Int) (w : World) (h : Holds w b p K O uf Ow) (hO : O.length < 4398046511104) :
    Calls Tryd.prog 48 #[.pointer (some ⟨b, 0, none⟩), .int .u64 k, .int .u64 u] w fun e w' => e = .returned (.tuple #[.int .u64 (if k ∈ O then uf k else 0), .bool (decide (k ∈ O)), .int .i64 0]) ∧
      (∃ Ow', Holds w' b (putP p K O k).1 (putP p K O k).2 (putO O k) (upd uf k u) Ow' ∧ ∀ q, Ow' q → Ow q ∨ w.heap.size ≤ q) ∧ Keeps Ow w w' := by
  obtain ⟨s, v, hG, hOw⟩ := h
  refine (put_at b s p K O uf v k u w hG hO).mono ?_
  rintro e w' ⟨h1, s', v', h2, h3, h4⟩
  exact ⟨h1, ⟨_, ⟨s', v', h2, fun q => Iff.rfl⟩, fun q hq => (h4 q hq).imp (hOw q).2 id⟩, h3.mono (fun q _ hq => (hOw q).2 hq)⟩

theorem hold_take (b p : Nat) (K : List (Option Int)) (O : List Int) (uf : Int → Int) (Ow : Nat → Prop) (k : Int) (w : World) (h : Holds w b p K O uf Ow) (h1 : 1 ≤ w.heap.size) :
    Calls Tryd.prog 53 #[.pointer (some ⟨b, 0, none⟩), .int .u64 k] w fun e w' => e = .returned (.tuple #[.int .u64 (if k ∈ O then uf k else 0), .bool (decide (k ∈ O))]) ∧
      (∃ Ow', Holds w' b p (if k ∈ O then takeN (2 ^ p) (homeP p) K (slotN (2 ^ p) K (homeP p k) k) else K) (O.filter (fun q => decide (q ≠ k))) uf Ow' ∧ ∀ q, Ow' q → Ow q ∨ w.heap.size ≤ q) ∧ Keeps Ow w w' := by
  obtain ⟨s, v, hG, hOw⟩ := h
  by_cases hk : k ∈ O
  · simp only [if_pos hk, decide_eq_true hk]
    refine (take_in b s p K O uf v k w hG h1 hk).mono ?_
    rintro e w' ⟨h1, v', h2, h3, h4⟩
    refine ⟨h1, ⟨_, ⟨s, v', h2, fun q => Iff.rfl⟩, fun q hq => ?_⟩, h3.mono (fun q _ hq => (hOw q).2 hq)⟩
    rcases hq with e | e | e
    · exact .inl ((hOw q).2 (.inl e))
    · exact .inl ((hOw q).2 (.inr (.inl e)))
    · exact .inr (h4 q e)
  · simp only [if_neg hk, decide_eq_false hk, U.filter_out hk]
    refine (take_out b s p K O uf v k w hG hk).mono ?_
    rintro e w' ⟨he, rfl⟩
    exact ⟨he, ⟨Ow, ⟨s, v, hG, hOw⟩, fun q hq => .inl hq⟩, Keeps.refl _ _⟩

theorem hold_get (b p : Nat) (K : List (Option Int)) (O : List Int) (uf : Int → Int) (Ow : Nat → Prop) (k : Int) (w : World) (h : Holds w b p K O uf Ow) :
    Calls Tryd.prog 20 #[.pointer (some ⟨b, 0, none⟩), .int .u64 k] w fun e w' => e = .returned (.tuple #[.int .u64 (if k ∈ O then uf k else 0), .bool (decide (k ∈ O))]) ∧ Drew w w' := by
  obtain ⟨s, v, hG, hOw⟩ := h
  exact get_at b s p K O uf v k w hG
theorem hold_asked (b p : Nat) (K : List (Option Int)) (O : List Int) (uf : Int → Int) (Ow : Nat → Prop) (k : Int) (w : World) (h : Holds w b p K O uf Ow) :
    Calls Tryd.prog 18 #[.pointer (some ⟨b, 0, none⟩), .int .u64 k] w fun e w' => e = .returned (.int .i64 (lookN (2 ^ p) K (homeP p k) k + 1 : Nat)) ∧ w' = w := by
  obtain ⟨s, v, hG, hOw⟩ := h
  exact asked_at b s p K O uf v k w hG
theorem hold_len (b p : Nat) (K : List (Option Int)) (O : List Int) (uf : Int → Int) (Ow : Nat → Prop) (w : World) (h : Holds w b p K O uf Ow) :
    Calls Tryd.prog 21 #[.pointer (some ⟨b, 0, none⟩)] w fun e w' => e = .returned (.int .i64 O.length) ∧ w' = w := by
  obtain ⟨s, v, hG, hOw⟩ := h
  exact len_at b s p K O uf v w hG
theorem hold_slots (b p : Nat) (K : List (Option Int)) (O : List Int) (uf : Int → Int) (Ow : Nat → Prop) (w : World) (h : Holds w b p K O uf Ow) :
    Calls Tryd.prog 50 #[.pointer (some ⟨b, 0, none⟩)] w fun e w' => e = .returned (.int .i64 (2 ^ p : Nat)) ∧ w' = w := by
  obtain ⟨s, v, hG, hOw⟩ := h
  exact slots_at b s p K O uf v w hG
theorem hold_keys (b p : Nat) (K : List (Option Int)) (O : List Int) (uf : Int → Int) (Ow : Nat → Prop) (w : World) (h : Holds w b p K O uf Ow) :
    Calls Tryd.prog 58 #[.pointer (some ⟨b, 0, none⟩)] w fun e w' => ∃ v, e = .returned v ∧ w' = w ∧ Reads w v O ∧ ∀ q, some q = v.ownBlock → Ow q := by
  obtain ⟨s, v, hG, hOw⟩ := h
  exact (keys_at b s p K O uf v w hG).mono fun e w' ⟨h1, h2⟩ => ⟨v, h1, h2, hG.tab.reads hG.many, fun q hq => (hOw q).2 (.inr (.inr hq))⟩
end Go.Proofs.YtbhocajmcfdffaaDoor.R

namespace Go.Proofs.YtbhocajmcfdffaaDoor
open Go.RowKit Go.Shelf

/-- A value of words. -/
def wv (uf : Int → Int) : Int → Value := fun k => .int .u64 (uf k)
theorem upd_wv (uf : Int → Int) (k u : Int) : upd (wv uf) k (.int .u64 u) = wv (upd uf k u) := by
  funext q
  unfold wv upd
  split <;> rfl
theorem if_wv (uf : Int → Int) (O : List Int) (k : Int) : (if k ∈ O then wv uf k else Value.int .u64 0) = .int .u64 (if k ∈ O then uf k else 0) := by
  split <;> rfl

/-- A table of the program's and one of the document's, alike, apart, all made since a world. -/
structure Pair (w0 W : World) (bt br p : Nat) (K : List (Option Int)) (O : List Int) (uf : Int → Int) (Ot Or : Nat → Prop) : Prop where
  t : U.Holds W bt p K O (wv uf) Ot
  r : R.Holds W br p K O uf Or
  bt : ∀ q, Ot q → w0.heap.size ≤ q
  br : ∀ q, Or q → w0.heap.size ≤ q
  apart : ∀ q, Ot q → ¬ Or q
  below : Below w0.heap.size w0 W

theorem Tz.below {w w' : World} (h : Tz w) (hb : Below w.heap.size w w') : Tz w' := fun i hi =>
  (hb.cell (p := ⟨0, i, none⟩) (World.block_lt_of_cell? _ _ (h i hi))).trans (h i hi)
theorem Tz.pos' {w : World} (h : Tz w) : 0 < w.heap.size := World.block_lt_of_cell? _ _ (h 0 (by decide))

section
variable {w W : World} {bt br p : Nat} {K : List (Option Int)} {O : List Int} {uf : Int → Int} {Ot Or : Nat → Prop}
theorem Pair.post (h : Pair w W bt br p K O uf Ot Or) (h1 : 0 < w.heap.size) : ∀ q, Ot q → 0 < q := fun q hq => Nat.lt_of_lt_of_le h1 (h.bt q hq)
theorem Pair.like {W1 : World} (h : Pair w W bt br p K O uf Ot Or) (l : Like W1 W) : Pair w W1 bt br p K O uf Ot Or :=
  ⟨h.t.like l, h.r.like l, h.bt, h.br, h.apart, ⟨l.os.trans h.below.os, l.tape.trans h.below.tape, l.output.trans h.below.output, by rw [l.heap]; exact h.below.size, fun k hk => by rw [l.heap]; exact h.below.block k hk⟩⟩
/-- Both tables are turned, one behind the other. -/
theorem Pair.step (h : Pair w W bt br p K O uf Ot Or) {W1 W2 : World} {p' : Nat} {K' : List (Option Int)} {O' : List Int} {uf' : Int → Int} {Ot' Or' : Nat → Prop}
    (ht : U.Holds W1 bt p' K' O' (wv uf') Ot') (hot : ∀ q, Ot' q → Ot q ∨ W.heap.size ≤ q) (hk1 : Keeps Ot W W1) (hu : R.Holds W2 br p' K' O' uf' Or') (hou : ∀ q, Or' q → Or q ∨ W1.heap.size ≤ q) (hk2 : Keeps Or W1 W2) :
    Pair w W2 bt br p' K' O' uf' Ot' Or' := by
  have hsz := h.below.size
  have hs1 := hk1.size
  have hap : ∀ q, Ot' q → ¬ Or q := fun q hq hu => by
    rcases hot q hq with h1 | h1
    · exact h.apart q h1 hu
    · have := h.r.lt hu; omega
  refine ⟨ht.kept hk2 hap, hu, fun q hq => ?_, fun q hq => ?_, fun q hq hu => ?_, (h.below.trans (hk1.below _ hsz h.bt)).trans (hk2.below _ (by omega) h.br)⟩
  · rcases hot q hq with h1 | h1
    · exact h.bt q h1
    · omega
  · rcases hou q hq with h1 | h1
    · exact h.br q h1
    · omega
  · rcases hou q hu with h1 | h1
    · exact hap q hq h1
    · have := ht.lt hq; omega
theorem Pair.mid (h : Pair w W bt br p K O uf Ot Or) {W1 : World} (hk1 : Keeps Ot W W1) : R.Holds W1 br p K O uf Or ∧ Below w.heap.size w W1 :=
  ⟨h.r.kept hk1 (fun q hu ht => h.apart q ht hu), h.below.trans (hk1.below _ h.below.size h.bt)⟩
theorem Pair.both (h : Pair w W bt br p K O uf Ot Or) {W1 : World} (hb : Below W.heap.size W W1) : Pair w W1 bt br p K O uf Ot Or :=
  ⟨h.t.below hb, h.r.kept (Keeps.of_below hb (fun _ => False)) (fun _ _ f => f), h.bt, h.br, h.apart, h.below.trans (hb.mono h.below.size)⟩
end
end Go.Proofs.YtbhocajmcfdffaaDoor
