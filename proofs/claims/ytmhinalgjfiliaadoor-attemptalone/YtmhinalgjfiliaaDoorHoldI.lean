
/-
  A table of the program's with what it holds and the blocks that are its own; each call on it. No statement of the seat is proved here.
-/
import Derived.Test.YtmhinalgjfiliaaDoorKeysI
import Derived.Test.YtmhinalgjfiliaaDoorTakeI
namespace Go.Proofs.YtmhinalgjfiliaaDoor.I
open Go.RowKit Go.Shelf

/-- A table that is in order, with its own blocks. -/
def Holds (w : World) (b p : Nat) (K : List (Option Int)) (O : List Int) (vf : Int → Value) (Ow : Nat → Prop) : Prop :=
  ∃ s e0 bf, Good w b s e0 p K O bf vf ∧ ∀ q, Ow q ↔ Own b s e0 O bf q

section
variable {w w' : World} {b p : Nat} {K : List (Option Int)} {O : List Int} {vf : Int → Value} {Ow : Nat → Prop}

theorem Good.kept {s e0 : Nat} {bf : Int → Nat} {S : Nat → Prop} (h : Good w b s e0 p K O bf vf) (k : Keeps S w w') (hS : ∀ q, Own b s e0 O bf q → ¬ S q) : Good w' b s e0 p K O bf vf :=
  ⟨h.tab.kept k hS, h.inv, h.load, h.p3, h.p40, h.many⟩
theorem Holds.kept {S : Nat → Prop} (h : Holds w b p K O vf Ow) (k : Keeps S w w') (hS : ∀ q, Ow q → ¬ S q) : Holds w' b p K O vf Ow := by
  obtain ⟨s, e0, bf, hG, hO⟩ := h
  exact ⟨s, e0, bf, hG.kept k (fun q hq => hS q ((hO q).2 hq)), hO⟩
theorem Holds.like {a : World} (h : Holds w b p K O vf Ow) (l : Like a w) : Holds a b p K O vf Ow := by
  obtain ⟨s, e0, bf, hG, hO⟩ := h
  exact ⟨s, e0, bf, hG.like l, hO⟩
theorem Holds.below (h : Holds w b p K O vf Ow) (k : Below w.heap.size w w') : Holds w' b p K O vf Ow :=
  h.kept (Keeps.of_below k (fun _ => False)) (fun _ _ f => f)
theorem Holds.lt (h : Holds w b p K O vf Ow) {q : Nat} (hq : Ow q) : q < w.heap.size := by
  obtain ⟨s, e0, bf, hG, hO⟩ := h
  exact hG.tab.lt ((hO q).1 hq)
theorem Holds.self (h : Holds w b p K O vf Ow) : Ow b := by
  obtain ⟨s, e0, bf, hG, hO⟩ := h
  exact (hO b).2 (.inl rfl)
theorem Holds.inv (h : Holds w b p K O vf Ow) : Inv (2 ^ p) (homeP p) K O := by
  obtain ⟨s, e0, bf, hG, hO⟩ := h
  exact hG.inv
theorem Holds.load (h : Holds w b p K O vf Ow) : 4 * O.length ≤ 3 * 2 ^ p := by
  obtain ⟨s, e0, bf, hG, hO⟩ := h
  exact hG.load
theorem Holds.p38 (h : Holds w b p K O vf Ow) : p ≤ 45 := by
  obtain ⟨s, e0, bf, hG, hO⟩ := h
  exact hG.p40
theorem Holds.p3 (h : Holds w b p K O vf Ow) : 3 ≤ p := by
  obtain ⟨s, e0, bf, hG, hO⟩ := h
  exact hG.p3
end

theorem hold_new (vf : Int → Value) (w : World) :
    Calls Tryd.prog 67 #[] w fun e w' => e = .returned (.pointer (some ⟨w.heap.size + 2, 0, none⟩)) ∧ (∃ Ow, Holds w' (w.heap.size + 2) 3 (List.replicate 8 none) [] vf Ow ∧ ∀ q, Ow q → w.heap.size ≤ q) ∧ Keeps (fun _ => False) w w' := by
  refine (new_at vf w).mono fun e w' ⟨h1, h2, h3, h4⟩ => ⟨h1, ⟨_, ⟨_, _, _, ⟨h2, Inv.empty (fun k => homeP_lt 3 (by decide) k) (by decide), by decide, by decide, by decide, by decide⟩, fun q => Iff.rfl⟩, ?_⟩, h3⟩
  rintro q (rfl | rfl | rfl | ⟨k, hk, rfl⟩)
  · omega
  · omega
  · omega
  · cases hk

theorem hold_put (b p : Nat) (K : List (Option Int)) (O : List Int) (vf : Int → Value) (Ow : Nat → Prop) (k : Int) (v : Int) (w : World) (h : Holds w b p K O vf Ow) (hw : Tz w) (hpos : ∀ q, Ow q → 0 < q) (hO : O.length < 17592186044416) :
    Calls Tryd.prog 51 #[.pointer (some ⟨b, 0, none⟩), .int .u64 k, .int .i64 v] w fun e w' => e = .returned (.tuple #[if k ∈ O then vf k else Value.int .i64 0, .bool (decide (k ∈ O)), .int .i64 0]) ∧
      (∃ Ow', Holds w' b (putP p K O k).1 (putP p K O k).2 (putO O k) (upd vf k (.int .i64 v)) Ow' ∧ ∀ q, Ow' q → Ow q ∨ w.heap.size ≤ q) ∧ Keeps Ow w w' := by
  obtain ⟨s, e0, bf, hG, hOw⟩ := h
  refine (put_at b s e0 p K O bf vf k v w hG hw (fun q hq => hpos q ((hOw q).2 hq)) hO).mono ?_
  rintro e w' ⟨h1, s', bf', h2, h3, h4⟩
  exact ⟨h1, ⟨_, ⟨s', e0, bf', h2, fun q => Iff.rfl⟩, fun q hq => (h4 q hq).imp (hOw q).2 id⟩, h3.mono (fun q _ hq => (hOw q).2 hq)⟩

theorem filter_out {O : List Int} {k : Int} (hk : k ∉ O) : O.filter (fun q => decide (q ≠ k)) = O := by
  rw [List.filter_eq_self]
  intro q hq
  simp
  rintro rfl
  exact hk hq

theorem hold_slots (b p : Nat) (K : List (Option Int)) (O : List Int) (vf : Int → Value) (Ow : Nat → Prop) (w : World) (h : Holds w b p K O vf Ow) :
    Calls Tryd.prog 80 #[.pointer (some ⟨b, 0, none⟩)] w fun e w' => e = .returned (.int .i64 (2 ^ p : Nat)) ∧ w' = w := by
  obtain ⟨s, e0, bf, hG, hOw⟩ := h
  rw [← hG.inv.len]
  exact slots_at b _ K.length K.length w hG.tab.c0
end Go.Proofs.YtmhinalgjfiliaaDoor.I
