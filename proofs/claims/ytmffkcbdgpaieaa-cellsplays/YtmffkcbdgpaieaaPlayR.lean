/-
  A statement that leaves its order open, outside a round: its loads taken first; what is not wanted is passed by. No statement of the seat is proved here.
-/
import Derived.Test.YtmffkcbdgpaieaaRoundB
import Derived.Test.YtmffkcbdgpaieaaPlayL
namespace Go.Proofs.Ytmffkcbdgpaieaa
open Go.RowKit
section
variable {P : Program} {ops : Array Oper} {Q : Exit → Act → World → Prop} {md : Region.Mode}

theorem wp_region_held_end {id : Nat} {a : Act} {w : World} {S : World → Prop} (N : Nat) (hN : ops.size = N) (hm : P.follows .mixedOrders = true)
    (h : wpAnyH P .any ops (atEnd (Q .normal)) S N (Array.replicate N false) a w.drew) : (Code.region id ops true).wp P Q a w := by
  subst hN
  exact Code.wp_mono (fun e a w h => by cases e <;> first | exact h | exact h.elim) (wp_region_held hm h)
/-- Number i is not wanted. -/
theorem held_skip {S : World → Prop} {i : Nat} {oi : Oper} {K : Act → World → Prop} {fuel : Nat} {listed : Array Bool} {a : Act} {w : World} (d : Nat) (hi : ops[i]? = some oi) (hdst : oi.dst = some d)
    (hs : Region.noSelect ops = true) (hf : Region.free md ops listed i = true) (hr : (Region.ready md ops listed).contains i = true) (hw : Region.wanted oi (yielded ops a.tmps) = false) (hS : S w)
    (h : wpAnyH P md ops (atEnd K) S fuel (listed.setIfInBounds i true) (a.put (some d) undef) w) : wpAnyH P md ops (atEnd K) S (fuel + 1) listed a w :=
  wpAnyH_take hi hs hf hr (fun _ _ _ h => h.elim) (.inr ⟨hw, rfl⟩) hS (by rw [hdst]; exact h)
end

/-- What the statement of a step reads: the step, and two places of both arrays. -/
structure Held (bs bt br : Nat) (st : Array Value) (wh tt : Nat) (P Q : Nat → Option Addr) (w : World) : Prop where
  box : w.heap[bs]? = some (.cells st 40 (0, 0))
  t1 : w.cell? ⟨bt, wh, none⟩ = some (.pointer (P wh))
  r1 : w.cell? ⟨br, wh, none⟩ = some (.pointer (Q wh))
  t2 : w.cell? ⟨bt, tt, none⟩ = some (.pointer (P tt))
  r2 : w.cell? ⟨br, tt, none⟩ = some (.pointer (Q tt))
theorem Three.held {B bt br bs : Nat} {W : World} {P Q : Nat → Option Addr} {F : Nat → Nat → Prop} {st : Array Value} {wh tt : Nat} (h : Three B bt br W P Q F) (hb : W.heap[bs]? = some (.cells st 40 (0, 0))) (hw : wh < 3) (ht : tt < 3) : Held bs bt br st wh tt P Q W :=
  ⟨hb, h.cellT wh hw, h.cellR wh hw, h.cellT tt ht, h.cellR tt ht⟩

theorem Reads.under {w w' : World} {sp : Option Addr} {ws : List Int} (h : Reads w sp ws) (k : Below w.heap.size w w') : Reads w' sp ws := fun i hi => by
  obtain ⟨a, rfl, h1⟩ := h i hi
  exact ⟨a, rfl, (k.cell (World.block_lt_of_cell? _ _ h1)).trans h1⟩

/-- A copy has taken a place. -/
theorem copied_three {B bt br : Nat} {W9 wC wD : World} {P Q : Nat → Option Addr} {F : Nat → Nat → Prop} (T : Three B bt br W9 P Q F) (tt : Nat) (ht : tt < 3) (p q : Option Addr) (kC : Keeps (fun _ => False) W9 wC) (kD : Keeps (fun _ => False) (wC.setCell ⟨bt, tt, none⟩ (.pointer p)) wD) (hBW : B ≤ W9.heap.size)
    (hB : Both (wD.setCell ⟨br, tt, none⟩ (.pointer q)) p q (fun x => W9.heap.size ≤ x ∧ x < wD.heap.size)) :
    Three B bt br (wD.setCell ⟨br, tt, none⟩ (.pointer q)) (upd P tt p) (upd Q tt q) (fun j => if j = tt then (fun x => W9.heap.size ≤ x ∧ x < wD.heap.size) else F j) ∧ Keeps (fun x => x = bt ∨ x = br) W9 (wD.setCell ⟨br, tt, none⟩ (.pointer q)) := by
  have k1 : Keeps (fun x => x = bt ∨ x = br) W9 wD := ((kC.mono (T := fun x => x = bt ∨ x = br) (fun _ _ f => f.elim)).setCell (p := ⟨bt, tt, none⟩) (.inr (.inl rfl)) _).trans (kD.mono (fun _ _ f => f.elim))
  have k2 := k1.setCell (p := ⟨br, tt, none⟩) (.inr (.inr rfl)) (.pointer q)
  refine ⟨T.set tt ht p q _ k2 hBW ?_ ?_ hB (fun x hx => ⟨hx.1, by simpa using hx.2⟩), k2⟩
  · refine (Below.heap_setCell wD ⟨br, tt, none⟩ _ bt T.ne).trans (kD.blk (block_set (kC.blk T.t (fun f => f)) tt _) (fun f => f))
  · have h1 : (wC.setCell ⟨bt, tt, none⟩ (.pointer p)).heap[br]? = _ := (Below.heap_setCell wC ⟨bt, tt, none⟩ _ br (Ne.symm T.ne)).trans (kC.blk T.r (fun f => f))
    exact block_set (kD.blk h1 (fun f => f)) tt _
theorem upd_self (A : Nat → Option Addr) (i : Nat) (p : Option Addr) : upd A i p i = p := by simp [upd]

end Go.Proofs.Ytmffkcbdgpaieaa
