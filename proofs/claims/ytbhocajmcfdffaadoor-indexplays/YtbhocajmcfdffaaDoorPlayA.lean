/-
  The law's plays at two tables that are alike: Put, Get, Take. No statement of the seat is proved here.
-/
import Derived.Test.YtbhocajmcfdffaaDoorRHold
import Derived.Test.YtbhocajmcfdffaaDoorKnown
namespace Go.Proofs.YtbhocajmcfdffaaDoor
open Go.RowKit Go.Shelf

/-- A step of the laws. -/
def stepC (kind who to leave : Int) (key value : Int) : Array Value := #[.int .i64 kind, .int .i64 who, .int .i64 to, .int .i64 leave, .int .u64 key, .int .u64 value]
def stepV (kind who to leave : Int) (key value : Int) : Value := .agg (stepC kind who to leave key value)

/-- The slots behind a take. -/
def takeP (p : Nat) (K : List (Option Int)) (O : List Int) (key : Int) : List (Option Int) := if key ∈ O then takeN (2 ^ p) (homeP p) K (slotN (2 ^ p) K (homeP p key) key) else K

section
variable {w W : World} {bt br p : Nat} {K : List (Option Int)} {O : List Int} {uf : Int → Int} {Ot Or : Nat → Prop}
/-- The step's own block, behind the tables. -/
theorem Pair.laid (h : Pair w W bt br p K O uf Ot Or) (o : Obj) : Pair w (W.alloc o) bt br p K O uf Ot Or ∧ (W.alloc o).heap[W.heap.size]? = some o ∧ ¬ Ot W.heap.size ∧ ¬ Or W.heap.size :=
  ⟨h.both ((Below.refl _ W).alloc (Nat.le_refl _) o), alloc_block W o, fun e => by have := h.t.lt e; omega, fun e => by have := h.r.lt e; omega⟩
theorem keeps_both {o : Obj} {W1 W2 : World} (h1 : Keeps Ot (W.alloc o) W1) (h2 : Keeps Or W1 W2) : Keeps (fun q => Ot q ∨ Or q) W W2 :=
  (((Keeps.refl _ W).alloc o).step h1 (fun _ _ e => .inl e)).step h2 (fun _ _ e => .inr e)
end

set_option maxRecDepth 100000 in
set_option maxHeartbeats 1000000 in
theorem plays_put (w W : World) (bt br p : Nat) (K : List (Option Int)) (O : List Int) (uf : Int → Int) (Ot Or : Nat → Prop) (h : Pair w W bt br p K O uf Ot Or) (hw : Tz w) (who to leave key value : Int) (hO : O.length < 4398046511104) :
    Calls Tryd.prog 14 #[.pointer (some ⟨bt, 0, none⟩), .pointer (some ⟨br, 0, none⟩), stepV 1 who to leave key value] W fun e W' => e = .returned (.bool true) ∧
      ∃ Ot' Or', Pair w W' bt br (putP p K O key).1 (putP p K O key).2 (putO O key) (upd uf key value) Ot' Or' ∧ Keeps (fun q => Ot q ∨ Or q) W W' := by
  have h1 := hw.pos'
  obtain ⟨hA, hs, hnt, hnr⟩ := h.laid (.cells (stepC 1 who to leave key value) 31)
  have hkn := fun W1 W2 => keeps_both (W := W) (Ot := Ot) (Or := Or) (W1 := W1) (W2 := W2) (o := .cells (stepC 1 who to leave key value) 31)
  unfold stepV
  unfold stepC at *
  go_enter Tryd.func14, Tryd.ntmps14
  go_wp2_with fail
  generalize W.heap.size = N at *
  generalize W.alloc (.cells #[.int .i64 1, .int .i64 who, .int .i64 to, .int .i64 leave, .int .u64 key, .int .u64 value] 31) = WA at *
  refine (U.hold_put bt p K O (wv uf) Ot key value WA hA.t (hw.below hA.below) (hA.post h1) (by omega)).mono ?_
  rintro e W1 ⟨rfl, ⟨Ot', hHt, hOt⟩, hK1⟩
  rw [upd_wv] at hHt
  rw [if_wv]
  obtain ⟨hr1, hb1⟩ := hA.mid hK1
  have hs1 := hK1.old hs hnt
  have c4 : W1.cell? ⟨N, 4, none⟩ = some (.int .u64 key) := cell_of_block hs1 4
  have c5 : W1.cell? ⟨N, 5, none⟩ = some (.int .u64 value) := cell_of_block hs1 5
  have hput := R.hold_put br p K O uf Or key value W1 hr1 hO
  generalize (if key ∈ O then uf key else 0) = V at *
  generalize decide (key ∈ O) = d at *
  go_wp2_with fail
  refine hput.mono ?_
  rintro e W2 ⟨rfl, ⟨Or', hHr, hOr⟩, hK2⟩
  have hP := hA.step hHt hOt hK1 hHr hOr hK2
  have hsl := U.hold_slots bt _ _ _ _ _ W2 hP.t
  have hrl := R.hold_slots br _ _ _ _ _ W2 hP.r
  have hfin := hkn W1 W2 hK1 hK2
  generalize 2 ^ (putP p K O key).1 = q at hsl hrl
  clear hput c4 c5 hs1 hs hkn
  go_wp2_with (first
    | (go_at_call 40; refine (num_any _ _).mono ?_; rintro e w' ⟨rfl, hw'⟩; replace hw' := hw'.symm; subst hw')
    | (go_at_call 49; refine hsl.mono ?_; rintro e w' ⟨rfl, hw'⟩; replace hw' := hw'.symm; subst hw')
    | (go_at_call 50; refine hrl.mono ?_; rintro e w' ⟨rfl, hw'⟩; replace hw' := hw'.symm; subst hw'))
  go_ret
  exact ⟨rfl, _, _, hP, hfin⟩

set_option maxRecDepth 100000 in
set_option maxHeartbeats 1000000 in
theorem plays_get (w W : World) (bt br p : Nat) (K : List (Option Int)) (O : List Int) (uf : Int → Int) (Ot Or : Nat → Prop) (h : Pair w W bt br p K O uf Ot Or) (hw : Tz w) (who to leave key value : Int) :
    Calls Tryd.prog 14 #[.pointer (some ⟨bt, 0, none⟩), .pointer (some ⟨br, 0, none⟩), stepV 2 who to leave key value] W fun e W' => e = .returned (.bool true) ∧
      Pair w W' bt br p K O uf Ot Or ∧ Keeps (fun _ => False) W W' := by
  obtain ⟨hA, hs, hnt, hnr⟩ := h.laid (.cells (stepC 2 who to leave key value) 31)
  have hkn : Keeps (fun _ => False) W (W.alloc (.cells (stepC 2 who to leave key value) 31)) := (Keeps.refl _ W).alloc _
  unfold stepV
  unfold stepC at *
  go_enter Tryd.func14, Tryd.ntmps14
  go_wp2_with fail
  generalize W.heap.size = N at *
  generalize W.alloc (.cells #[.int .i64 2, .int .i64 who, .int .i64 to, .int .i64 leave, .int .u64 key, .int .u64 value] 31) = WA at *
  have c4 : WA.cell? ⟨N, 4, none⟩ = some (.int .u64 key) := cell_of_block hs 4
  have hg := U.hold_get bt p K O (wv uf) Ot key WA hA.t (hw.below hA.below)
  rw [if_wv] at hg
  have hr := R.hold_get br p K O uf Or key WA hA.r
  generalize (if key ∈ O then uf key else 0) = V at *
  generalize decide (key ∈ O) = d at *
  refine hg.mono ?_
  rintro e W1 ⟨rfl, hW1⟩
  replace hW1 := hW1.symm
  subst hW1
  go_wp2_with fail
  refine hr.mono ?_
  rintro e W2 ⟨rfl, m, hW2⟩
  subst hW2
  go_wp2_with fail
  go_ret
  exact ⟨rfl, hA.like (like_drewN WA m), hkn.os, hkn.tape, hkn.output, hkn.size, hkn.block⟩

set_option maxRecDepth 100000 in
set_option maxHeartbeats 1000000 in
theorem plays_take (w W : World) (bt br p : Nat) (K : List (Option Int)) (O : List Int) (uf : Int → Int) (Ot Or : Nat → Prop) (h : Pair w W bt br p K O uf Ot Or) (hw : Tz w) (who to leave key value : Int) :
    Calls Tryd.prog 14 #[.pointer (some ⟨bt, 0, none⟩), .pointer (some ⟨br, 0, none⟩), stepV 3 who to leave key value] W fun e W' => e = .returned (.bool true) ∧
      ∃ Ot' Or', Pair w W' bt br p (takeP p K O key) (O.filter (fun q => decide (q ≠ key))) uf Ot' Or' ∧ Keeps (fun q => Ot q ∨ Or q) W W' := by
  have h1 := hw.pos'
  obtain ⟨hA, hs, hnt, hnr⟩ := h.laid (.cells (stepC 3 who to leave key value) 31)
  have hkn := fun W1 W2 => keeps_both (W := W) (Ot := Ot) (Or := Or) (W1 := W1) (W2 := W2) (o := .cells (stepC 3 who to leave key value) 31)
  unfold stepV
  unfold stepC at *
  go_enter Tryd.func14, Tryd.ntmps14
  go_wp2_with fail
  generalize W.heap.size = N at *
  generalize W.alloc (.cells #[.int .i64 3, .int .i64 who, .int .i64 to, .int .i64 leave, .int .u64 key, .int .u64 value] 31) = WA at *
  refine (U.hold_take bt p K O (wv uf) Ot key WA hA.t (hw.below hA.below) (hA.post h1)).mono ?_
  rintro e W1 ⟨rfl, ⟨Ot', hHt, hOt⟩, hK1⟩
  rw [if_wv]
  obtain ⟨hr1, hb1⟩ := hA.mid hK1
  have hs1 := hK1.old hs hnt
  have c4 : W1.cell? ⟨N, 4, none⟩ = some (.int .u64 key) := cell_of_block hs1 4
  have htake := R.hold_take br p K O uf Or key W1 hr1 (by have := hb1.size; omega)
  generalize (if key ∈ O then uf key else 0) = V at *
  generalize hd : decide (key ∈ O) = d at *
  go_wp2_with fail
  refine htake.mono ?_
  rintro e W2 ⟨rfl, ⟨Or', hHr, hOr⟩, hK2⟩
  have hP : Pair w W2 bt br p (takeP p K O key) _ uf Ot' Or' := hA.step hHt (fun q hq => .inl (hOt q hq)) hK1 hHr hOr hK2
  have hfin := hkn W1 W2 hK1 hK2
  clear htake c4 hs1 hs hkn hHt hHr
  go_wp2_with fail
  go_ret
  exact ⟨rfl, _, _, hP, hfin⟩
end Go.Proofs.YtbhocajmcfdffaaDoor
