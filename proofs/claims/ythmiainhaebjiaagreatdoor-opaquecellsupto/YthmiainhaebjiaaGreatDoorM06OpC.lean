/-
  No statement of the seat is proved here. (Several texts in one: OpC, ARound, ARoundB, ARoundC, OpD.)
-/
import Derived.Test.YthmiainhaebjiaaGreatDoorM05WiB
import Derived.Deep.RegionHeld3
import Derived.Test.YthmiainhaebjiaaGreatDoorM00CMem
import Derived.Shelf.Abstract
import Derived.Shelf.RegionOpen
import Derived.WalkKit
import Derived.OwnWalkIn
import Derived.TacticsInMore
import Derived.LoopNIn
import Derived.LoopIn
import Derived.Deep.Draws
import Derived.WalkMore
import Derived.ScopeJumps
import Derived.RangeFuncNested
import Derived.RangeFuncBound
import Derived.RangeFuncCalls
import Derived.RangeFuncLeaves
import Derived.OrdersIn
import Derived.OrdersHeld
import Derived.Deep.QuietTactic
import Derived.BigQuiet

/- Walks of isPlain, has, misses, IndexFunc (layer 16). No statement of the seat is proved here. -/
namespace Go.Proofs.YthmiainhaebjiaaGreatDoor
open Go.RowKit Go.Shelf

def plainE (e : Ev) : Bool := decide (e.kd = 10) || decide (e.kd = 11)
def missE (n : Nat) (e : Ev) : Bool := (decide (e.kd = 2) || decide (e.kd = 3)) && !decide (e.ad < n)
def idxF {α : Type} (f : α → Bool) : List α → Nat → Int
  | [], _ => -1
  | x :: l, k => if f x then (k : Int) else idxF f l (k + 1)
theorem idxF_in {α : Type} (f : α → Bool) : ∀ (l : List α) (k : Nat), idxF f l k = -1 ∧ (∀ x ∈ l, f x = false) ∨ (∃ j : Nat, idxF f l k = ((k + j : Nat) : Int) ∧ j < l.length ∧ ∀ h : j < l.length, f (l[j]) = true)
  | [], _ => .inl ⟨rfl, fun x hx => by simp at hx⟩
  | x :: l, k => by
    rw [idxF]
    by_cases h : f x = true
    · rw [if_pos h]
      exact .inr ⟨0, by simp, by simp, fun _ => h⟩
    · rw [if_neg h]
      rcases idxF_in f l (k + 1) with ⟨q, h2⟩ | ⟨j, h1, h2, h3⟩
      · exact .inl ⟨q, fun y hy => by
          rcases List.mem_cons.1 hy with rfl | hy
          · simpa using h
          · exact h2 y hy⟩
      · exact .inr ⟨j + 1, by rw [h1]; congr 1; omega, by simp; omega, fun hh => by simpa using h3 h2⟩
theorem bool_cases2 (b : Bool) : b = true ∨ b = false := by cases b <;> simp

def cmpI (x y : Int) : Int := if x < y then -1 else if y < x then 1 else 0
set_option maxRecDepth 100000 in
set_option maxHeartbeats 4000000 in
theorem cmpN_any (x y : Int) (w : World) : Calls Tryz.prog 66 #[.int .i64 x, .int .i64 y] w fun e w' => e = .returned (.int .i64 (cmpI x y)) ∧ w' = w := by
  unfold cmpI
  by_cases h1 : x < y
  · rw [if_pos h1]
    go_enter Tryz.func66, Tryz.ntmps66
    go_wp2
    go_ret
    exact ⟨rfl, rfl⟩
  · rw [if_neg h1]
    by_cases h2 : y < x
    · rw [if_pos h2]
      have h3 : x > y := h2
      go_enter Tryz.func66, Tryz.ntmps66
      go_wp2
      go_ret
      exact ⟨rfl, rfl⟩
    · rw [if_neg h2]
      have h3 : ¬ x > y := h2
      go_enter Tryz.func66, Tryz.ntmps66
      go_wp2
      go_ret
      exact ⟨rfl, rfl⟩

set_option maxRecDepth 100000 in
set_option maxHeartbeats 4000000 in
theorem isPlain_any (e : Ev) (w : World) : Calls Tryz.prog 40 #[.agg e.cells] w fun ex w' => ex = .returned (.bool (plainE e)) ∧ Keeps (fun _ => False) w w' := by
  have k0 := (Keeps.refl (fun _ => False) w).alloc (.cells e.cells 60)
  unfold plainE
  obtain ⟨th, kd, ad, wd, own, er⟩ := e
  dsimp only at k0 ⊢
  by_cases h1 : kd = 10
  · subst h1
    go_enter Tryz.func40, Tryz.ntmps40
    go_wp2
    go_ret
    exact ⟨rfl, k0⟩
  · have h1b : (kd == 10) = false := by rw [beq_eq_false_iff_ne]; exact h1
    rw [decide_eq_false h1]
    by_cases h2 : kd = 11
    · subst h2
      go_enter Tryz.func40, Tryz.ntmps40
      go_wp2
      go_ret
      exact ⟨rfl, k0⟩
    · have h2b : (kd == 11) = false := by rw [beq_eq_false_iff_ne]; exact h2
      rw [decide_eq_false h2]
      go_enter Tryz.func40, Tryz.ntmps40
      go_wp2
      go_ret
      exact ⟨rfl, k0⟩

set_option maxRecDepth 100000 in
set_option maxHeartbeats 4000000 in
theorem phas_any (pb n cap : Nat) (a : Option Addr) (ad : Int) (w : World) (c0 : w.cell? ⟨pb, 0, none⟩ = some (.slice a n cap)) (hn : n ≤ 65536) : Calls Tryz.prog 28 #[.pointer (some ⟨pb, 0, none⟩), .int .u64 ad] w fun ex w' => ex = .returned (.bool (decide (ad < (n : Int)))) ∧ w' = w := by
  have hw : IntKind.u64.wrap (n : Int) = n := by rw [IntKind.wrap_u64]; omega
  go_enter Tryz.func28, Tryz.ntmps28
  go_wp2
  go_ret
  exact ⟨rfl, rfl⟩

set_option maxRecDepth 100000 in
set_option maxHeartbeats 4000000 in
theorem misses_any (pb n cap : Nat) (a : Option Addr) (e : Ev) (w : World) (c0 : w.cell? ⟨pb, 0, none⟩ = some (.slice a n cap)) (hn : n ≤ 65536) : Calls Tryz.prog 41 #[.pointer (some ⟨pb, 0, none⟩), .agg e.cells] w fun ex w' => ex = .returned (.bool (missE n e)) ∧ Keeps (fun _ => False) w w' := by
  have k0 := (Keeps.refl (fun _ => False) w).alloc (.cells e.cells 60)
  have HH := fun ad => phas_any pb n cap a ad _ (k0.cellB (fun f => f) c0) hn
  unfold missE
  obtain ⟨th, kd, ad, wd, own, er⟩ := e
  dsimp only at k0 HH ⊢
  have HH := HH ad
  obtain ⟨q, hq⟩ : ∃ q, q = decide (ad < (n : Int)) := ⟨_, rfl⟩
  rw [← hq] at HH ⊢
  clear hq c0
  by_cases h1 : kd = 2
  · subst h1
    go_enter Tryz.func41, Tryz.ntmps41
    go_wp2_with fail
    refine HH.mono ?_
    rintro ex w2 ⟨rfl, rfl⟩
    go_wp2_with fail
    go_ret
    exact ⟨by simp, k0⟩
  · have h1b : (kd == 2) = false := by rw [beq_eq_false_iff_ne]; exact h1
    rw [decide_eq_false h1]
    by_cases h2 : kd = 3
    · subst h2
      go_enter Tryz.func41, Tryz.ntmps41
      go_wp2_with fail
      refine HH.mono ?_
      rintro ex w2 ⟨rfl, rfl⟩
      go_wp2_with fail
      go_ret
      exact ⟨by simp, k0⟩
    · have h2b : (kd == 3) = false := by rw [beq_eq_false_iff_ne]; exact h2
      rw [decide_eq_false h2]
      clear HH
      go_enter Tryz.func41, Tryz.ntmps41
      go_wp2_with fail
      go_ret
      exact ⟨rfl, k0⟩

set_option maxRecDepth 100000 in
set_option maxHeartbeats 4000000 in
theorem idx_plain (v : Value) (L : List Ev) (w : World) (hv : EvsAt w v L) : Calls Tryz.prog 39 #[v, .func (.func 40) #[] #[]] w fun ex w' => ex = .returned (.int .i64 (idxF (plainE) L 0)) ∧ Keeps (fun _ => False) w w' := by
  have hbig := hv.big
  have HV : Hid (∀ X, Keeps (fun _ => False) w X → EvsAt X v L) := fun X k => hv.keeps k
  obtain ⟨a1, cap1, rfl, hcap⟩ := hv.els.shape
  clear hv
  obtain ⟨z, hz⟩ : ∃ z, z = idxF (plainE) L 0 := ⟨_, rfl⟩
  rw [← hz]
  have HZ : Hid (z = idxF (plainE) L 0) := hz
  clear hz
  go_enter Tryz.func39, Tryz.ntmps39
  go_wp2_with fail
  go_loopw [8] (fun u wr => ∃ k : Nat, u = .int .i64 k ∧ k ≤ L.length ∧ Hid (z = idxF (plainE) (L.drop k) k) ∧ Keeps (fun _ => False) w wr) (fun u _ => L.length - (intOf u).toNat)
  case atStart => exact ⟨0, rfl, Nat.zero_le _, HZ.out, Keeps.refl _ _⟩
  case round =>
    obtain ⟨k, rfl, hk, hh, kr⟩ := hrel
    by_cases hlt : k < L.length
    · have hki : (k : Int) < L.length := by omega
      have hk0 : (0 : Int) ≤ k := by omega
      obtain ⟨g, off, rfl, x0, x1, x2, x3, x4, x5⟩ := (HV.out wr kr).at k hlt
      have PL := isPlain_any (L[k]) wr
      have hst := hh.out
      rw [List.drop_eq_getElem_cons hlt, idxF] at hst
      generalize hev : L[k]'hlt = e at *
      clear hev
      have HP : Hid ((plainE) e = true ∨ (plainE) e = false) := bool_cases2 _
      obtain ⟨th, kd, ad, wd, own, er⟩ := e
      dsimp only at x0 x1 x2 x3 x4 x5
      rcases HP.out with hp | hp
      · rw [if_pos hp] at hst
        rw [hp] at PL
        clear hp HP HZ hh
        have HF : Hid (z = (k : Int)) := hst
        clear hst
        go_wp2_with fail
        refine PL.mono ?_
        rintro ex w2 ⟨rfl, k2⟩
        go_wp2_with fail
        go_ret
        exact ⟨by rw [HF.out]; rfl, kr.trans k2⟩
      · rw [if_neg (by rw [hp]; exact Bool.false_ne_true)] at hst
        rw [hp] at PL
        clear hp HP HZ hh
        have HF : Hid (z = _) := hst
        clear hst
        go_wp2_with fail
        refine PL.mono ?_
        rintro ex w2 ⟨rfl, k2⟩
        have kk := kr.trans k2
        clear PL x0 x1 x2 x3 x4 x5 k2
        go_wp2_with fail
        go_roundw
        · exact ⟨k + 1, by simp, by omega, HF.out, kk⟩
        · simp [intOf]; omega
    · obtain rfl : k = L.length := by omega
      have HF : Hid (z = -1) := by have := hh.out; rw [List.drop_length, idxF] at this; exact this
      clear hh
      go_wp2_with fail
      go_ret
      exact ⟨by rw [HF.out]; rfl, kr⟩

set_option maxRecDepth 100000 in
set_option maxHeartbeats 4000000 in
theorem idx_miss (v : Value) (L : List Ev) (pb n cap : Nat) (a : Option Addr) (w : World) (hv : EvsAt w v L) (c0 : w.cell? ⟨pb, 0, none⟩ = some (.slice a n cap)) (hn : n ≤ 65536) : Calls Tryz.prog 39 #[v, .func (.func 41) #[.pointer (some ⟨pb, 0, none⟩)] #[]] w fun ex w' => ex = .returned (.int .i64 (idxF (missE n) L 0)) ∧ Keeps (fun _ => False) w w' := by
  have hbig := hv.big
  have HV : Hid (∀ X, Keeps (fun _ => False) w X → EvsAt X v L) := fun X k => hv.keeps k
  obtain ⟨a1, cap1, rfl, hcap⟩ := hv.els.shape
  clear hv
  have HC : Hid (∀ X, Keeps (fun _ => False) w X → X.cell? ⟨pb, 0, none⟩ = some (.slice a n cap)) := fun X k => k.cellB (fun f => f) c0
  clear c0
  obtain ⟨z, hz⟩ : ∃ z, z = idxF (missE n) L 0 := ⟨_, rfl⟩
  rw [← hz]
  have HZ : Hid (z = idxF (missE n) L 0) := hz
  clear hz
  go_enter Tryz.func39, Tryz.ntmps39
  go_wp2_with fail
  go_loopw [8] (fun u wr => ∃ k : Nat, u = .int .i64 k ∧ k ≤ L.length ∧ Hid (z = idxF (missE n) (L.drop k) k) ∧ Keeps (fun _ => False) w wr) (fun u _ => L.length - (intOf u).toNat)
  case atStart => exact ⟨0, rfl, Nat.zero_le _, HZ.out, Keeps.refl _ _⟩
  case round =>
    obtain ⟨k, rfl, hk, hh, kr⟩ := hrel
    by_cases hlt : k < L.length
    · have hki : (k : Int) < L.length := by omega
      have hk0 : (0 : Int) ≤ k := by omega
      obtain ⟨g, off, rfl, x0, x1, x2, x3, x4, x5⟩ := (HV.out wr kr).at k hlt
      have PL := misses_any pb n cap a (L[k]) wr (HC.out wr kr) hn
      have hst := hh.out
      rw [List.drop_eq_getElem_cons hlt, idxF] at hst
      generalize hev : L[k]'hlt = e at *
      clear hev
      have HP : Hid ((missE n) e = true ∨ (missE n) e = false) := bool_cases2 _
      obtain ⟨th, kd, ad, wd, own, er⟩ := e
      dsimp only at x0 x1 x2 x3 x4 x5
      rcases HP.out with hp | hp
      · rw [if_pos hp] at hst
        rw [hp] at PL
        clear hp HP HZ hh
        have HF : Hid (z = (k : Int)) := hst
        clear hst
        go_wp2_with fail
        refine PL.mono ?_
        rintro ex w2 ⟨rfl, k2⟩
        go_wp2_with fail
        go_ret
        exact ⟨by rw [HF.out]; rfl, kr.trans k2⟩
      · rw [if_neg (by rw [hp]; exact Bool.false_ne_true)] at hst
        rw [hp] at PL
        clear hp HP HZ hh
        have HF : Hid (z = _) := hst
        clear hst
        go_wp2_with fail
        refine PL.mono ?_
        rintro ex w2 ⟨rfl, k2⟩
        have kk := kr.trans k2
        clear PL x0 x1 x2 x3 x4 x5 k2
        go_wp2_with fail
        go_roundw
        · exact ⟨k + 1, by simp, by omega, HF.out, kk⟩
        · simp [intOf]; omega
    · obtain rfl : k = L.length := by omega
      have HF : Hid (z = -1) := by have := hh.out; rw [List.drop_length, idxF] at this; exact this
      clear hh
      go_wp2_with fail
      go_ret
      exact ⟨by rw [HF.out]; rfl, kr⟩

end Go.Proofs.YthmiainhaebjiaaGreatDoor

/-
  A statement that leaves its order open, inside a round of a loop over an iterator, at the wide fence: what holds of it outside a round holds of it there. No statement of the seat is proved here.
-/
namespace Go.Proofs.YthmiainhaebjiaaGreatDoor
open Go.RowKit

theorem alloc_block (w : World) (o : Obj) : (w.alloc o).heap[w.heap.size]? = some o := (MapKept.heap_alloc w o).1
theorem alloc_old {w : World} {k : Nat} {o : Obj} (h : w.heap[k]? = some o) (o' : Obj) : (w.alloc o').heap[k]? = some o := (Below.heap_alloc _ _ _ (lt_of_block h)).trans h
section
variable {n l : Nat} {P : Program} {ops : Array Oper} {Q : Exit → Act → World → Prop} {md : Region.Mode}

/-- At its normal end alone. -/
def atEnd (K : Act → World → Prop) : Exit → Act → World → Prop
  | .normal, a, w => K a w
  | _, _, _ => False

end

end Go.Proofs.YthmiainhaebjiaaGreatDoor


/-
  A statement that leaves its order open, inside a round: its loads taken first. No statement of the seat is proved here.
-/
namespace Go.Proofs.YthmiainhaebjiaaGreatDoor
open Go.RowKit
section
variable {n l : Nat} {P : Program} {ops : Array Oper} {Q : Exit → Act → World → Prop} {md : Region.Mode}

/-- Take number i first, into slot d. -/
theorem held_take {S : World → Prop} {i : Nat} {oi : Oper} {v : Value} {K : Act → World → Prop} {fuel : Nat} {listed : Array Bool} {a : Act} {w : World} (d : Nat) (hi : ops[i]? = some oi) (hdst : oi.dst = some d)
    (hs : Region.noSelect ops = true) (hf : Region.free md ops listed i = true) (hr : (Region.ready md ops listed).contains i = true) (hw : Region.wanted oi (yielded ops a.tmps) = true)
    (hy : ∀ w', S w' → (execOp a.eval oi).run P w' = .ok (.value v) w') (hS : S w)
    (h : wpAnyH P md ops (atEnd K) S fuel (listed.setIfInBounds i true) (a.put (some d) v) w) : wpAnyH P md ops (atEnd K) S (fuel + 1) listed a w :=
  wpAnyH_take hi hs hf hr (fun _ _ _ h => h.elim) (.inl ⟨hw, hy⟩) hS (by rw [hdst]; exact h)

/-- One operation that comes up alone. -/
theorem held_one {S : World → Prop} {i : Nat} {o : Oper} {fuel : Nat} {listed : Array Bool} {a : Act} {w : World} {K : Act → World → Prop} (hr : Region.ready md ops listed = [i]) (ho : ops[i]? = some o) (hw : Region.wanted o (yielded ops a.tmps) = true)
    (h : o.wp P a w (fun a' w' => S w' ∧ wpAnyH P md ops (atEnd K) S fuel (listed.setIfInBounds i true) a' w') (atEnd K)) : wpAnyH P md ops (atEnd K) S (fuel + 1) listed a w :=
  wpAnyH_all hr (by simp) (fun j hj => by
    obtain rfl : j = i := by simpa using hj
    unfold wpOp
    simp only [ho, hw, if_true]
    exact .inl h)

/-- A call that comes up alone, into slot d. -/
theorem held_call {S : World → Prop} {i : Nat} {o : Oper} {f : Nat} {args : Array Value} {fuel : Nat} {listed : Array Bool} {a : Act} {w : World} {K : Act → World → Prop} (d : Nat) (hr : Region.ready md ops listed = [i]) (ho : ops[i]? = some o) (hdst : o.dst = some d) (hw : Region.wanted o (yielded ops a.tmps) = true)
    (hrun : (execOp a.eval o).run P w = .ok (.enter f args) w) (h : Calls P f args w fun e w' => ∃ v, e = .returned v ∧ S w' ∧ wpAnyH P md ops (atEnd K) S fuel (listed.setIfInBounds i true) (a.put (some d) v) w') : wpAnyH P md ops (atEnd K) S (fuel + 1) listed a w := by
  refine held_one hr ho hw ?_
  unfold Oper.wp
  rw [hrun]
  show Calls P f args w _
  refine h.mono ?_
  rintro e w' ⟨v, rfl, h1, h2⟩
  exact ⟨h1, by rw [hdst]; exact h2⟩
theorem held_end {S : World → Prop} {listed : Array Bool} {a : Act} {w : World} {K : Act → World → Prop} (hr : Region.ready md ops listed = []) (h : K a w) (fuel : Nat) : wpAnyH P md ops (atEnd K) S fuel listed a w := wpAnyH_done hr h fuel

theorem run_append_op {o : Oper} {a : Act} {w w' : World} {s x : Operand} {t : TypeId} {v y v' : Value} (hop : o.op = Op.call { callee := Callee.builtin Builtin.append, args := #[s, x], argTypes := #[t, t] }) (hs : a.eval s = v) (hx : a.eval x = y)
    (hrun : (Builtin.append_ #[t, t] o.type #[v, y]).run P w = .ok v' w') : (execOp a.eval o).run P w = .ok (.value v') w' := by
  simp [execOp, hop, resolve, invoke, builtin, hs, hx, hrun, Result.andThen]

/-- One operation that comes up alone and yields a value, under S. -/
theorem held_val {S : World → Prop} {i : Nat} {o : Oper} {v : Value} {w' : World} {fuel : Nat} {listed : Array Bool} {a : Act} {w : World} {K : Act → World → Prop} (d : Option Nat) (hr : Region.ready md ops listed = [i]) (ho : ops[i]? = some o) (hdst : o.dst = d)
    (hw : Region.wanted o (yielded ops a.tmps) = true) (hrun : (execOp a.eval o).run P w = .ok (.value v) w') (hS : S w') (h : wpAnyH P md ops (atEnd K) S fuel (listed.setIfInBounds i true) (a.put d v) w') : wpAnyH P md ops (atEnd K) S (fuel + 1) listed a w := by
  refine held_one hr ho hw ?_
  unfold Oper.wp
  rw [hrun]
  show S w' ∧ wpAnyH P md ops (atEnd K) S fuel _ (a.put o.dst v) w'
  rw [hdst]
  exact ⟨hS, h⟩
theorem held_none {S : World → Prop} {i : Nat} {o : Oper} {w' : World} {fuel : Nat} {listed : Array Bool} {a : Act} {w : World} {K : Act → World → Prop} (hr : Region.ready md ops listed = [i]) (ho : ops[i]? = some o) (hdst : o.dst = none)
    (hw : Region.wanted o (yielded ops a.tmps) = true) (hrun : (execOp a.eval o).run P w = .ok .skip w') (hS : S w') (h : wpAnyH P md ops (atEnd K) S fuel (listed.setIfInBounds i true) a w') : wpAnyH P md ops (atEnd K) S (fuel + 1) listed a w := by
  refine held_one hr ho hw ?_
  unfold Oper.wp
  rw [hrun]
  show S w' ∧ wpAnyH P md ops (atEnd K) S fuel _ (a.put o.dst undef) w'
  rw [hdst]
  exact ⟨hS, h⟩
end

end Go.Proofs.YthmiainhaebjiaaGreatDoor


/-
  A region whose order is open and whose last operation overwrites what the others read: what holds until that one comes up. No statement of the seat is proved here.
-/
namespace Go.Proofs.YthmiainhaebjiaaGreatDoor
open Go.RowKit

section
variable {P : Program} {md : Region.Mode} {ops : Array Oper} {Q : Exit → Act → World → Prop} {S : World → Prop} {t : Nat}

/-- Whatever order is picked, and S holds behind every operation but number t. -/
def wpAnyT (P : Program) (md : Region.Mode) (ops : Array Oper) (Q : Exit → Act → World → Prop) (S : World → Prop) (t : Nat) : Nat → Array Bool → Act → World → Prop
  | 0, listed, a, w => Region.ready md ops listed = [] ∧ Q .normal a w
  | fuel + 1, listed, a, w =>
    (Region.ready md ops listed = [] → Q .normal a w) ∧
    ∀ i ∈ Region.ready md ops listed, wpOp P ops Q i (fun a' w' => (i ≠ t → S w') ∧ wpAnyT P md ops Q S t fuel (listed.setIfInBounds i true) a' w') a w
theorem wpAny_of_T : ∀ (fuel : Nat) (listed : Array Bool) (a : Act) (w : World), wpAnyT P md ops Q S t fuel listed a w → wpAny P md ops Q fuel listed a w
  | 0, _, _, _, h => h
  | fuel + 1, _, _, _, h => ⟨h.1, fun i hi => wpOp_mono (fun a' w' h' => wpAny_of_T fuel _ a' w' h'.2) (h.2 i hi)⟩
/-- Number t waits for number i. -/
def waitsB (md : Region.Mode) (ops : Array Oper) (t i : Nat) : Bool := match ops[t]? with
  | some o => o.after.any fun e => Region.binds md e && e.on == i
  | none => false
theorem waits_spec {i j : Nat} {oj : Oper} (h : waitsB md ops t i = true) (hj : ops[j]? = some oj) (hnot : ∀ e ∈ oj.after, Region.binds md e = true → e.on ≠ i) : j ≠ t := by
  rintro rfl
  unfold waitsB at h
  rw [hj] at h
  simp only [Array.any_eq_true', Bool.and_eq_true, beq_iff_eq] at h
  obtain ⟨e, he, hb, ho⟩ := h
  exact hnot e he hb ho

theorem wpAnyT_first {i : Nat} {oi : Oper} {v : Value} (hi : ops[i]? = some oi) (hsel : ∀ (j : Nat) (o : Oper) cs b, ops[j]? = some o → o.op ≠ .select cs b)
    (hQ : ∀ c a w, Q (.panic c) (a.put oi.dst v) w → Q (.panic c) a w) (hup : waitsB md ops t i = true) :
    ∀ (fuel : Nat) (listed : Array Bool) (a : Act) (w : World),
      (∀ j oj, ops[j]? = some oj → j ≠ i → listed.getD j true = false → (∀ e ∈ oj.after, Region.binds md e = true → e.on ≠ i) → oi.apart ops oj = true) →
      i ∈ Region.ready md ops listed → YieldsIf P ops S oi v a → S w →
      wpAnyT P md ops Q S t fuel (listed.setIfInBounds i true) (a.put oi.dst v) w → wpAnyT P md ops Q S t (fuel + 1) listed a w := by
  intro fuel
  induction fuel with
  | zero =>
    intro listed a w _ hr hy hS H
    refine ⟨fun h => (by rw [h] at hr; cases hr), fun j hj => ?_⟩
    by_cases hji : j = i
    · subst hji; exact hy.wpOp hi hS ⟨fun _ => hS, H⟩
    · have := ready_mono hj hji
      rw [H.1] at this
      cases this
  | succ fuel ih =>
    intro listed a w hfree hr hy hS H
    refine ⟨fun h => (by rw [h] at hr; cases hr), fun j hj => ?_⟩
    by_cases hji : j = i
    · subst hji; exact hy.wpOp hi hS ⟨fun _ => hS, H⟩
    · have h1 := H.2 j (ready_mono hj hji)
      obtain ⟨hjun, oj, hoj, hall⟩ := mem_ready.1 hj
      have hnot : ∀ e ∈ oj.after, Region.binds md e = true → e.on ≠ i := fun e he hb heq => by
        have h1 := hall e he hb
        have h0 := (mem_ready.1 hr).1
        rw [heq] at h1
        rcases Nat.lt_or_ge i listed.size with h' | h'
        · simp [h'] at h0 h1; rw [h0] at h1; cases h1
        · simp [Array.getElem?_eq_none h'] at h1
      have h2 := wpOp_putIf hoj (hfree j oj hoj hji hjun hnot) (fun cs b => hsel i oi cs b hi) (fun cs b => hsel j oj cs b hoj) hQ hy h1
      have hfree' : ∀ k ok, ops[k]? = some ok → k ≠ i → (listed.setIfInBounds j true).getD k true = false →
          (∀ e ∈ ok.after, Region.binds md e = true → e.on ≠ i) → oi.apart ops ok = true := fun k ok hk hki hun hno => by
        refine hfree k ok hk hki ?_ hno
        by_cases hjk : j = k
        · subst hjk; exact hjun
        · rw [getD_set_ne true hjk] at hun; exact hun
      have hjt : j ≠ t := waits_spec hup hoj hnot
      refine wpOp_mono (fun a' w' h3 => ⟨h3.2.1, ih (listed.setIfInBounds j true) a' w' hfree' (ready_mono hr (Ne.symm hji)) h3.1 (h3.2.1 hjt) ?_⟩) h2
      rw [Array.setIfInBounds_comm _ _ hji]
      exact h3.2.2

theorem u_take {K : Act → World → Prop} {i : Nat} {oi : Oper} {v : Value} {fuel : Nat} {listed : Array Bool} {a : Act} {w : World} (d : Nat) (hi : ops[i]? = some oi) (hdst : oi.dst = some d)
    (hs : Region.noSelect ops = true) (hf : Region.free md ops listed i = true) (hr : (Region.ready md ops listed).contains i = true) (hup : waitsB md ops t i = true) (hw : Region.wanted oi (yielded ops a.tmps) = true)
    (hy : ∀ w', S w' → (execOp a.eval oi).run P w' = .ok (.value v) w') (hS : S w)
    (h : wpAnyT P md ops (atEnd K) S t fuel (listed.setIfInBounds i true) (a.put (some d) v) w) : wpAnyT P md ops (atEnd K) S t (fuel + 1) listed a w :=
  wpAnyT_first hi (Region.noSelect_spec hs) (fun _ _ _ h => h.elim) hup fuel listed a w (Region.free_spec hi hf) (by simpa using hr) (.inl ⟨hw, hy⟩) hS (by rw [hdst]; exact h)
theorem u_one {K : Act → World → Prop} {i : Nat} {o : Oper} {fuel : Nat} {listed : Array Bool} {a : Act} {w : World} (hr : Region.ready md ops listed = [i]) (ho : ops[i]? = some o) (hw : Region.wanted o (yielded ops a.tmps) = true)
    (h : o.wp P a w (fun a' w' => (i ≠ t → S w') ∧ wpAnyT P md ops (atEnd K) S t fuel (listed.setIfInBounds i true) a' w') (atEnd K)) : wpAnyT P md ops (atEnd K) S t (fuel + 1) listed a w := by
  refine ⟨fun h0 => absurd (hr.symm.trans h0) (by simp), ?_⟩
  rw [hr]
  intro j hj
  have hj : j = i := by simpa using hj
  subst hj
  unfold wpOp
  simp only [ho, hw, if_true]
  exact .inl h
theorem u_val {K : Act → World → Prop} {i : Nat} {o : Oper} {v : Value} {w' : World} {fuel : Nat} {listed : Array Bool} {a : Act} {w : World} (d : Option Nat) (hr : Region.ready md ops listed = [i]) (ho : ops[i]? = some o) (hdst : o.dst = d)
    (hw : Region.wanted o (yielded ops a.tmps) = true) (hrun : (execOp a.eval o).run P w = .ok (.value v) w') (hS : S w') (h : wpAnyT P md ops (atEnd K) S t fuel (listed.setIfInBounds i true) (a.put d v) w') : wpAnyT P md ops (atEnd K) S t (fuel + 1) listed a w := by
  refine u_one hr ho hw ?_
  unfold Oper.wp
  rw [hrun]
  show (i ≠ t → S w') ∧ wpAnyT P md ops (atEnd K) S t fuel _ (a.put o.dst v) w'
  rw [hdst]
  exact ⟨fun _ => hS, h⟩
/-- Number t itself comes up: behind it S need not hold. -/
theorem u_last {K : Act → World → Prop} {o : Oper} {w' : World} {fuel : Nat} {listed : Array Bool} {a : Act} {w : World} (hr : Region.ready md ops listed = [t]) (ho : ops[t]? = some o) (hdst : o.dst = none)
    (hw : Region.wanted o (yielded ops a.tmps) = true) (hrun : (execOp a.eval o).run P w = .ok .skip w') (hr2 : Region.ready md ops (listed.setIfInBounds t true) = []) (h : K a w') : wpAnyT P md ops (atEnd K) S t (fuel + 1) listed a w := by
  refine u_one hr ho hw ?_
  unfold Oper.wp
  rw [hrun]
  show (t ≠ t → S w') ∧ wpAnyT P md ops (atEnd K) S t fuel _ (a.put o.dst undef) w'
  rw [hdst]
  refine ⟨fun hne => absurd rfl hne, ?_⟩
  cases fuel with
  | zero => exact ⟨hr2, h⟩
  | succ n => exact ⟨fun _ => h, by rw [hr2]; simp⟩
theorem wp_until {id : Nat} {a : Act} {w : World} (t N : Nat) (hN : ops.size = N) (hm : P.follows .mixedOrders = true)
    (h : wpAnyT P .any ops (atEnd (Q .normal)) S t N (Array.replicate N false) a w.drew) : (Code.region id ops true).wp P Q a w := by
  subst hN
  exact Code.wp_mono (fun e a w h => by cases e <;> first | exact h | exact h.elim) (wp_region_any hm (wpAny_of_T _ _ _ _ h))
end
end Go.Proofs.YthmiainhaebjiaaGreatDoor


/- Walks of wholeSpan, strike, numbers, seen (layer 16). No statement of the seat is proved here. -/
namespace Go.Proofs.YthmiainhaebjiaaGreatDoor
open Go.RowKit Go.Shelf

theorem OwnR.ofBlock {α : Type} {c : α → List Value} {sz : Nat} {t : TypeId} (hc : ∀ x, (c x).length = sz) {w : World} {base g : Nat} {cur : Array Value} {L : List α} (hb : w.heap[g]? = some (.cells cur t (0, 0))) (hcur : cur.toList = flatV c L) (hbase : base ≤ g) (hm : L.length ≤ maxLen) : OwnR c sz t w base (.slice (some ⟨g, 0, none⟩) L.length L.length) L := by
  have hl := flatV_len hc L
  refine ⟨⟨hl, .inr ⟨g, L.length, cur, rfl, hbase, hb, Nat.le_refl _, hm, ?_, ?_⟩⟩, ?_⟩
  · rw [← hl, ← hcur]; simp
  · rw [← hl, ← hcur, List.take_length]
  · have := lt_of_block hb; omega
/-- Rows of numbers. -/
@[reducible] def nC (x : Int) : List Value := [.int .i64 x]
theorem nC_len (x : Int) : (nC x).length = 1 := rfl
theorem nC_ne (x : Int) : nC x ≠ [] := by simp
theorem nC_one (x : Int) : ∀ u ∈ nC x, u.oneCell' = true := by simp [Value.oneCell']
theorem info_nC : (Tryz.prog.info? 3).map (fun i => (i.zero, i.size, i.bytes)) = some (some (.int .i64 0), 1, 8) := by kernel_rfl
theorem flat_nC (L : List Int) : flatV nC L = L.map (Value.int .i64) := by
  induction L with
  | nil => rfl
  | cons x L ih =>
    have : flatV nC (x :: L) = nC x ++ flatV nC L := rfl
    rw [this, ih]; rfl
abbrev NR (w : World) (base : Nat) (v : Value) (L : List Int) : Prop := OwnR nC 1 3 w base v L
/-- make([]int, n). -/
theorem run_ints (w : World) (n : Nat) (h1 : n ≤ 1300000) :
    ∃ x : Array Value, (Instr.makeSlice 34 (.int .i64 (n : Int)) (.int .i64 (n : Int))).run Tryz.prog w = .ok (.slice (some ⟨w.heap.size, 0, none⟩) n n) (w.alloc (.cells x 3)) ∧ NR (w.alloc (.cells x 3)) w.heap.size (.slice (some ⟨w.heap.size, 0, none⟩) n n) (List.replicate n 0) := by
  obtain ⟨i0, hi, hz0, hz1, hz2⟩ := info_parts info_nC
  have h := run_make (P := Tryz.prog) w 34 3 i0 (.int .i64 0) Tryz.underlying34 hi hz0 .i64 .i64 (n : Int) (n : Int) (by omega) (Int.le_refl _) (by rw [hz2]; omega) (by omega)
  rw [hz1, Nat.mul_one, Int.toNat_natCast] at h
  refine ⟨_, h, ?_⟩
  have := OwnR.ofBlock (c := nC) (sz := 1) (L := List.replicate n 0) (base := w.heap.size) nC_len (MapKept.heap_alloc w (.cells (madeCells (Value.int .i64 0).cells n) 3)).1 (by
    rw [flat_nC]
    apply List.ext_getElem?
    intro j
    by_cases hj : j < n
    · simp [madeCells, Value.cells, hj, Nat.mod_one]
    · simp [madeCells, hj]) (Nat.le_refl _) (by simp [maxLen]; omega)
  simpa using this
/-- Numbers of which some are struck, as they lie. -/
structure SpAt (w : World) (base sb : Nat) (fr : Int) (v : Value) (D : List Int) : Prop where
  blk : w.heap[sb]? = some (.cells #[.int .i64 fr, v] 151 (0, 0))
  row : NR w base v D
  ap : ∀ g, v.ownBlock = some g → g ≠ sb
  lo : base ≤ sb
theorem SpAt.keeps {w w' : World} {base sb : Nat} {fr : Int} {v : Value} {D : List Int} {S : Nat → Prop} (h : SpAt w base sb fr v D) (k : Keeps S w w') (hs : ∀ q, base ≤ q → q < w.heap.size → ¬ S q) : SpAt w' base sb fr v D :=
  ⟨(k.block sb (lt_of_block h.blk) (hs _ h.lo (lt_of_block h.blk))).trans h.blk, h.row.keeps k (fun g hg => hs g (own_block h.row.own hg).2 (own_block h.row.own hg).1), h.ap, h.lo⟩
set_option maxRecDepth 100000 in
set_option maxHeartbeats 4000000 in
theorem wholeSpan_any (fr n : Nat) (hn : n ≤ 1200000) (w : World) : Calls Tryz.prog 48 #[.int .i64 (fr : Int), .int .i64 ((fr + n : Nat) : Int)] w fun ex w' => ∃ sb v, ex = .returned (.pointer (some ⟨sb, 0, none⟩)) ∧ SpAt w' w.heap.size sb fr v (List.replicate (n + 2) 0) ∧ Keeps (fun _ => False) w w' := by
  obtain ⟨x, hx, hr⟩ := run_ints w (n + 2) (by omega)
  have h1 : IntKind.i64.wrap (((fr + n : Nat) : Int) - (fr : Int)) = (n : Int) := by rw [IntKind.wrap_i64]; omega
  have h2 : IntKind.i64.wrap ((n : Int) + 2) = ((n + 2 : Nat) : Int) := by rw [IntKind.wrap_i64]; omega
  obtain ⟨N, hN⟩ : ∃ N : Nat, N = n + 2 := ⟨_, rfl⟩
  obtain ⟨U, hU⟩ : ∃ U : Int, U = ((fr + n : Nat) : Int) := ⟨_, rfl⟩
  rw [← hN] at hx hr h2 ⊢
  rw [← hU] at h1 ⊢
  clear hN hU
  have k1 := (Keeps.refl (fun _ => False) w).alloc (.cells x 3)
  have k2 := (Keeps.refl (fun _ => False) (w.alloc (.cells x 3))).alloc (.cells #[.int .i64 (fr : Int), .slice (some ⟨w.heap.size, 0, none⟩) N N] 151)
  have b2 := (MapKept.heap_alloc (w.alloc (.cells x 3)) (.cells #[.int .i64 (fr : Int), .slice (some ⟨w.heap.size, 0, none⟩) N N] 151)).1
  rw [show (w.alloc (.cells x 3)).heap.size = w.heap.size + 1 by simp] at b2
  have HX : Hid (∃ sb v, SpAt ((w.alloc (.cells x 3)).alloc (.cells #[.int .i64 (fr : Int), .slice (some ⟨w.heap.size, 0, none⟩) N N] 151)) w.heap.size sb fr v (List.replicate N 0) ∧ sb = w.heap.size + 1 ∧ Keeps (fun _ => False) w ((w.alloc (.cells x 3)).alloc (.cells #[.int .i64 (fr : Int), .slice (some ⟨w.heap.size, 0, none⟩) N N] 151))) :=
    ⟨_, _, ⟨b2, hr.keeps k2 (fun _ _ f => f), fun g hg => by simp only [Value.ownBlock, Option.some.injEq] at hg; omega, by omega⟩, rfl, k1.trans k2⟩
  clear hr k1 k2 b2
  go_enter Tryz.func48, Tryz.ntmps48
  go_wp2
  go_ret
  obtain ⟨sb, v, q1, rfl, q2⟩ := HX.out
  exact ⟨_, v, rfl, q1, q2⟩
end Go.Proofs.YthmiainhaebjiaaGreatDoor
