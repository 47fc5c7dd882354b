
/- A course as it lies; walks of owned, refusal (package events). No statement of the seat is proved here. -/
import Derived.Test.YthgkbmfnidehbaaDoorEvF
namespace Go.Proofs.YthgkbmfnidehbaaDoor
open Go.RowKit Go.Shelf

/-- The Writes of a thread in its map, or none. -/
def MapW (w : World) (m : Option Nat) (wr : List (Int × Int)) : Prop := match m with
  | none => wr = []
  | some b => MapU w b (fun y => wr.lookup y) ∧ wr ≠ []
theorem MapW.keeps {w w' : World} {S : Nat → Prop} {m : Option Nat} {wr : List (Int × Int)} (h : MapW w m wr) (k : Keeps S w w') (hs : ∀ b, m = some b → ¬ S b) : MapW w' m wr := by
  cases m with
  | none => exact h
  | some b => exact ⟨h.1.keeps k (hs b rfl), h.2⟩
theorem MapW.look {w : World} {m : Option Nat} {wr : List (Int × Int)} (h : MapW w m wr) (a : Int) : (Instr.lookup 95 (.map m) (.int .u64 a) true).run Tryd.prog w = .ok (lookV (fun y => wr.lookup y) a) w := by
  cases m with
  | none =>
    have hw : wr = [] := h
    subst hw
    have hk : MapKept.IsKey (.int .u64) (numV a) := rfl
    have hck := fun e => MapKept.run_checkKey (P := Tryd.prog) (w := w) Tryd.underlying23 hk e 9999
    have hf := MapKept.run_findKey (P := Tryd.prog) (w := w) (l := []) (k := numV a) Tryd.underlying23 (a := none) rfl
    simp only [numV] at hck hf
    simp [Instr.lookup, run_underlying Tryd.underlying95, hck, hf, Result.andThen, go_sem, lookV]
  | some b => exact h.1.look a
theorem MapW.len {w : World} {m : Option Nat} {wr : List (Int × Int)} (h : MapW w m wr) : ∃ n : Nat, (∀ X, Keeps (fun _ => False) w X → (Builtin.len_ #[95] 3 #[.map m]).run Tryd.prog X = .ok (.int .i64 (n : Int)) X) ∧ (n = 0 ↔ wr = []) := by
  cases m with
  | none =>
    refine ⟨0, fun X _ => ?_, by simpa [MapW] using h⟩
    simp [Builtin.len_, run_underlying Tryd.underlying95, Result.andThen, goInt]
  | some b =>
    obtain ⟨es, clock, L, h1, h2, h3, h4⟩ := h.1.ex
    refine ⟨es.size, fun X k => ?_, ?_⟩
    · have h5 := (k.block b (lt_of_block h1) (fun f => f)).trans h1
      have hgo := MapKept.run_getObj_map (P := Tryd.prog) h5
      simp [Builtin.len_, run_underlying Tryd.underlying95, hgo, Result.andThen, goInt]
    · have hl := congrArg List.length h2
      simp at hl
      rw [hl]
      constructor
      · intro hz
        have : L = [] := List.length_eq_zero_iff.1 hz
        subst this
        have hw := h.2
        cases hwr : wr with
        | nil => rfl
        | cons p r =>
          have := h4 p.1
          rw [hwr] at this
          obtain ⟨a, x⟩ := p
          simp [List.lookup] at this
      · intro hz; exact absurd hz h.2

/-- A course as it lies: its cells, the threads' maps. -/
structure Crs (w : World) (base c : Nat) (S : St) (m : Nat → Option Nat) : Prop where
  len : S.t.length = 8
  blk : ∃ cs, w.heap[c]? = some (.cells cs 129 (0, 0)) ∧ cs.size = 26 ∧ cs[0]? = some (.int .u64 S.n) ∧ cs[1]? = some (.bool (heldB S)) ∧ ∀ i, i < 8 → cs[2 + i * 3]? = some (.int .i64 ((S.sd i).st : Int)) ∧ cs[2 + i * 3 + 1]? = some (.int .u64 (S.sd i).sn) ∧ cs[2 + i * 3 + 2]? = some (.map (m i))
  maps : ∀ i, i < 8 → MapW w (m i) (S.sd i).wr
  inj : ∀ i j b, i < 8 → j < 8 → m i = some b → m j = some b → i = j
  ne : ∀ i, i < 8 → m i ≠ some c
  base : base ≤ c ∧ ∀ i b, i < 8 → m i = some b → base ≤ b
  st : ∀ i, i < 8 → 1 ≤ (S.sd i).st ∧ (S.sd i).st ≤ 4
  sn : ∀ i, i < 8 → 0 ≤ (S.sd i).sn ∧ (S.sd i).sn < 18446744073709551616
  n : 0 ≤ S.n
/-- The blocks of a course. -/
def Crs.own (c : Nat) (m : Nat → Option Nat) (q : Nat) : Prop := q = c ∨ ∃ i, i < 8 ∧ m i = some q
theorem Crs.keeps {w w' : World} {base c : Nat} {S : St} {m : Nat → Option Nat} {T : Nat → Prop} (h : Crs w base c S m) (k : Keeps T w w') (hs : ∀ q, Crs.own c m q → ¬ T q) : Crs w' base c S m := by
  obtain ⟨cs, h1, h2⟩ := h.blk
  exact ⟨h.len, ⟨cs, (k.block c (lt_of_block h1) (hs c (.inl rfl))).trans h1, h2⟩, fun i hi => (h.maps i hi).keeps k (fun b hb => hs b (.inr ⟨i, hi, hb⟩)), h.inj, h.ne, h.base, h.st, h.sn, h.n⟩

set_option maxRecDepth 100000 in
set_option maxHeartbeats 4000000 in
theorem owned_any (c o : Nat) (st : Nat) (sn : Int) (m : Option Nat) (wr : List (Int × Int)) (e : Ev) (w : World) (c0 : w.cell? ⟨c, o, none⟩ = some (.int .i64 (st : Int))) (c2 : w.cell? ⟨c, o + 2, none⟩ = some (.map m)) (hm : MapW w m wr) :
    Calls Tryd.prog 53 #[.pointer (some ⟨c, o, none⟩), .agg e.cells] w fun ex w' => ex = .returned (.bool (ownE ⟨st, sn, wr⟩ e)) ∧ Keeps (fun _ => False) w w' := by
  obtain ⟨th, kd, ad, wd, own, er⟩ := e
  have hcl := World.block_lt_of_cell? _ _ c0
  have kk := (Keeps.refl (fun _ => False) w).alloc (.cells #[.int .i64 th, .int .i64 kd, .int .u64 ad, .int .u64 wd, .bool own, .int .i64 er] 29)
  show Calls Tryd.prog 53 #[.pointer (some ⟨c, o, none⟩), .agg #[.int .i64 th, .int .i64 kd, .int .u64 ad, .int .u64 wd, .bool own, .int .i64 er]] w fun ex w' => ex = .returned (.bool (ownE ⟨st, sn, wr⟩ ⟨th, kd, ad, wd, own, er⟩)) ∧ Keeps (fun _ => False) w w'
  by_cases h2 : kd = 2
  · subst h2
    have hO : ownE ⟨st, sn, wr⟩ ⟨th, 2, ad, wd, own, er⟩ = if own then ((wr.lookup ad).isSome && ((wr.lookup ad).getD 0 == wd)) else !(wr.lookup ad).isSome := by
      unfold ownE
      rw [if_pos rfl]
      dsimp only
      cases wr.lookup ad <;> cases own <;> simp
      rfl
    rw [hO]
    have hlk : ∀ X, Keeps (fun _ => False) w X → (Instr.lookup 95 (.map m) (.int .u64 ad) true).run Tryd.prog X = .ok (.tuple #[.int .u64 ((wr.lookup ad).getD 0), .bool (wr.lookup ad).isSome]) X := fun X kx => (hm.keeps kx (fun _ _ f => f)).look ad
    generalize (wr.lookup ad).getD 0 = x at *
    generalize (wr.lookup ad).isSome = bb at *
    have hl2 : ∀ n, (Instr.lookup 95 (.map m) (.int .u64 ad) true).run Tryd.prog ((w.alloc (.cells #[.int .i64 th, .int .i64 2, .int .u64 ad, .int .u64 wd, .bool own, .int .i64 er] 29)).drewN n) = .ok (.tuple #[.int .u64 x, .bool bb]) ((w.alloc (.cells #[.int .i64 th, .int .i64 2, .int .u64 ad, .int .u64 wd, .bool own, .int .i64 er] 29)).drewN n) := fun n => hlk _ (kk.drewN n)
    clear hm hlk hO
    cases own <;> cases bb
    all_goals
      go_enter Tryd.func53, Tryd.ntmps53
      go_wp2_with fail
      go_quiet (fail)
      go_wp2_with fail
      go_ret
      exact ⟨by simp, kk.drewN _⟩
  · obtain ⟨n, hn, hz⟩ := hm.len
    have hn2 := hn _ kk
    clear hn hm
    by_cases h5 : kd = 5
    · subst h5
      have hO : ownE ⟨st, sn, wr⟩ ⟨th, 5, ad, wd, own, er⟩ = decide (0 < n) := by
        unfold ownE
        simp only [if_true]
        by_cases hw : wr = []
        · have := hz.2 hw; subst this; simp [hw]
        · have : n ≠ 0 := fun h => hw (hz.1 h)
          simp [hw]; omega
      rw [hO]
      clear hO hz
      go_enter Tryd.func53, Tryd.ntmps53
      go_wp2_with fail
      go_ret
      exact ⟨rfl, kk⟩
    · by_cases h6 : kd = 6
      · subst h6
        have hO : ownE ⟨st, sn, wr⟩ ⟨th, 6, ad, wd, own, er⟩ = (decide (st = 3) || decide (n = 0)) := by
          unfold ownE
          simp only [if_true]
          by_cases hw : wr = []
          · have := hz.2 hw; subst this; simp [hw]
          · have : n ≠ 0 := fun h => hw (hz.1 h)
            simp [hw, this]
        rw [hO]
        clear hO hz
        by_cases hst : st = 3
        · subst hst
          go_enter Tryd.func53, Tryd.ntmps53
          go_wp2_with fail
          go_ret
          exact ⟨rfl, kk⟩
        · have hst2 : ¬ (st : Int) = 3 := by omega
          go_enter Tryd.func53, Tryd.ntmps53
          go_wp2_with fail
          go_ret
          exact ⟨by rw [show ((st : Int) == 3) = false from beq_eq_false_iff_ne.2 hst2, show ((n : Int) == 0) = decide (n = 0) by by_cases h : n = 0 <;> simp [h]]; simp, kk⟩
      · go_enter Tryd.func53, Tryd.ntmps53
        go_wp2_with fail
        go_ret
        exact ⟨by simp [ownE, h2, h5, h6], kk⟩
theorem Crs.cell {w : World} {base c : Nat} {S : St} {m : Nat → Option Nat} (h : Crs w base c S m) : w.cell? ⟨c, 0, none⟩ = some (.int .u64 S.n) ∧ w.cell? ⟨c, 1, none⟩ = some (.bool (heldB S)) ∧ ∀ i, i < 8 → w.cell? ⟨c, 2 + i * 3, none⟩ = some (.int .i64 ((S.sd i).st : Int)) ∧ w.cell? ⟨c, 2 + i * 3 + 1, none⟩ = some (.int .u64 (S.sd i).sn) ∧ w.cell? ⟨c, 2 + i * 3 + 2, none⟩ = some (.map (m i)) := by
  obtain ⟨cs, h1, h2, h3, h4, h5⟩ := h.blk
  refine ⟨by rw [cell_of_block h1, h3], by rw [cell_of_block h1, h4], fun i hi => ?_⟩
  obtain ⟨a, b, d⟩ := h5 i hi
  exact ⟨by rw [cell_of_block h1, a], by rw [cell_of_block h1, b], by rw [cell_of_block h1, d]⟩
set_option maxRecDepth 100000 in
set_option maxHeartbeats 4000000 in
theorem refusal_any (base c : Nat) (S : St) (m : Nat → Option Nat) (e : Ev) (w : World) (h : Crs w base c S m) (hg : Gv w) (hn : S.n < 4611686018427387904) :
    Calls Tryd.prog 39 #[.pointer (some ⟨c, 0, none⟩), .agg e.cells] w fun ex w' => ex = .returned (.int .i64 (errE S e)) ∧ Keeps (fun _ => False) w w' := by
  have F := fun W (k : Keeps (fun _ => False) w W) => formed_any e W (hg.keeps k)
  have k0 := (Keeps.refl (fun _ => False) w).alloc (.cells e.cells 29)
  have bb := (MapKept.heap_alloc w (.cells e.cells 29)).1
  have hE : errE S e = errS (heldB S) S.n (S.sd e.th.toNat) e := rfl
  unfold errS at hE
  have HC : Hid (∀ X, Keeps (fun _ => False) w X → Crs X base c S m ∧ Gv X) := fun X k => ⟨h.keeps k (fun _ _ f => f), hg.keeps k⟩
  have hn0 := h.n
  have hin := @formed_in e
  have st := h.st
  have sn := h.sn
  clear h hg
  cases hf : formedE e
  · rw [hf] at F hE
    simp only [if_true] at hE
    rw [hE]
    clear hE HC hin st sn
    obtain ⟨th, kd, ad, wd, own, er⟩ := e
    show Calls Tryd.prog 39 #[.pointer (some ⟨c, 0, none⟩), .agg #[.int .i64 th, .int .i64 kd, .int .u64 ad, .int .u64 wd, .bool own, .int .i64 er]] w fun ex w' => ex = .returned (.int .i64 201) ∧ Keeps (fun _ => False) w w'
    go_enter Tryd.func39, Tryd.ntmps39
    go_wp2_with fail
    refine (F _ k0).mono ?_
    rintro ex w1 ⟨rfl, k1⟩
    go_wp2_with fail
    go_ret
    exact ⟨rfl, k0.trans k1⟩
  · obtain ⟨t0, t1, q0, q1⟩ := hin hf
    rw [hf] at F hE
    simp only [Bool.true_eq_false, if_false] at hE
    obtain ⟨i, hi⟩ : ∃ i : Nat, e.th = i := ⟨e.th.toNat, by omega⟩
    have hi8 : i < 8 := by omega
    rw [show e.th.toNat = i by omega] at hE
    obtain ⟨st0, st1⟩ := st i hi8
    obtain ⟨sn0, sn1⟩ := sn i hi8
    have T := fun W (k : Keeps (fun _ => False) w W) => turn_any c (2 + i * 3) (S.sd i).st st0 st1 e q0 q1 W ((HC.out W k).1.cell.2.2 i hi8).1 (HC.out W k).2
    have LK := fun W (k : Keeps (fun _ => False) w W) => locked_any c (heldB S) e.kd W (HC.out W k).1.cell.2.1
    have N := fun W (k : Keeps (fun _ => False) w W) => numbered_any c (2 + i * 3) S.n (S.sd i).sn (S.sd i).st (S.sd i).wr e W hn0 hn sn0 sn1 (HC.out W k).1.cell.1 ((HC.out W k).1.cell.2.2 i hi8).1 ((HC.out W k).1.cell.2.2 i hi8).2.1
    have O := fun W (k : Keeps (fun _ => False) w W) => owned_any c (2 + i * 3) (S.sd i).st (S.sd i).sn (m i) (S.sd i).wr e W ((HC.out W k).1.cell.2.2 i hi8).1 ((HC.out W k).1.cell.2.2 i hi8).2.2 ((HC.out W k).1.maps i hi8)
    have e1 : (⟨(S.sd i).st, (S.sd i).sn, (S.sd i).wr⟩ : Sd) = S.sd i := rfl
    rw [e1] at N O
    generalize errE S e = z at *
    generalize (heldB S && clkB e.kd) = lb at *
    have HZ : Hid (z = _) := hE
    clear hE hn0 st sn hin q0 q1 e1 st0 st1 sn0 sn1 t0 t1 HC
    generalize turnN (S.sd i).st e = tn at *
    generalize numE S.n (S.sd i) e = nb at *
    generalize ownE (S.sd i) e = ob at *
    obtain ⟨th, kd, ad, wd, own, er⟩ := e
    dsimp only at hi T LK N O F bb k0 ⊢
    subst hi
    have hi0 : (0 : Int) ≤ i := by omega
    have hi8' : (i : Int) < 8 := by omega
    have CE : Hid (∀ X, Keeps (fun _ => False) (w.alloc (.cells #[.int .i64 (i : Int), .int .i64 kd, .int .u64 ad, .int .u64 wd, .bool own, .int .i64 er] 29)) X → X.cell? ⟨w.heap.size, 0, none⟩ = some (.int .i64 (i : Int)) ∧ X.cell? ⟨w.heap.size, 1, none⟩ = some (.int .i64 kd) ∧ X.cell? ⟨w.heap.size, 2, none⟩ = some (.int .u64 ad) ∧ X.cell? ⟨w.heap.size, 3, none⟩ = some (.int .u64 wd) ∧ X.cell? ⟨w.heap.size, 4, none⟩ = some (.bool own) ∧ X.cell? ⟨w.heap.size, 5, none⟩ = some (.int .i64 er)) := fun X k => by
      have b2 := (k.block _ (lt_of_block bb) (fun f => f)).trans bb
      refine ⟨?_, ?_, ?_, ?_, ?_, ?_⟩ <;> (rw [cell_of_block b2]; rfl)
    clear bb
    go_enter Tryd.func39, Tryd.ntmps39
    go_wp2_with fail
    refine (F _ k0).mono ?_
    rintro ex w1 ⟨rfl, k1⟩
    obtain ⟨a0, a1, a2, a3, a4, a5⟩ := CE.out w1 k1
    go_wp2_with fail
    go_quiet (fail)
    go_wp2_with fail
    have k2 := k1.drewN nq
    clear k1 a0 a1 a2 a3 a4 a5
    refine (T _ (k0.trans k2)).mono ?_
    rintro ex w2 ⟨rfl, k3⟩
    have k4 := k2.trans k3
    obtain ⟨a0, a1, a2, a3, a4, a5⟩ := CE.out w2 k4
    clear k2 k3 T F
    by_cases htn : tn = 0
    · subst htn
      go_wp2_with fail
      go_ret
      exact ⟨by rw [HZ.out]; rfl, k0.trans k4⟩
    · have htn2 : ¬ (tn : Int) = 0 := by omega
      have HT : Hid (tn ≠ 0) := htn
      clear htn
      go_wp2_with fail
      refine (LK _ (k0.trans k4)).mono ?_
      rintro ex w3 ⟨rfl, rfl⟩
      cases lb
      · clear LK
        go_wp2_with fail
        refine (N _ (k0.trans k4)).mono ?_
        rintro ex w4 ⟨rfl, k5⟩
        have k6 := k4.trans k5
        obtain ⟨a0, a1, a2, a3, a4, a5⟩ := CE.out w4 k6
        clear N k4 k5
        cases nb
        · go_wp2_with fail
          go_ret
          exact ⟨by rw [HZ.out, if_neg HT.out]; rfl, k0.trans k6⟩
        · go_wp2_with fail
          refine (O _ (k0.trans k6)).mono ?_
          rintro ex w5 ⟨rfl, k7⟩
          have k8 := k6.trans k7
          clear O k6 k7
          cases ob
          · go_wp2_with fail
            go_ret
            exact ⟨by rw [HZ.out, if_neg HT.out]; rfl, k0.trans k8⟩
          · go_wp2_with fail
            go_ret
            exact ⟨by rw [HZ.out, if_neg HT.out]; rfl, k0.trans k8⟩
      · go_wp2_with fail
        go_ret
        exact ⟨by rw [HZ.out, if_neg HT.out]; rfl, k0.trans k4⟩
end Go.Proofs.YthgkbmfnidehbaaDoor
