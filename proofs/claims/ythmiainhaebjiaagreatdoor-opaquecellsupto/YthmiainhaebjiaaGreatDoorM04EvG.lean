/-
  No statement of the seat is proved here. (Several texts in one: EvG, EvH, EvBb, WiA.)
-/
import Derived.Test.YthmiainhaebjiaaGreatDoorM03EvE
import Derived.Test.YthmiainhaebjiaaGreatDoorM00CMem

/- A course as it lies; walks of owned, refusal (package events). No statement of the seat is proved here. -/
namespace Go.Proofs.YthmiainhaebjiaaGreatDoor
open Go.RowKit Go.Shelf

/-- The Writes of a thread in its map, or none. -/
def MapW (w : World) (m : Option Nat) (wr : List (Int × Int)) : Prop := match m with
  | none => wr = []
  | some b => MapU w b (fun y => wr.lookup y) ∧ wr ≠ []
theorem MapW.keeps {w w' : World} {S : Nat → Prop} {m : Option Nat} {wr : List (Int × Int)} (h : MapW w m wr) (k : Keeps S w w') (hs : ∀ b, m = some b → ¬ S b) : MapW w' m wr := by
  cases m with
  | none => exact h
  | some b => exact ⟨h.1.keeps k (hs b rfl), h.2⟩
theorem MapW.look {w : World} {m : Option Nat} {wr : List (Int × Int)} (h : MapW w m wr) (a : Int) : (Instr.lookup 104 (.map m) (.int .u64 a) true).run Tryz.prog w = .ok (lookV (fun y => wr.lookup y) a) w := by
  cases m with
  | none =>
    have hw : wr = [] := h
    subst hw
    have hk : MapKept.IsKey (.int .u64) (numV a) := rfl
    have hck := fun e => MapKept.run_checkKey (P := Tryz.prog) (w := w) Tryz.underlying26 hk e 9999
    have hf := MapKept.run_findKey (P := Tryz.prog) (w := w) (l := []) (k := numV a) Tryz.underlying26 (a := none) rfl
    simp only [numV] at hck hf
    simp [Instr.lookup, run_underlying Tryz.underlying104, hck, hf, Result.andThen, go_sem, lookV]
  | some b => exact h.1.look a
theorem MapW.len {w : World} {m : Option Nat} {wr : List (Int × Int)} (h : MapW w m wr) : ∃ n : Nat, (∀ X, Keeps (fun _ => False) w X → (Builtin.len_ #[104] 3 #[.map m]).run Tryz.prog X = .ok (.int .i64 (n : Int)) X) ∧ (n = 0 ↔ wr = []) := by
  cases m with
  | none =>
    refine ⟨0, fun X _ => ?_, by simpa [MapW] using h⟩
    simp [Builtin.len_, run_underlying Tryz.underlying104, Result.andThen, goInt]
  | some b =>
    obtain ⟨es, clock, L, h1, h2, h3, h4⟩ := h.1.ex
    refine ⟨es.size, fun X k => ?_, ?_⟩
    · have h5 := (k.block b (lt_of_block h1) (fun f => f)).trans h1
      have hgo := MapKept.run_getObj_map (P := Tryz.prog) h5
      simp [Builtin.len_, run_underlying Tryz.underlying104, hgo, Result.andThen, goInt]
    · have hl := congrArg List.length h2
      simp at hl
      rw [hl]
      constructor
      · intro hz
        have : L = [] := List.length_eq_zero_iff.1 hz
        subst this
        have hw := h.2
        cases hwr : wr with
        | nil => rfl
        | cons p r =>
          have := h4 p.1
          rw [hwr] at this
          obtain ⟨a, x⟩ := p
          simp [List.lookup] at this
      · intro hz; exact absurd hz h.2

/-- A course as it lies: its cells, the threads' maps. -/
structure Crs (w : World) (base c : Nat) (S : St) (m : Nat → Option Nat) : Prop where
  len : S.t.length = 8
  blk : ∃ cs, w.heap[c]? = some (.cells cs 189 (0, 0)) ∧ cs.size = 26 ∧ cs[0]? = some (.int .u64 S.n) ∧ cs[1]? = some (.bool (heldB S)) ∧ ∀ i, i < 8 → cs[2 + i * 3]? = some (.int .i64 ((S.sd i).st : Int)) ∧ cs[2 + i * 3 + 1]? = some (.int .u64 (S.sd i).sn) ∧ cs[2 + i * 3 + 2]? = some (.map (m i))
  maps : ∀ i, i < 8 → MapW w (m i) (S.sd i).wr
  inj : ∀ i j b, i < 8 → j < 8 → m i = some b → m j = some b → i = j
  ne : ∀ i, i < 8 → m i ≠ some c
  base : base ≤ c ∧ ∀ i b, i < 8 → m i = some b → base ≤ b
  st : ∀ i, i < 8 → 1 ≤ (S.sd i).st ∧ (S.sd i).st ≤ 4
  sn : ∀ i, i < 8 → 0 ≤ (S.sd i).sn ∧ (S.sd i).sn < 18446744073709551616
  n : 0 ≤ S.n
/-- The blocks of a course. -/
def Crs.own (c : Nat) (m : Nat → Option Nat) (q : Nat) : Prop := q = c ∨ ∃ i, i < 8 ∧ m i = some q
theorem Crs.keeps {w w' : World} {base c : Nat} {S : St} {m : Nat → Option Nat} {T : Nat → Prop} (h : Crs w base c S m) (k : Keeps T w w') (hs : ∀ q, Crs.own c m q → ¬ T q) : Crs w' base c S m := by
  obtain ⟨cs, h1, h2⟩ := h.blk
  exact ⟨h.len, ⟨cs, (k.block c (lt_of_block h1) (hs c (.inl rfl))).trans h1, h2⟩, fun i hi => (h.maps i hi).keeps k (fun b hb => hs b (.inr ⟨i, hi, hb⟩)), h.inj, h.ne, h.base, h.st, h.sn, h.n⟩

set_option maxRecDepth 100000 in
set_option maxHeartbeats 4000000 in
theorem owned_any (c o : Nat) (st : Nat) (sn : Int) (m : Option Nat) (wr : List (Int × Int)) (e : Ev) (w : World) (c0 : w.cell? ⟨c, o, none⟩ = some (.int .i64 (st : Int))) (c2 : w.cell? ⟨c, o + 2, none⟩ = some (.map m)) (hm : MapW w m wr) :
    Calls Tryz.prog 103 #[.pointer (some ⟨c, o, none⟩), .agg e.cells] w fun ex w' => ex = .returned (.bool (ownE ⟨st, sn, wr⟩ e)) ∧ Keeps (fun _ => False) w w' := by
  obtain ⟨th, kd, ad, wd, own, er⟩ := e
  have hcl := World.block_lt_of_cell? _ _ c0
  have kk := (Keeps.refl (fun _ => False) w).alloc (.cells #[.int .i64 th, .int .i64 kd, .int .u64 ad, .int .u64 wd, .bool own, .int .i64 er] 60)
  show Calls Tryz.prog 103 #[.pointer (some ⟨c, o, none⟩), .agg #[.int .i64 th, .int .i64 kd, .int .u64 ad, .int .u64 wd, .bool own, .int .i64 er]] w fun ex w' => ex = .returned (.bool (ownE ⟨st, sn, wr⟩ ⟨th, kd, ad, wd, own, er⟩)) ∧ Keeps (fun _ => False) w w'
  by_cases h2 : kd = 2
  · subst h2
    have hO : ownE ⟨st, sn, wr⟩ ⟨th, 2, ad, wd, own, er⟩ = if own then ((wr.lookup ad).isSome && ((wr.lookup ad).getD 0 == wd)) else !(wr.lookup ad).isSome := by
      unfold ownE
      rw [if_pos rfl]
      dsimp only
      cases wr.lookup ad <;> cases own <;> simp
      rfl
    rw [hO]
    have hlk : ∀ X, Keeps (fun _ => False) w X → (Instr.lookup 104 (.map m) (.int .u64 ad) true).run Tryz.prog X = .ok (.tuple #[.int .u64 ((wr.lookup ad).getD 0), .bool (wr.lookup ad).isSome]) X := fun X kx => (hm.keeps kx (fun _ _ f => f)).look ad
    generalize (wr.lookup ad).getD 0 = x at *
    generalize (wr.lookup ad).isSome = bb at *
    have hl2 : ∀ n, (Instr.lookup 104 (.map m) (.int .u64 ad) true).run Tryz.prog ((w.alloc (.cells #[.int .i64 th, .int .i64 2, .int .u64 ad, .int .u64 wd, .bool own, .int .i64 er] 60)).drewN n) = .ok (.tuple #[.int .u64 x, .bool bb]) ((w.alloc (.cells #[.int .i64 th, .int .i64 2, .int .u64 ad, .int .u64 wd, .bool own, .int .i64 er] 60)).drewN n) := fun n => hlk _ (kk.drewN n)
    clear hm hlk hO
    cases own <;> cases bb
    all_goals
      go_enter Tryz.func103, Tryz.ntmps103
      go_wp2_with fail
      go_quiet (fail)
      go_wp2_with fail
      go_ret
      exact ⟨by simp, kk.drewN _⟩
  · obtain ⟨n, hn, hz⟩ := hm.len
    have hn2 := hn _ kk
    clear hn hm
    by_cases h5 : kd = 5
    · subst h5
      have hO : ownE ⟨st, sn, wr⟩ ⟨th, 5, ad, wd, own, er⟩ = decide (0 < n) := by
        unfold ownE
        simp only [if_true]
        by_cases hw : wr = []
        · have := hz.2 hw; subst this; simp [hw]
        · have : n ≠ 0 := fun h => hw (hz.1 h)
          simp [hw]; omega
      rw [hO]
      clear hO hz
      go_enter Tryz.func103, Tryz.ntmps103
      go_wp2_with fail
      go_ret
      exact ⟨rfl, kk⟩
    · by_cases h6 : kd = 6
      · subst h6
        have hO : ownE ⟨st, sn, wr⟩ ⟨th, 6, ad, wd, own, er⟩ = (decide (st = 3) || decide (n = 0)) := by
          unfold ownE
          simp only [if_true]
          by_cases hw : wr = []
          · have := hz.2 hw; subst this; simp [hw]
          · have : n ≠ 0 := fun h => hw (hz.1 h)
            simp [hw, this]
        rw [hO]
        clear hO hz
        by_cases hst : st = 3
        · subst hst
          go_enter Tryz.func103, Tryz.ntmps103
          go_wp2_with fail
          go_ret
          exact ⟨rfl, kk⟩
        · have hst2 : ¬ (st : Int) = 3 := by omega
          go_enter Tryz.func103, Tryz.ntmps103
          go_wp2_with fail
          go_ret
          exact ⟨by rw [show ((st : Int) == 3) = false from beq_eq_false_iff_ne.2 hst2, show ((n : Int) == 0) = decide (n = 0) by by_cases h : n = 0 <;> simp [h]]; simp, kk⟩
      · go_enter Tryz.func103, Tryz.ntmps103
        go_wp2_with fail
        go_ret
        exact ⟨by simp [ownE, h2, h5, h6], kk⟩
theorem Crs.cell {w : World} {base c : Nat} {S : St} {m : Nat → Option Nat} (h : Crs w base c S m) : w.cell? ⟨c, 0, none⟩ = some (.int .u64 S.n) ∧ w.cell? ⟨c, 1, none⟩ = some (.bool (heldB S)) ∧ ∀ i, i < 8 → w.cell? ⟨c, 2 + i * 3, none⟩ = some (.int .i64 ((S.sd i).st : Int)) ∧ w.cell? ⟨c, 2 + i * 3 + 1, none⟩ = some (.int .u64 (S.sd i).sn) ∧ w.cell? ⟨c, 2 + i * 3 + 2, none⟩ = some (.map (m i)) := by
  obtain ⟨cs, h1, h2, h3, h4, h5⟩ := h.blk
  refine ⟨by rw [cell_of_block h1, h3], by rw [cell_of_block h1, h4], fun i hi => ?_⟩
  obtain ⟨a, b, d⟩ := h5 i hi
  exact ⟨by rw [cell_of_block h1, a], by rw [cell_of_block h1, b], by rw [cell_of_block h1, d]⟩
set_option maxRecDepth 100000 in
set_option maxHeartbeats 4000000 in
theorem refusal_any (base c : Nat) (S : St) (m : Nat → Option Nat) (e : Ev) (w : World) (h : Crs w base c S m) (hg : Gv w) (hn : S.n < 4611686018427387904) :
    Calls Tryz.prog 79 #[.pointer (some ⟨c, 0, none⟩), .agg e.cells] w fun ex w' => ex = .returned (.int .i64 (errE S e)) ∧ Keeps (fun _ => False) w w' := by
  have F := fun W (k : Keeps (fun _ => False) w W) => formed_any e W (hg.keeps k)
  have k0 := (Keeps.refl (fun _ => False) w).alloc (.cells e.cells 60)
  have bb := (MapKept.heap_alloc w (.cells e.cells 60)).1
  have hE : errE S e = errS (heldB S) S.n (S.sd e.th.toNat) e := rfl
  unfold errS at hE
  have HC : Hid (∀ X, Keeps (fun _ => False) w X → Crs X base c S m ∧ Gv X) := fun X k => ⟨h.keeps k (fun _ _ f => f), hg.keeps k⟩
  have hn0 := h.n
  have hin := @formed_in e
  have st := h.st
  have sn := h.sn
  clear h hg
  cases hf : formedE e
  · rw [hf] at F hE
    simp only [if_true] at hE
    rw [hE]
    clear hE HC hin st sn
    obtain ⟨th, kd, ad, wd, own, er⟩ := e
    show Calls Tryz.prog 79 #[.pointer (some ⟨c, 0, none⟩), .agg #[.int .i64 th, .int .i64 kd, .int .u64 ad, .int .u64 wd, .bool own, .int .i64 er]] w fun ex w' => ex = .returned (.int .i64 201) ∧ Keeps (fun _ => False) w w'
    go_enter Tryz.func79, Tryz.ntmps79
    go_wp2_with fail
    refine (F _ k0).mono ?_
    rintro ex w1 ⟨rfl, k1⟩
    go_wp2_with fail
    go_ret
    exact ⟨rfl, k0.trans k1⟩
  · obtain ⟨t0, t1, q0, q1⟩ := hin hf
    rw [hf] at F hE
    simp only [Bool.true_eq_false, if_false] at hE
    obtain ⟨i, hi⟩ : ∃ i : Nat, e.th = i := ⟨e.th.toNat, by omega⟩
    have hi8 : i < 8 := by omega
    rw [show e.th.toNat = i by omega] at hE
    obtain ⟨st0, st1⟩ := st i hi8
    obtain ⟨sn0, sn1⟩ := sn i hi8
    have T := fun W (k : Keeps (fun _ => False) w W) => turn_any c (2 + i * 3) (S.sd i).st st0 st1 e q0 q1 W ((HC.out W k).1.cell.2.2 i hi8).1 (HC.out W k).2
    have LK := fun W (k : Keeps (fun _ => False) w W) => locked_any c (heldB S) e.kd W (HC.out W k).1.cell.2.1
    have N := fun W (k : Keeps (fun _ => False) w W) => numbered_any c (2 + i * 3) S.n (S.sd i).sn (S.sd i).st (S.sd i).wr e W hn0 hn sn0 sn1 (HC.out W k).1.cell.1 ((HC.out W k).1.cell.2.2 i hi8).1 ((HC.out W k).1.cell.2.2 i hi8).2.1
    have O := fun W (k : Keeps (fun _ => False) w W) => owned_any c (2 + i * 3) (S.sd i).st (S.sd i).sn (m i) (S.sd i).wr e W ((HC.out W k).1.cell.2.2 i hi8).1 ((HC.out W k).1.cell.2.2 i hi8).2.2 ((HC.out W k).1.maps i hi8)
    have e1 : (⟨(S.sd i).st, (S.sd i).sn, (S.sd i).wr⟩ : Sd) = S.sd i := rfl
    rw [e1] at N O
    generalize errE S e = z at *
    generalize (heldB S && clkB e.kd) = lb at *
    have HZ : Hid (z = _) := hE
    clear hE hn0 st sn hin q0 q1 e1 st0 st1 sn0 sn1 t0 t1 HC
    generalize turnN (S.sd i).st e = tn at *
    generalize numE S.n (S.sd i) e = nb at *
    generalize ownE (S.sd i) e = ob at *
    obtain ⟨th, kd, ad, wd, own, er⟩ := e
    dsimp only at hi T LK N O F bb k0 ⊢
    subst hi
    have hi0 : (0 : Int) ≤ i := by omega
    have hi8' : (i : Int) < 8 := by omega
    have CE : Hid (∀ X, Keeps (fun _ => False) (w.alloc (.cells #[.int .i64 (i : Int), .int .i64 kd, .int .u64 ad, .int .u64 wd, .bool own, .int .i64 er] 60)) X → X.cell? ⟨w.heap.size, 0, none⟩ = some (.int .i64 (i : Int)) ∧ X.cell? ⟨w.heap.size, 1, none⟩ = some (.int .i64 kd) ∧ X.cell? ⟨w.heap.size, 2, none⟩ = some (.int .u64 ad) ∧ X.cell? ⟨w.heap.size, 3, none⟩ = some (.int .u64 wd) ∧ X.cell? ⟨w.heap.size, 4, none⟩ = some (.bool own) ∧ X.cell? ⟨w.heap.size, 5, none⟩ = some (.int .i64 er)) := fun X k => by
      have b2 := (k.block _ (lt_of_block bb) (fun f => f)).trans bb
      refine ⟨?_, ?_, ?_, ?_, ?_, ?_⟩ <;> (rw [cell_of_block b2]; rfl)
    clear bb
    go_enter Tryz.func79, Tryz.ntmps79
    go_wp2_with fail
    refine (F _ k0).mono ?_
    rintro ex w1 ⟨rfl, k1⟩
    obtain ⟨a0, a1, a2, a3, a4, a5⟩ := CE.out w1 k1
    go_wp2_with fail
    go_quiet (fail)
    go_wp2_with fail
    have k2 := k1.drewN nq
    clear k1 a0 a1 a2 a3 a4 a5
    refine (T _ (k0.trans k2)).mono ?_
    rintro ex w2 ⟨rfl, k3⟩
    have k4 := k2.trans k3
    obtain ⟨a0, a1, a2, a3, a4, a5⟩ := CE.out w2 k4
    clear k2 k3 T F
    by_cases htn : tn = 0
    · subst htn
      go_wp2_with fail
      go_ret
      exact ⟨by rw [HZ.out]; rfl, k0.trans k4⟩
    · have htn2 : ¬ (tn : Int) = 0 := by omega
      have HT : Hid (tn ≠ 0) := htn
      clear htn
      go_wp2_with fail
      refine (LK _ (k0.trans k4)).mono ?_
      rintro ex w3 ⟨rfl, rfl⟩
      cases lb
      · clear LK
        go_wp2_with fail
        refine (N _ (k0.trans k4)).mono ?_
        rintro ex w4 ⟨rfl, k5⟩
        have k6 := k4.trans k5
        obtain ⟨a0, a1, a2, a3, a4, a5⟩ := CE.out w4 k6
        clear N k4 k5
        cases nb
        · go_wp2_with fail
          go_ret
          exact ⟨by rw [HZ.out, if_neg HT.out]; rfl, k0.trans k6⟩
        · go_wp2_with fail
          refine (O _ (k0.trans k6)).mono ?_
          rintro ex w5 ⟨rfl, k7⟩
          have k8 := k6.trans k7
          clear O k6 k7
          cases ob
          · go_wp2_with fail
            go_ret
            exact ⟨by rw [HZ.out, if_neg HT.out]; rfl, k0.trans k8⟩
          · go_wp2_with fail
            go_ret
            exact ⟨by rw [HZ.out, if_neg HT.out]; rfl, k0.trans k8⟩
      · go_wp2_with fail
        go_ret
        exact ⟨by rw [HZ.out, if_neg HT.out]; rfl, k0.trans k4⟩
end Go.Proofs.YthmiainhaebjiaaGreatDoor


/- Walks of start, take, Check (package events). No statement of the seat is proved here. -/
namespace Go.Proofs.YthmiainhaebjiaaGreatDoor
open Go.RowKit Go.Shelf

theorem sd_set {S : St} {i : Nat} {s : Sd} {n : Int} (hl : S.t.length = 8) (hi : i < 8) (j : Nat) : (⟨n, S.t.set i s⟩ : St).sd j = if j = i then s else S.sd j := by
  unfold St.sd
  dsimp only
  rw [List.getElem?_set]
  by_cases h : i = j
  · subst h; simp [hl, hi]
  · have h' : ¬ j = i := fun e => h e.symm
    simp [h, h']
theorem held_iff {S : St} (hl : S.t.length = 8) : heldB S = true ↔ ∃ j, j < 8 ∧ (S.sd j).st = 3 := by
  unfold heldB
  rw [List.any_eq_true]
  constructor
  · rintro ⟨x, hx, h3⟩
    obtain ⟨j, hj, rfl⟩ := List.getElem_of_mem hx
    refine ⟨j, by omega, ?_⟩
    unfold St.sd
    rw [List.getElem?_eq_getElem hj]
    simpa using h3
  · rintro ⟨j, hj, h3⟩
    refine ⟨S.t[j]'(by omega), List.getElem_mem _, ?_⟩
    unfold St.sd at h3
    rw [List.getElem?_eq_getElem (by omega)] at h3
    simpa using h3
/-- At most one thread holds the lock. -/
def Uniq (S : St) : Prop := S.t.length = 8 ∧ ∀ i j, i < 8 → j < 8 → (S.sd i).st = 3 → (S.sd j).st = 3 → i = j
theorem turn3 {st : Nat} {e : Ev} (h : turnN st e = 3) : st = 2 ∧ e.kd = 5 := by
  unfold turnN at h
  repeat' split at h
  all_goals first | omega | (exact ⟨by assumption, by assumption⟩)
theorem turn_of3 {e : Ev} (h : turnN 3 e ≠ 0) : e.kd = 6 ∧ turnN 3 e = 1 := by
  unfold turnN at h ⊢
  simp only [show ¬ (3 = 1) by decide, show ¬ (3 = 2) by decide, if_false, if_true] at h ⊢
  by_cases h6 : e.kd = 6
  · simp [h6]
  · simp [h6] at h
theorem turn_of5 {st : Nat} {e : Ev} (h : turnN st e ≠ 0) (h5 : e.kd = 5) : st = 2 ∧ turnN st e = 3 := by
  unfold turnN at h ⊢
  rw [h5] at h ⊢
  by_cases h1 : st = 1
  · simp [h1] at h
  · by_cases h2 : st = 2
    · simp [h2]
    · by_cases h3 : st = 3
      · simp [h3] at h
      · simp [h1, h2, h3] at h
theorem turn_le {st : Nat} {e : Ev} : turnN st e ≤ 4 := by
  unfold turnN
  repeat' split
  all_goals omega
/-- What an event that can be says. -/
theorem err_ok {S : St} {e : Ev} (h : errE S e = 0) : formedE e = true ∧ turnN (S.sd e.th.toNat).st e ≠ 0 ∧ (heldB S && clkB e.kd) = false ∧ numE S.n (S.sd e.th.toNat) e = true ∧ ownE (S.sd e.th.toNat) e = true := by
  unfold errE errS at h
  by_cases h1 : formedE e = false
  · simp [h1] at h
  · by_cases h2 : turnN (S.sd e.th.toNat).st e = 0
    · simp [h1, h2] at h
    · by_cases h3 : (heldB S && clkB e.kd) = true
      · simp only [h1, h2, h3, if_true, if_false] at h; omega
      · by_cases h4 : numE S.n (S.sd e.th.toNat) e = false
        · simp only [h1, h2, h3, h4, if_true, if_false] at h; omega
        · by_cases h5 : ownE (S.sd e.th.toNat) e = false
          · simp only [h1, h2, h3, h4, h5, if_true, if_false] at h; omega
          · exact ⟨by simpa using h1, h2, by simpa using h3, by simpa using h4, by simpa using h5⟩
theorem next_len {S : St} {e : Ev} (h : S.t.length = 8) : (nextS S e).t.length = 8 := by simp [nextS, h]
theorem next_sd {S : St} {e : Ev} (hl : S.t.length = 8) (h0 : 0 ≤ e.th) (h8 : e.th < 8) (j : Nat) : (nextS S e).sd j = if j = e.th.toNat then nextSd (S.sd e.th.toNat) e else S.sd j := sd_set hl (by omega) j
theorem next_uniq {S : St} {e : Ev} (hu : Uniq S) (h : errE S e = 0) : Uniq (nextS S e) := by
  obtain ⟨h1, h2, h3, h4, h5⟩ := err_ok h
  obtain ⟨t0, t8, k0, k1⟩ := formed_in h1
  refine ⟨next_len hu.1, fun i j hi hj h3i h3j => ?_⟩
  rw [next_sd hu.1 t0 t8] at h3i h3j
  have key : ∀ j, j < 8 → (S.sd j).st = 3 → nextSd (S.sd e.th.toNat) e ≠ nextSd (S.sd e.th.toNat) e ∨ ¬ (nextSd (S.sd e.th.toNat) e).st = 3 := fun j hj hs => .inr fun hn => by
    obtain ⟨a, b⟩ := turn3 hn
    have hh := (held_iff hu.1).2 ⟨j, hj, hs⟩
    rw [hh, b] at h3
    simp [clkB] at h3
  by_cases ei : i = e.th.toNat <;> by_cases ej : j = e.th.toNat
  · omega
  · rw [if_pos ei] at h3i; rw [if_neg ej] at h3j
    rcases key j hj h3j with q | q
    · exact absurd rfl q
    · exact absurd h3i q
  · rw [if_neg ei] at h3i; rw [if_pos ej] at h3j
    rcases key i hi h3i with q | q
    · exact absurd rfl q
    · exact absurd h3j q
  · rw [if_neg ei] at h3i; rw [if_neg ej] at h3j
    exact hu.2 i j hi hj h3i h3j
theorem next_held {S : St} {e : Ev} (hu : Uniq S) (h : errE S e = 0) : heldB (nextS S e) = if e.kd = 5 then true else if e.kd = 6 ∧ (S.sd e.th.toNat).st = 3 then false else heldB S := by
  obtain ⟨h1, h2, h3, h4, h5⟩ := err_ok h
  obtain ⟨t0, t8, k0, k1⟩ := formed_in h1
  have hl := next_len (e := e) hu.1
  by_cases e5 : e.kd = 5
  · rw [if_pos e5, held_iff hl]
    refine ⟨e.th.toNat, by omega, ?_⟩
    rw [next_sd hu.1 t0 t8, if_pos rfl]
    exact (turn_of5 h2 e5).2
  · rw [if_neg e5]
    by_cases e6 : e.kd = 6 ∧ (S.sd e.th.toNat).st = 3
    · rw [if_pos e6, Bool.eq_false_iff, Ne, held_iff hl]
      rintro ⟨j, hj, hs⟩
      rw [next_sd hu.1 t0 t8] at hs
      by_cases ej : j = e.th.toNat
      · rw [if_pos ej] at hs
        exact e5 (turn3 hs).2
      · rw [if_neg ej] at hs
        exact ej (hu.2 j _ hj (by omega) hs e6.2)
    · rw [if_neg e6, Bool.eq_iff_iff, held_iff hl, held_iff hu.1]
      constructor
      · rintro ⟨j, hj, hs⟩
        rw [next_sd hu.1 t0 t8] at hs
        by_cases ej : j = e.th.toNat
        · rw [if_pos ej] at hs
          exact absurd (turn3 hs).2 e5
        · rw [if_neg ej] at hs
          exact ⟨j, hj, hs⟩
      · rintro ⟨j, hj, hs⟩
        refine ⟨j, hj, ?_⟩
        rw [next_sd hu.1 t0 t8]
        by_cases ej : j = e.th.toNat
        · exfalso
          rw [ej] at hs
          rw [hs] at h2
          exact e6 ⟨(turn_of3 h2).1, hs⟩
        · rw [if_neg ej]; exact hs
theorem st0_sd (j : Nat) : st0.sd j = sd0 := by
  unfold St.sd st0
  dsimp only
  rw [List.getElem?_replicate]
  split <;> rfl
theorem st0_uniq : Uniq st0 := ⟨rfl, fun i j _ _ h _ => by rw [st0_sd] at h; cases h⟩
end Go.Proofs.YthmiainhaebjiaaGreatDoor


/- How far a history can be, and how many attempts it has (pure). No statement of the seat is proved here. -/
namespace Go.Proofs.YthmiainhaebjiaaGreatDoor

def opens (T : Tr) : Nat := T.o.countP (fun n => decide (n ≠ 0))
/-- A thread that is in no attempt has none open. -/
structure TCnt (S : St) (T : Tr) (k : Nat) : Prop where
  o8 : T.o.length = 8
  t8 : S.t.length = 8
  out : ∀ i, i < 8 → (S.sd i).st ≠ 2 → (S.sd i).st ≠ 3 → T.at i = 0
  cnt : 2 * T.l.length ≤ k + opens T
theorem opens_le (T : Tr) (h : T.o.length = 8) : opens T ≤ 8 := by
  unfold opens; rw [← h]; exact List.countP_le_length
theorem opens_set (T : Tr) (l : List Ty) (i n : Nat) (h : i < T.o.length) : opens ⟨l, T.o.set i n⟩ + (if T.at i ≠ 0 then 1 else 0) = opens T + (if n ≠ 0 then 1 else 0) := by
  have hat : T.at i = T.o[i] := by simp [Tr.at, List.getElem?_eq_getElem h]
  unfold opens
  rw [List.countP_set h, hat]
  have hp : (if T.o[i] ≠ 0 then 1 else 0) ≤ T.o.countP (fun n => decide (n ≠ 0)) := by
    split
    · rename_i q
      exact List.countP_pos_iff.2 ⟨T.o[i], List.getElem_mem h, by simpa using q⟩
    · omega
  generalize T.o.countP (fun n => decide (n ≠ 0)) = c at hp ⊢
  by_cases q : T.o[i] = 0 <;> by_cases r : n = 0 <;> simp [q, r] at hp ⊢ <;> omega
theorem err_turn {S : St} {e : Ev} (h : errE S e = 0) : formedE e = true ∧ turnN (S.sd e.th.toNat).st e ≠ 0 := by
  unfold errE errS at h
  cases hf : formedE e with
  | false => simp [hf] at h
  | true =>
    refine ⟨rfl, fun ht => ?_⟩
    simp [hf, ht] at h
theorem cnt_step {S : St} {T : Tr} {k : Nat} {e : Ev} (h : TCnt S T k) (hI : TInv T k) (he : errE S e = 0) : TCnt (nextS S e) (stepT T k e) (k + 1) := by
  obtain ⟨hf, ht⟩ := err_turn he
  obtain ⟨f0, f1, f2, f3⟩ := formed_in hf
  have hi8 : e.th.toNat < 8 := by omega
  have hsd := next_sd (S := S) (e := e) h.t8 f0 f1
  have hst : ((nextS S e).sd e.th.toNat).st = turnN (S.sd e.th.toNat).st e := by rw [hsd, if_pos rfl]; rfl
  have hoth : ∀ j, j ≠ e.th.toNat → (nextS S e).sd j = S.sd j := fun j hj => by rw [hsd, if_neg hj]
  have hil : e.th.toNat < T.o.length := by rw [h.o8]; exact hi8
  unfold stepT openT
  by_cases h1 : e.kd = 1
  · have hs1 : (S.sd e.th.toNat).st = 1 := by
      unfold turnN at ht
      by_cases q1 : (S.sd e.th.toNat).st = 1
      · exact q1
      · by_cases q2 : (S.sd e.th.toNat).st = 2
        · simp [q2, h1] at ht
        · by_cases q3 : (S.sd e.th.toNat).st = 3
          · simp [q3, h1] at ht
          · simp [q1, q2, q3] at ht
    have hat := h.out _ hi8 (by omega) (by omega)
    rw [if_pos h1]
    have hA : (⟨T.l ++ [⟨e.th, k, 0, 0, 0, 0, 0⟩], T.o.set e.th.toNat (T.l.length + 1)⟩ : Tr).at e.th.toNat = T.l.length + 1 := by rw [at_set, if_pos ⟨rfl, hil⟩]
    have hop := opens_set T (T.l ++ [⟨e.th, k, 0, 0, 0, 0, 0⟩]) e.th.toNat (T.l.length + 1) hil
    unfold markT
    simp only [hA]
    rw [if_neg (by omega)]
    have hn : (noteT (((T.l ++ [(⟨e.th, k, 0, 0, 0, 0, 0⟩ : Ty)])[T.l.length + 1 - 1]?).getD ty0) k e).how = 0 := by
      rw [List.getElem?_append_right (by omega)]
      simp [noteT, endB, h1]
    simp only [hn, if_true]
    have hlen : ∀ x : Ty, ((T.l ++ [(⟨e.th, k, 0, 0, 0, 0, 0⟩ : Ty)]).set (T.l.length + 1 - 1) x).length = T.l.length + 1 := fun x => by simp
    refine ⟨by simpa using h.o8, next_len h.t8, fun j hj a2 a3 => ?_, ?_⟩
    · by_cases hje : j = e.th.toNat
      · subst hje
        rw [hst, hs1] at a2
        simp [turnN, h1] at a2
      · rw [hoth j hje] at a2 a3
        rw [at_set, if_neg (fun q => hje q.1)]
        exact h.out j hj a2 a3
    · show 2 * ((T.l ++ [(⟨e.th, k, 0, 0, 0, 0, 0⟩ : Ty)]).set (T.l.length + 1 - 1) _).length ≤ _
      rw [hlen]
      have : opens ⟨(T.l ++ [(⟨e.th, k, 0, 0, 0, 0, 0⟩ : Ty)]).set (T.l.length + 1 - 1) (noteT (((T.l ++ [(⟨e.th, k, 0, 0, 0, 0, 0⟩ : Ty)])[T.l.length + 1 - 1]?).getD ty0) k e), T.o.set e.th.toNat (T.l.length + 1)⟩ = opens T + 1 := by
        rw [hat] at hop
        simpa [opens] using hop
      rw [this]
      have := h.cnt
      omega
  · rw [if_neg h1]
    unfold markT
    by_cases h0 : T.at e.th.toNat = 0
    · rw [if_pos h0]
      refine ⟨h.o8, next_len h.t8, fun j hj a2 a3 => ?_, by have := h.cnt; omega⟩
      by_cases hje : j = e.th.toNat
      · subst hje; exact h0
      · rw [hoth j hje] at a2 a3; exact h.out j hj a2 a3
    · rw [if_neg h0]
      obtain ⟨t, htt, hw⟩ := hI.op _ h0
      have hg : (T.l[T.at e.th.toNat - 1]?).getD ty0 = t := by rw [htt]; rfl
      simp only [hg]
      have hop := opens_set T (T.l.set (T.at e.th.toNat - 1) (noteT t k e)) e.th.toNat 0 hil
      have h23 : (S.sd e.th.toNat).st = 2 ∨ (S.sd e.th.toNat).st = 3 := by
        by_cases q2 : (S.sd e.th.toNat).st = 2
        · exact .inl q2
        · by_cases q3 : (S.sd e.th.toNat).st = 3
          · exact .inr q3
          · exact absurd (h.out _ hi8 q2 q3) h0
      by_cases hE : endB e.kd = true
      · have hn : ¬ (noteT t k e).how = 0 := by simp [noteT, hE]; omega
        simp only [if_neg hn]
        refine ⟨by simpa using h.o8, next_len h.t8, fun j hj a2 a3 => ?_, ?_⟩
        · by_cases hje : j = e.th.toNat
          · rw [at_set, if_pos ⟨hje, hil⟩]
          · rw [hoth j hje] at a2 a3
            rw [at_set, if_neg (fun q => hje q.1)]
            exact h.out j hj a2 a3
        · rw [if_pos h0] at hop
          simp only [List.length_set]
          have := h.cnt
          simp at hop
          omega
      · have hn : (noteT t k e).how = 0 := by simp [noteT, hE, hw]
        simp only [if_pos hn]
        refine ⟨h.o8, next_len h.t8, fun j hj a2 a3 => ?_, ?_⟩
        · by_cases hje : j = e.th.toNat
          · subst hje
            exfalso
            rw [hst] at a2 a3
            have hE' : ¬ (6 ≤ e.kd ∧ e.kd ≤ 9) := by simpa [endB] using hE
            unfold turnN at ht a2 a3
            rcases kd12 f2 f3 with c | c | c | c | c | c | c | c | c | c | c | c <;> rcases h23 with q | q <;> simp [q, c] at ht a2 a3 hE' h1
          · rw [hoth j hje] at a2 a3; exact h.out j hj a2 a3
        · simp only [List.length_set]
          have := h.cnt
          show 2 * T.l.length ≤ k + 1 + opens T
          omega
theorem cnt0 : TCnt st0 tr0 0 := ⟨rfl, rfl, fun i hi _ _ => by
    simp only [Tr.at, tr0, List.getElem?_replicate]
    split <;> rfl, by simp [tr0]⟩
theorem tries_cnt : ∀ (h : List Ev) (S : St) (T : Tr) (k : Nat), TCnt S T k → TInv T k → (chk S h k).2 = 0 → TCnt (h.foldl nextS S) (triesF T h k) (k + h.length)
  | [], S, T, k, hc, _, _ => hc
  | e :: h, S, T, k, hc, hi, hz => by
    rw [chk] at hz
    by_cases he : errE S e = 0
    · rw [if_pos he] at hz
      have h1 := cnt_step hc hi he
      have h2 := (mark_inv (open_inv hi e).1 e).1
      have := tries_cnt h (nextS S e) (stepT T k e) (k + 1) h1 h2 hz
      rw [triesF, List.foldl_cons, List.length_cons, show k + (h.length + 1) = k + 1 + h.length by omega]
      exact this
    · rw [if_neg he] at hz; exact absurd hz he
/-- A history that can be has at most half as many attempts as events, and four. -/
theorem tries_few {L : List Ev} (hz : (checkL L).2 = 0) (k : Nat) (hk : k ≤ L.length) : 2 * (triesF tr0 (L.take k) 0).l.length ≤ k + 8 := by
  have h := tries_cnt (L.take k) st0 tr0 0 cnt0 tr0_inv (chk_take hz)
  have h1 := h.cnt
  have h2 := opens_le _ h.o8
  have : (L.take k).length = k := by simp; omega
  omega
end Go.Proofs.YthmiainhaebjiaaGreatDoor


/- Blocks of a history (pure): event by event, and each by itself from its Begin on. No statement of the seat is proved here. -/
namespace Go.Proofs.YthmiainhaebjiaaGreatDoor

/-- A block, and what its place in the order hangs on. -/
structure Pt where
  th : Int
  kd : Int
  fi : Int
  la : Int
  nu : Int
  wr : Bool
  er : Int
  rs : List (Int × Int)
  ws : List (Int × Int)
  si : Int
  lk : Bool
def pt0 : Pt := ⟨0, 0, 0, 0, 0, false, 0, [], [], 0, false⟩
/-- An event of a block is noted. -/
def noteP (p : Pt) (k : Int) (e : Ev) : Pt :=
  if e.kd = 1 ∨ e.kd = 4 then { p with la := k, kd := 5, nu := e.wd / 2, si := k }
  else if e.kd = 2 then (if e.own then { p with la := k } else { p with la := k, rs := p.rs ++ [(e.ad, e.wd)] })
  else if e.kd = 3 then { p with la := k, ws := p.ws ++ [(e.ad, e.wd)] }
  else if e.kd = 5 then { p with la := k, lk := true }
  else if e.kd = 6 then { p with la := k, kd := 1, nu := e.wd, wr := p.lk }
  else if e.kd = 8 then { p with la := k, kd := 2 }
  else if e.kd = 9 then { p with la := k, kd := 3, er := e.er }
  else if e.kd = 7 then { p with la := k, kd := 4 }
  else { p with la := k }
def freshP (th : Int) (k : Int) : Pt := ⟨th, 0, k, 0, 0, false, 0, [], [], 0, false⟩
/-- The blocks so far, and which one of a thread is going on. -/
structure Wt where
  l : List Pt
  o : Int → Option Nat
def wt0 : Wt := ⟨[], fun _ => none⟩
def openW (T : Wt) (k : Nat) (e : Ev) : Wt := if e.kd = 1 then ⟨T.l ++ [freshP e.th k], fun t => if t = e.th then some T.l.length else T.o t⟩ else T
def markW (T : Wt) (k : Nat) (e : Ev) : Wt :=
  match T.o e.th with
  | none => T
  | some n => ⟨T.l.set n (noteP ((T.l[n]?).getD pt0) k e), if (noteP ((T.l[n]?).getD pt0) k e).kd = 5 then T.o else fun t => if t = e.th then none else T.o t⟩
def stepW (T : Wt) (k : Nat) (e : Ev) : Wt := markW (openW T k e) k e
def partsF : Wt → List Ev → Nat → Wt
  | T, [], _ => T
  | T, e :: h, k => partsF (stepW T k e) h (k + 1)
def partsL (h : List Ev) : List Pt := (partsF wt0 h 0).l
theorem partsF_append : ∀ (T : Wt) (h g : List Ev) (k : Nat), partsF T (h ++ g) k = partsF (partsF T h k) g (k + h.length)
  | T, [], g, k => by simp [partsF]
  | T, e :: h, g, k => by
    rw [List.cons_append, partsF, partsF, partsF_append]
    simp only [List.length_cons]
    rw [show k + 1 + h.length = k + (h.length + 1) by omega]
theorem parts_push (h : List Ev) (e : Ev) : partsF wt0 (h ++ [e]) 0 = stepW (partsF wt0 h 0) h.length e := by
  rw [partsF_append]; simp [partsF]

/-- A block from a place on. -/
def blkG (p : Pt) : List Ev → Nat → Pt
  | [], _ => p
  | e :: h, k => if e.th ≠ p.th then blkG p h (k + 1) else if endB e.kd then noteP p k e else blkG (noteP p k e) h (k + 1)
def newP (e : Ev) (k : Nat) : Pt := noteP (freshP e.th k) k e
def begP : List Ev → Nat → List Pt
  | [], _ => []
  | e :: h, k => if e.kd = 1 then blkG (newP e k) h (k + 1) :: begP h (k + 1) else begP h (k + 1)
def shutP (g : List Ev) (k : Nat) (p : Pt) : Pt := if p.kd = 5 then blkG p g k else p

theorem noteP_th (p : Pt) (k : Int) (e : Ev) : (noteP p k e).th = p.th := by
  unfold noteP; (repeat' split) <;> rfl
theorem noteP_fi (p : Pt) (k : Int) (e : Ev) : (noteP p k e).fi = p.fi := by
  unfold noteP; (repeat' split) <;> rfl
theorem noteP_la (p : Pt) (k : Int) (e : Ev) : (noteP p k e).la = k := by
  unfold noteP; (repeat' split) <;> rfl
theorem noteP_end {p : Pt} {k : Int} {e : Ev} (h : endB e.kd = true) : (noteP p k e).kd ≠ 5 := by
  unfold endB at h
  simp only [decide_eq_true_eq] at h
  have : e.kd = 6 ∨ e.kd = 7 ∨ e.kd = 8 ∨ e.kd = 9 := by omega
  unfold noteP
  rcases this with q | q | q | q <;> simp [q]
theorem noteP_goes {p : Pt} {k : Int} {e : Ev} (hp : p.kd = 5) (h : ¬ endB e.kd = true) : (noteP p k e).kd = 5 := by
  unfold endB at h
  simp only [decide_eq_true_eq] at h
  unfold noteP
  by_cases h1 : e.kd = 1 ∨ e.kd = 4
  · rw [if_pos h1]
  · rw [if_neg h1, if_neg (c := e.kd = 6) (by omega), if_neg (c := e.kd = 8) (by omega), if_neg (c := e.kd = 9) (by omega), if_neg (c := e.kd = 7) (by omega)]
    (repeat' split) <;> exact hp
theorem newP_kd {e : Ev} (k : Nat) (h : e.kd = 1) : (newP e k).kd = 5 := by simp [newP, noteP, h]
theorem newP_th (e : Ev) (k : Nat) : (newP e k).th = e.th := noteP_th _ _ _

/-- Which threads are inside, and which blocks are going on. -/
structure POpen (S : St) (T : Wt) : Prop where
  t8 : S.t.length = 8
  inn : ∀ t i, T.o t = some i → 0 ≤ t ∧ t < 8 ∧ ((S.sd t.toNat).st = 2 ∨ (S.sd t.toNat).st = 3)
  own : ∀ (i : Nat) (p : Pt), T.l[i]? = some p → p.kd = 5 → T.o p.th = some i
  th : ∀ t i, T.o t = some i → ∃ p, T.l[i]? = some p ∧ p.th = t ∧ p.kd = 5
theorem popen0 : POpen st0 wt0 := ⟨rfl, fun t i h => by simp [wt0] at h, fun i p h => by simp [wt0] at h, fun t i h => by simp [wt0] at h⟩
theorem shutP_map {l : List Pt} {e : Ev} {g : List Ev} {k : Nat} (h : ∀ p ∈ l, p.kd = 5 → e.th ≠ p.th) : l.map (shutP (e :: g) k) = l.map (shutP g (k + 1)) := by
  apply List.map_congr_left
  intro p hp
  unfold shutP
  split
  · rename_i h0
    rw [blkG, if_pos (h p hp h0)]
  · rfl
theorem popen_step {S : St} {T : Wt} {k : Nat} {e : Ev} (hO : POpen S T) (he : errE S e = 0) (g : List Ev) :
    POpen (nextS S e) (stepW T k e) ∧ (stepW T k e).l.map (shutP g (k + 1)) ++ begP g (k + 1) = T.l.map (shutP (e :: g) k) ++ begP (e :: g) k := by
  obtain ⟨hf, ht⟩ := err_turn he
  obtain ⟨f0, f1, f2, f3⟩ := formed_in hf
  have hsd := next_sd (S := S) (e := e) hO.t8 f0 f1
  have hst : ((nextS S e).sd e.th.toNat).st = turnN (S.sd e.th.toNat).st e := by rw [hsd, if_pos rfl]; rfl
  have hoth : ∀ j, j ≠ e.th.toNat → (nextS S e).sd j = S.sd j := fun j hj => by rw [hsd, if_neg hj]
  have ht8 : (nextS S e).t.length = 8 := by simp [nextS, hO.t8]
  unfold stepW openW
  by_cases h1 : e.kd = 1
  · have hs1 : (S.sd e.th.toNat).st = 1 := by
      unfold turnN at ht
      by_cases q1 : (S.sd e.th.toNat).st = 1
      · exact q1
      · by_cases q2 : (S.sd e.th.toNat).st = 2
        · simp [q2, h1] at ht
        · by_cases q3 : (S.sd e.th.toNat).st = 3
          · simp [q3, h1] at ht
          · simp [q1, q2, q3] at ht
    have hto : T.o e.th = none := by
      cases hq : T.o e.th with
      | none => rfl
      | some i => have := hO.inn _ _ hq; omega
    have hs2 : ((nextS S e).sd e.th.toNat).st = 2 := by rw [hst, hs1]; simp [turnN, h1]
    rw [if_pos h1]
    have hm : markW ⟨T.l ++ [freshP e.th k], fun t => if t = e.th then some T.l.length else T.o t⟩ k e = ⟨T.l ++ [newP e k], fun t => if t = e.th then some T.l.length else T.o t⟩ := by
      unfold markW
      simp only [if_true]
      have hg : ((T.l ++ [freshP e.th k])[T.l.length]?).getD pt0 = freshP e.th k := by simp
      simp only [hg]
      rw [show noteP (freshP e.th k) k e = newP e k from rfl, if_pos (newP_kd k h1)]
      congr 1
      rw [List.set_append_right _ _ (Nat.le_refl _)]; simp
    rw [hm]
    have hnone : ∀ (i : Nat) (p : Pt), T.l[i]? = some p → p.kd = 5 → e.th ≠ p.th := fun i p hi h0 hth => by
      have := hO.own i p hi h0
      rw [← hth, hto] at this; cases this
    refine ⟨⟨ht8, fun t i hi => ?_, fun i p hi h0 => ?_, fun t i hi => ?_⟩, ?_⟩
    · by_cases hte : t = e.th
      · subst hte; exact ⟨f0, f1, .inl hs2⟩
      · simp only [if_neg hte] at hi
        have := hO.inn t i hi
        rw [hoth _ (by omega)]; exact this
    · simp only at hi ⊢
      rcases Nat.lt_or_ge i T.l.length with hlt | hge
      · rw [List.getElem?_append_left hlt] at hi
        rw [if_neg (fun q => hnone i p hi h0 q.symm)]
        exact hO.own i p hi h0
      · rw [List.getElem?_append_right hge] at hi
        have hi0 : i - T.l.length = 0 := by
          rcases Nat.eq_zero_or_pos (i - T.l.length) with q | q
          · exact q
          · rw [List.getElem?_eq_none (by simp only [List.length_singleton]; omega)] at hi; cases hi
        rw [hi0] at hi
        simp at hi
        subst hi
        rw [newP_th, if_pos rfl]; congr 1; omega
    · by_cases hte : t = e.th
      · subst hte
        simp only [if_true, Option.some.injEq] at hi
        subst hi
        exact ⟨newP e k, by simp, newP_th e k, newP_kd k h1⟩
      · simp only [if_neg hte] at hi
        obtain ⟨p, q1, q2, q3⟩ := hO.th t i hi
        exact ⟨p, by show (T.l ++ _)[_]? = _; rw [List.getElem?_append_left (List.getElem?_eq_some_iff.1 q1).1]; exact q1, q2, q3⟩
    · rw [shutP_map (fun p hp h0 => by obtain ⟨i, hi⟩ := List.getElem?_of_mem hp; exact hnone i p hi h0)]
      rw [begP, if_pos h1]
      simp [shutP, newP_kd k h1]
  · rw [if_neg h1, begP, if_neg h1]
    unfold markW
    cases hto : T.o e.th with
    | none =>
      refine ⟨⟨ht8, fun t i hi => ?_, hO.own, hO.th⟩, ?_⟩
      · have := hO.inn t i hi
        rw [hoth _ (fun q => by rw [show t = e.th by omega, hto] at hi; cases hi)]; exact this
      · rw [shutP_map (fun p hp hw hth => by
          obtain ⟨i, hi⟩ := List.getElem?_of_mem hp
          have := hO.own i p hi hw
          rw [← hth, hto] at this; cases this)]
    | some n =>
      obtain ⟨p, hpp, hth, hw⟩ := hO.th _ _ hto
      have hg : (T.l[n]?).getD pt0 = p := by rw [hpp]; rfl
      simp only [hg]
      obtain ⟨hlt, hpe⟩ := List.getElem?_eq_some_iff.1 hpp
      have hnth : (noteP p k e).th = e.th := by rw [noteP_th, hth]
      have oth : ∀ (i : Nat) (u : Pt), i ≠ n → T.l[i]? = some u → u.kd = 5 → e.th ≠ u.th := fun i u hi hu hh hc => by
        have := hO.own i u hu hh
        rw [← hc, hto] at this; cases this; exact hi rfl
      have hmap : (T.l.set n (noteP p k e)).map (shutP g (k + 1)) = T.l.map (shutP (e :: g) k) := by
        apply List.ext_getElem?
        intro i
        rw [List.getElem?_map, List.getElem?_map, List.getElem?_set]
        by_cases hi : n = i
        · rw [if_pos hi, if_pos (by omega), ← hi, hpp]
          simp only [Option.map_some, Option.some.injEq]
          have e1 : shutP (e :: g) k p = blkG p (e :: g) k := by unfold shutP; rw [if_pos hw]
          rw [e1, blkG, if_neg (by rw [hth]; simp)]
          unfold shutP
          by_cases hE : endB e.kd = true
          · rw [if_pos hE, if_neg (noteP_end hE)]
          · rw [if_neg hE, if_pos (noteP_goes hw hE)]
        · rw [if_neg hi]
          cases hu : T.l[i]? with
          | none => rfl
          | some u =>
            simp only [Option.map_some, Option.some.injEq]
            unfold shutP
            split
            · rename_i hh
              rw [blkG, if_pos (oth i u (fun q => hi q.symm) hu hh)]
            · rfl
      have hin := hO.inn _ _ hto
      by_cases hn : (noteP p k e).kd = 5
      · have hne : ¬ endB e.kd = true := fun q => noteP_end q hn
        have hst2 : ((nextS S e).sd e.th.toNat).st = 2 ∨ ((nextS S e).sd e.th.toNat).st = 3 := by
          rw [hst]
          unfold endB at hne
          simp only [decide_eq_true_eq] at hne
          unfold turnN at ht ⊢
          rcases hin.2.2 with q | q
          · rw [q] at ht ⊢
            simp only [Nat.reduceEqDiff, if_false, if_true] at ht ⊢
            by_cases a1 : e.kd = 2 ∨ e.kd = 3 ∨ e.kd = 4
            · simp [a1]
            · by_cases a2 : e.kd = 5
              · simp [a2]
              · rw [if_neg a1, if_neg a2, if_neg (by omega), if_neg (by omega)] at ht; exact absurd rfl ht
          · rw [q] at ht ⊢
            simp only [Nat.reduceEqDiff, if_false, if_true] at ht ⊢
            rw [if_neg (by omega)] at ht; exact absurd rfl ht
        simp only [if_pos hn]
        refine ⟨⟨ht8, fun t i hi => ?_, fun i u hi hh => ?_, fun t i hi => ?_⟩, by rw [hmap]⟩
        · by_cases hte : t = e.th
          · subst hte; exact ⟨f0, f1, hst2⟩
          · have := hO.inn t i hi
            rw [hoth _ (by omega)]; exact this
        · by_cases hie : n = i
          · subst hie
            rw [List.getElem?_set_self hlt] at hi
            cases hi
            rw [hnth]; exact hto
          · rw [List.getElem?_set_ne hie] at hi
            exact hO.own i u hi hh
        · by_cases hie : t = e.th
          · subst hie
            rw [hto] at hi; cases hi
            exact ⟨noteP p k e, List.getElem?_set_self hlt, hnth, hn⟩
          · obtain ⟨u, q1, q2, q3⟩ := hO.th t i hi
            refine ⟨u, ?_, q2, q3⟩
            show (T.l.set _ _)[i]? = _
            rw [List.getElem?_set_ne]
            · exact q1
            · intro hc
              rw [← hc, hpp] at q1
              cases q1; exact hie (q2.symm.trans hth)
      · simp only [if_neg hn]
        refine ⟨⟨ht8, fun t i hi => ?_, fun i u hi hh => ?_, fun t i hi => ?_⟩, by rw [hmap]⟩
        · by_cases hte : t = e.th
          · simp [hte] at hi
          · simp only [if_neg hte] at hi
            have := hO.inn t i hi
            rw [hoth _ (by omega)]; exact this
        · by_cases hie : n = i
          · subst hie
            rw [List.getElem?_set_self hlt] at hi
            cases hi
            exact absurd hh hn
          · rw [List.getElem?_set_ne hie] at hi
            have a3 := hO.own i u hi hh
            show (if u.th = e.th then none else T.o u.th) = _
            rw [if_neg]
            · exact a3
            · intro q
              rw [q, hto] at a3; cases a3; exact hie rfl
        · by_cases hte : t = e.th
          · simp [hte] at hi
          · simp only [if_neg hte] at hi
            obtain ⟨u, q1, q2, q3⟩ := hO.th t i hi
            refine ⟨u, ?_, q2, q3⟩
            show (T.l.set _ _)[i]? = _
            rw [List.getElem?_set_ne]
            · exact q1
            · intro hc
              rw [← hc, hpp] at q1
              cases q1
              exact hte (q2.symm.trans hth)
theorem parts_each : ∀ (g : List Ev) (S : St) (T : Wt) (k : Nat), POpen S T → (chk S g k).2 = 0 → (partsF T g k).l = T.l.map (shutP g k) ++ begP g k
  | [], S, T, k, _, _ => by
    have : T.l.map (shutP [] k) = T.l := by
      conv => rhs; rw [← List.map_id T.l]
      apply List.map_congr_left
      intro t _
      unfold shutP blkG
      split <;> rfl
    rw [partsF, this, begP, List.append_nil]
  | e :: g, S, T, k, hO, hz => by
    rw [chk] at hz
    by_cases he : errE S e = 0
    · rw [if_pos he] at hz
      obtain ⟨o1, o2⟩ := popen_step hO he g
      rw [partsF, parts_each g (nextS S e) (stepW T k e) (k + 1) o1 hz, o2]
    · rw [if_neg he] at hz; exact absurd hz he
/-- The blocks of a history that can be, each by itself. -/
theorem parts_begs {L : List Ev} (hz : (checkL L).2 = 0) : partsL L = begP L 0 := by
  have := parts_each L st0 wt0 0 popen0 hz
  unfold partsL
  rw [this]; rfl
/-- A block goes on no further, or up to a later place. -/
theorem blkG_la : ∀ (h : List Ev) (p : Pt) (k : Nat), blkG p h k = p ∨ (k : Int) ≤ (blkG p h k).la
  | [], p, k => .inl rfl
  | e :: h, p, k => by
    rw [blkG]
    split
    · rcases blkG_la h p (k + 1) with q | q
      · exact .inl q
      · exact .inr (by omega)
    · split
      · right; rw [noteP_la]; omega
      · rcases blkG_la h (noteP p k e) (k + 1) with q | q
        · right; rw [q, noteP_la]; omega
        · exact .inr (by omega)
theorem blkG_th : ∀ (h : List Ev) (p : Pt) (k : Nat), (blkG p h k).th = p.th
  | [], p, k => rfl
  | e :: h, p, k => by
    rw [blkG]
    split
    · exact blkG_th h p _
    · split
      · exact noteP_th _ _ _
      · rw [blkG_th h, noteP_th]
theorem blkG_fi : ∀ (h : List Ev) (p : Pt) (k : Nat), (blkG p h k).fi = p.fi
  | [], p, k => rfl
  | e :: h, p, k => by
    rw [blkG]
    split
    · exact blkG_fi h p _
    · split
      · exact noteP_fi _ _ _
      · rw [blkG_fi h, noteP_fi]
end Go.Proofs.YthmiainhaebjiaaGreatDoor
