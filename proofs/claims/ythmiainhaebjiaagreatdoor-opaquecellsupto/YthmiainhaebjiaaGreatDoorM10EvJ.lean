/-
  No statement of the seat is proved here. (Several texts in one: EvJ.)
-/
import Derived.Test.YthmiainhaebjiaaGreatDoorM09EvI
import Derived.Test.YthmiainhaebjiaaGreatDoorM06OpC

/- A walk of take (package events). No statement of the seat is proved here. -/
namespace Go.Proofs.YthmiainhaebjiaaGreatDoor
open Go.RowKit Go.Shelf

/-- Behind the last store of a step. -/
theorem Crs.fin {w X w2 : World} {base c i : Nat} {S : St} {m : Nat → Option Nat} (h : Crs w base c S m) (hi : i < 8) (n' : Int) (s' : Sd) (mi : Option Nat) (cs csX : Array Value) (hb : w.heap[c]? = some (.cells cs 189 (0, 0))) (hX : X.heap[c]? = some (.cells csX 189 (0, 0)))
    (hsz : csX.size = 26) (c0 : csX[0]? = some (.int .u64 n')) (c1 : csX[1]? = some (.bool (heldB ⟨n', S.t.set i s'⟩))) (d1 : csX[2 + i * 3 + 1]? = some (.int .u64 s'.sn)) (d2 : csX[2 + i * 3 + 2]? = some (.map mi))
    (ho : ∀ j, j < 8 → j ≠ i → ∀ x, x < 3 → csX[2 + j * 3 + x]? = cs[2 + j * 3 + x]?) (k : Keeps (fun q => q = c ∨ m i = some q) w X) (hmi : MapW X mi s'.wr) (hmi2 : ∀ b, mi = some b → b ≠ c ∧ base ≤ b ∧ (m i = some b ∨ w.heap.size ≤ b)) (hst : 1 ≤ s'.st ∧ s'.st ≤ 4) (hsn : 0 ≤ s'.sn ∧ s'.sn < 18446744073709551616) (hn' : 0 ≤ n') (k2 : Keeps (fun _ => False) X w2) :
    Crs (w2.setCell ⟨c, 2 + i * 3, none⟩ (.int .i64 (s'.st : Int))) base c ⟨n', S.t.set i s'⟩ (fun j => if j = i then mi else m j) ∧ Keeps (Crs.own c m) w (w2.setCell ⟨c, 2 + i * 3, none⟩ (.int .i64 (s'.st : Int))) := by
  have hb2 := (k2.block c (lt_of_block hX) (fun f => f)).trans hX
  have k3 : Keeps (fun q => q = c ∨ m i = some q) w (w2.setCell ⟨c, 2 + i * 3, none⟩ (.int .i64 (s'.st : Int))) := (k.trans (k2.mono fun _ _ f => f.elim)).setCell (.inr (.inl rfl)) _
  refine ⟨h.next hi n' s' mi cs (csX.setIfInBounds (2 + i * 3) (.int .i64 (s'.st : Int))) hb (block_set hb2 _ _) (by simpa using hsz) ?_ ?_ ?_ ?_ ?_ ?_ k3 (fun q hq => hq) ?_ hmi2 hst hsn hn', k3.mono ?_⟩
  · rw [Array.getElem?_setIfInBounds_ne (by omega)]; exact c0
  · rw [Array.getElem?_setIfInBounds_ne (by omega)]; exact c1
  · rw [Array.getElem?_setIfInBounds_self_of_lt (by omega)]
  · rw [Array.getElem?_setIfInBounds_ne (by omega)]; exact d1
  · rw [Array.getElem?_setIfInBounds_ne (by omega)]; exact d2
  · intro j hj hji x hx
    rw [Array.getElem?_setIfInBounds_ne (by omega)]
    exact ho j hj hji x hx
  · have k4 : Keeps (fun q => q = c) X (w2.setCell ⟨c, 2 + i * 3, none⟩ (.int .i64 (s'.st : Int))) := Keeps.setCell (S := fun q => q = c) (k2.mono fun _ _ f => f.elim) (.inr rfl) _
    exact hmi.keeps k4 fun b hb3 e => (hmi2 b hb3).1 e
  · rintro q _ (rfl | hq)
    · exact .inl rfl
    · exact .inr ⟨i, hi, hq⟩

@[go_sem] theorem map_nil_eq (m : Option Nat) (w : World) : (binOp BinOp.eql 104 (Value.map m) (Value.map none)).run Tryz.prog w = .ok (.bool m.isNone) w := by
  have h : ∀ d, (Op.equalIn (d + 1) 104 (.map m) (.map none)).run Tryz.prog w = .ok m.isNone w := fun d => by
    cases m <;> simp [Op.equalIn, run_underlying Tryz.underlying104]
  simp [binOp, Op.equal, Op.maxDepth, h 9999]
theorem run_mapUpdate_op {P : Program} {o : Oper} {a : Act} {w w' : World} {t : TypeId} {m x v : Operand} {vm vx vv : Value} (ho : o.op = .mapUpdate t m x v) (h1 : a.eval m = vm) (h2 : a.eval x = vx) (h3 : a.eval v = vv) (hrun : (Instr.mapUpdate t vm vx vv).run P w = .ok () w') :
    (execOp a.eval o).run P w = .ok .skip w' := by
  simp [execOp, ho, h1, h2, h3, hrun, Result.andThen]
theorem lookW_cons {w : World} {b : Nat} {wr : List (Int × Int)} {a x : Int} (h : MapU w b (fun y => if y = a then some x else wr.lookup y)) : MapU w b (fun y => ((a, x) :: wr).lookup y) := by
  have e : (fun y => if y = a then some x else wr.lookup y) = fun y => ((a, x) :: wr).lookup y := by
    funext y
    by_cases hy : y = a
    · subst hy; simp
    · have : (y == a) = false := by simp [hy]
      simp [List.lookup, this, hy]
  rw [← e]; exact h
theorem hmx : Tryz.prog.follows .mixedOrders = true := by kernel_rfl

set_option maxRecDepth 100000 in
set_option maxHeartbeats 8000000 in
theorem take_any (base c : Nat) (S : St) (m : Nat → Option Nat) (e : Ev) (w : World) (h : Crs w base c S m) (hg : Gv w) (hwf : e.wf) (hu : Uniq S) (he : errE S e = 0) (hn : S.n < 4611686018427387904) (hg8 : 2 ≤ base) :
    Calls Tryz.prog 80 #[.pointer (some ⟨c, 0, none⟩), .agg e.cells] w fun ex w' => ex = .returned (.tuple #[]) ∧ ∃ m', Crs w' base c (nextS S e) m' ∧ Keeps (Crs.own c m) w w' := by
  obtain ⟨he1, he2, he3, he4, he5⟩ := err_ok he
  obtain ⟨t0, t8, q0, q1⟩ := formed_in he1
  have hH := next_held hu he
  obtain ⟨i, hi⟩ : ∃ i : Nat, e.th = i := ⟨e.th.toNat, by omega⟩
  have hi8 : i < 8 := by omega
  have hti : e.th.toNat = i := by omega
  obtain ⟨st0, st1⟩ := h.st i hi8
  have hsn := h.sn i hi8
  have hn0 := h.n
  have hN : nextS S e = ⟨if e.kd = 6 ∧ (S.sd i).st = 3 then S.n + 1 else S.n, S.t.set i (nextSd (S.sd i) e)⟩ := by unfold nextS; rw [hti]
  obtain ⟨nx, hnx⟩ : ∃ nx, nx = if e.kd = 6 ∧ (S.sd i).st = 3 then S.n + 1 else S.n := ⟨_, rfl⟩
  rw [← hnx] at hN
  rw [hN] at hH ⊢
  rw [hti] at hH he2
  have hMW := h.maps i hi8
  have hmne := h.ne i hi8
  have hmba := fun b => h.base.2 i b hi8
  have hcb := h.base.1
  obtain ⟨cs, hb, hsz, x0, x1, xx⟩ := h.blk
  obtain ⟨y0, y1, y2⟩ := xx i hi8
  have hcl := lt_of_block hb
  have cn : w.cell? ⟨c, 0, none⟩ = some (.int .u64 S.n) := by rw [cell_of_block hb, x0]
  have ch : w.cell? ⟨c, 1, none⟩ = some (.bool (heldB S)) := by rw [cell_of_block hb, x1]
  have z0 : w.cell? ⟨c, 2 + i * 3, none⟩ = some (.int .i64 ((S.sd i).st : Int)) := by rw [cell_of_block hb, y0]
  have z1 : w.cell? ⟨c, 2 + i * 3 + 1, none⟩ = some (.int .u64 (S.sd i).sn) := by rw [cell_of_block hb, y1]
  have z2 : w.cell? ⟨c, 2 + i * 3 + 2, none⟩ = some (.map (m i)) := by rw [cell_of_block hb, y2]
  have f0 : w.frozen? ⟨c, 0, none⟩ = false := frozen_of_block hb _
  have f1 : w.frozen? ⟨c, 1, none⟩ = false := frozen_of_block hb _
  have f2 : w.frozen? ⟨c, 2 + i * 3 + 1, none⟩ = false := frozen_of_block hb _
  have f3 : w.frozen? ⟨c, 2 + i * 3 + 2, none⟩ = false := frozen_of_block hb _
  have hgl : ∀ X, Keeps (fun q => q = c ∨ m i = some q) w X → Gv X := fun X k => hg.keepsB k fun q hq hs => by
    rcases hs with rfl | hs
    · omega
    · have := hmba q hs; omega
  have TT : Hid (∀ X csX, Keeps (fun q => q = c ∨ m i = some q) w X → X.heap[c]? = some (.cells csX 189 (0, 0)) → csX[2 + i * 3]? = some (.int .i64 ((S.sd i).st : Int)) → Calls Tryz.prog 100 #[.pointer (some ⟨c, 2 + i * 3, none⟩), .agg e.cells] X fun ex w' => ex = .returned (.int .i64 (turnN (S.sd i).st e : Int)) ∧ Keeps (fun _ => False) X w') := fun X csX k hX hc =>
    turn_any c (2 + i * 3) (S.sd i).st st0 st1 e q0 q1 X (by rw [cell_of_block hX, hc]) (hgl X k)
  have hst' : 1 ≤ turnN (S.sd i).st e ∧ turnN (S.sd i).st e ≤ 4 := ⟨by omega, turn_le⟩
  have hsn' : 0 ≤ (nextSd (S.sd i) e).sn ∧ (nextSd (S.sd i) e).sn < 18446744073709551616 := by
    unfold nextSd; dsimp only; split
    · exact hwf.2.2.2.1
    · exact hsn
  have FIN : Hid (∀ X csX w2 n' mi, X.heap[c]? = some (.cells csX 189 (0, 0)) → csX.size = 26 → n' = nx → csX[0]? = some (.int .u64 n') → csX[1]? = some (.bool (if e.kd = 5 then true else if e.kd = 6 ∧ (S.sd i).st = 3 then false else heldB S)) → csX[2 + i * 3 + 1]? = some (.int .u64 (nextSd (S.sd i) e).sn) → csX[2 + i * 3 + 2]? = some (.map mi) →
      (∀ j, j < 8 → j ≠ i → ∀ x, x < 3 → csX[2 + j * 3 + x]? = cs[2 + j * 3 + x]?) → Keeps (fun q => q = c ∨ m i = some q) w X → MapW X mi (nextSd (S.sd i) e).wr → (∀ b, mi = some b → b ≠ c ∧ base ≤ b ∧ (m i = some b ∨ w.heap.size ≤ b)) → Keeps (fun _ => False) X w2 →
      Crs (w2.setCell ⟨c, 2 + i * 3, none⟩ (.int .i64 (turnN (S.sd i).st e : Int))) base c ⟨nx, S.t.set i (nextSd (S.sd i) e)⟩ (fun j => if j = i then mi else m j) ∧ Keeps (Crs.own c m) w (w2.setCell ⟨c, 2 + i * 3, none⟩ (.int .i64 (turnN (S.sd i).st e : Int)))) := by
    intro X csX w2 n' mi hX hsz hn' c0 c1 d1 d2 ho k hmi hmi2 k2
    subst hn'
    rw [← hH] at c1
    exact h.fin hi8 _ (nextSd (S.sd i) e) mi cs csX hb hX hsz c0 c1 d1 d2 ho k hmi hmi2 hst' hsn' (by rw [hnx]; split <;> omega) k2
  have hk0 : ∀ o, Keeps (fun q => q = c ∨ m i = some q) w (w.alloc o) := fun o => (Keeps.refl _ w).alloc o
  have hbA : ∀ o, (w.alloc o).heap[c]? = some (.cells cs 189 (0, 0)) := fun o => (((Keeps.refl (fun _ => False) w).alloc o).block c hcl (fun f => f)).trans hb
  have hi0 : (0 : Int) ≤ i := by omega
  have hi8' : (i : Int) < 8 := by omega
  have HO : Hid (∀ (A : Array Value) (a : Nat) (v : Value), (∀ j, j < 8 → j ≠ i → ∀ x, x < 3 → A[2 + j * 3 + x]? = cs[2 + j * 3 + x]?) → (a < 2 ∨ a = 2 + i * 3 + 1 ∨ a = 2 + i * 3 + 2) → ∀ j, j < 8 → j ≠ i → ∀ x, x < 3 → (A.setIfInBounds a v)[2 + j * 3 + x]? = cs[2 + j * 3 + x]?) := fun A a v hA ha j hj hji x hx => by
    rw [Array.getElem?_setIfInBounds_ne (by omega)]; exact hA j hj hji x hx
  have HD : Hid (cs[0]? = some (.int .u64 S.n) ∧ cs[1]? = some (.bool (heldB S)) ∧ cs[2 + i * 3]? = some (.int .i64 ((S.sd i).st : Int)) ∧ cs[2 + i * 3 + 1]? = some (.int .u64 (S.sd i).sn) ∧ cs[2 + i * 3 + 2]? = some (.map (m i)) ∧ cs.size = 26) := ⟨x0, x1, y0, y1, y2, hsz⟩
  have HM : Hid (MapW w (m i) (S.sd i).wr ∧ m i ≠ some c ∧ (∀ b, m i = some b → base ≤ b) ∧ base ≤ c) := ⟨hMW, hmne, hmba, hcb⟩
  have HNX : Hid (nx = if e.kd = 6 ∧ (S.sd i).st = 3 then S.n + 1 else S.n) := hnx
  clear hnx hN he he1 he2 he3 he4 he5 hH hti hu h hg hwf hgl hst' hsn' xx x0 x1 y0 y1 y2 hMW hmne hmba hcb hsn t0 t8 st0 st1 hb hsz
  obtain ⟨th, kd, ad, wd, own, er⟩ := e
  dsimp only at hi q0 q1
  subst hi
  show Calls Tryz.prog 80 #[.pointer (some ⟨c, 0, none⟩), .agg #[.int .i64 (i : Int), .int .i64 kd, .int .u64 ad, .int .u64 wd, .bool own, .int .i64 er]] w _
  have hmn : ∀ b, m i = some b → b ≠ c ∧ base ≤ b ∧ (m i = some b ∨ w.heap.size ≤ b) := fun b hb => ⟨fun e => HM.out.2.1 (e ▸ hb), HM.out.2.2.1 b hb, .inl hb⟩
  have HMN : Hid (∀ b, m i = some b → b ≠ c ∧ base ≤ b ∧ (m i = some b ∨ w.heap.size ≤ b)) := hmn
  clear hmn
  have EB : Hid ((w.alloc (.cells #[.int .i64 (i : Int), .int .i64 kd, .int .u64 ad, .int .u64 wd, .bool own, .int .i64 er] 60)).heap[w.heap.size]? = some (.cells #[.int .i64 (i : Int), .int .i64 kd, .int .u64 ad, .int .u64 wd, .bool own, .int .i64 er] 60 (0, 0))) := (MapKept.heap_alloc w _).1
  by_cases h1 : kd = 1
  · subst h1
    go_enter Tryz.func80, Tryz.ntmps80
    go_wp2_with fail
    go_quiet (fail)
    go_wp2_with fail
    have hs26 := HD.out.2.2.2.2.2
    have KX : Keeps (fun q => q = c ∨ m i = some q) w ((((w.alloc (.cells #[.int .i64 (i : Int), .int .i64 1, .int .u64 ad, .int .u64 wd, .bool own, .int .i64 er] 60)).drewN nq).setCell ⟨c, 2 + i * 3 + 1, none⟩ (.int .u64 wd)).setCell ⟨c, 2 + i * 3 + 2, none⟩ (.map none)) := (((hk0 _).drewN nq).setCell (.inr (.inl rfl)) _).setCell (.inr (.inl rfl)) _
    have KY : Keeps (fun q => q = c) w ((((w.alloc (.cells #[.int .i64 (i : Int), .int .i64 1, .int .u64 ad, .int .u64 wd, .bool own, .int .i64 er] 60)).drewN nq).setCell ⟨c, 2 + i * 3 + 1, none⟩ (.int .u64 wd)).setCell ⟨c, 2 + i * 3 + 2, none⟩ (.map none)) := Keeps.setCell (S := fun q => q = c) (Keeps.setCell (S := fun q => q = c) (((Keeps.refl (fun q => q = c) w).alloc _).drewN nq) (.inr rfl) _) (.inr rfl) _
    have BX : ((((w.alloc (.cells #[.int .i64 (i : Int), .int .i64 1, .int .u64 ad, .int .u64 wd, .bool own, .int .i64 er] 60)).drewN nq).setCell ⟨c, 2 + i * 3 + 1, none⟩ (.int .u64 wd)).setCell ⟨c, 2 + i * 3 + 2, none⟩ (.map none)).heap[c]? = some (.cells (((cs).setIfInBounds (2 + i * 3 + 1) (.int .u64 wd)).setIfInBounds (2 + i * 3 + 2) (.map none)) 189 (0, 0)) := block_set (block_set (hbA _) _ _) _ _
    refine (TT.out _ _ KX BX (by rw [Array.getElem?_setIfInBounds_ne (by omega), Array.getElem?_setIfInBounds_ne (by omega), HD.out.2.2.1])).mono ?_
    rintro ex w2 ⟨rfl, k2⟩
    have b2 := (k2.block c (lt_of_block BX) (fun f => f)).trans BX
    have v0 : w2.cell? ⟨c, 2 + i * 3, none⟩ = some (.int .i64 ((S.sd i).st : Int)) := by rw [cell_of_block b2]; exact (by rw [Array.getElem?_setIfInBounds_ne (by omega), Array.getElem?_setIfInBounds_ne (by omega), HD.out.2.2.1])
    have v1 : w2.frozen? ⟨c, 2 + i * 3, none⟩ = false := frozen_of_block b2 _
    have e1 : (nextSd (S.sd i) ⟨(i : Int), 1, ad, wd, own, er⟩).sn = wd := by simp [nextSd]
    have e2 : (nextSd (S.sd i) ⟨(i : Int), 1, ad, wd, own, er⟩).wr = [] := by simp [nextSd]
    have FF := FIN.out _ _ w2 (S.n) (none) BX (by simpa using hs26) (by rw [HNX.out]; simp) (by rw [Array.getElem?_setIfInBounds_ne (by omega), Array.getElem?_setIfInBounds_ne (by omega), HD.out.1]) (by rw [Array.getElem?_setIfInBounds_ne (by omega), Array.getElem?_setIfInBounds_ne (by omega), HD.out.2.1]; simp) (by rw [Array.getElem?_setIfInBounds_ne (by omega), Array.getElem?_setIfInBounds_self_of_lt (by first | omega | (simp only [Array.size_setIfInBounds]; omega))]; rw [e1]) (by rw [Array.getElem?_setIfInBounds_self_of_lt (by first | omega | (simp only [Array.size_setIfInBounds]; omega))]) (HO.out _ _ _ (HO.out _ _ _ ((fun _ _ _ _ _ => rfl)) (by omega)) (by omega)) KX (by rw [e2]; exact rfl) (fun b hb => by cases hb) k2
    clear FIN TT HO HD HM KX KY BX b2 k2 e1 e2
    go_wp2_with fail
    go_end0
    first | exact ⟨rfl, _, FF⟩ | exact ⟨rfl, ⟨_, FF.1⟩, FF.2⟩
  · by_cases h4 : kd = 4
    · subst h4
      go_enter Tryz.func80, Tryz.ntmps80
      go_wp2_with fail
      go_quiet (fail)
      go_wp2_with fail
      have hs26 := HD.out.2.2.2.2.2
      have KX : Keeps (fun q => q = c ∨ m i = some q) w (((w.alloc (.cells #[.int .i64 (i : Int), .int .i64 4, .int .u64 ad, .int .u64 wd, .bool own, .int .i64 er] 60)).drewN nq).setCell ⟨c, 2 + i * 3 + 1, none⟩ (.int .u64 wd)) := ((hk0 _).drewN nq).setCell (.inr (.inl rfl)) _
      have KY : Keeps (fun q => q = c) w (((w.alloc (.cells #[.int .i64 (i : Int), .int .i64 4, .int .u64 ad, .int .u64 wd, .bool own, .int .i64 er] 60)).drewN nq).setCell ⟨c, 2 + i * 3 + 1, none⟩ (.int .u64 wd)) := Keeps.setCell (S := fun q => q = c) (((Keeps.refl (fun q => q = c) w).alloc _).drewN nq) (.inr rfl) _
      have BX : (((w.alloc (.cells #[.int .i64 (i : Int), .int .i64 4, .int .u64 ad, .int .u64 wd, .bool own, .int .i64 er] 60)).drewN nq).setCell ⟨c, 2 + i * 3 + 1, none⟩ (.int .u64 wd)).heap[c]? = some (.cells ((cs).setIfInBounds (2 + i * 3 + 1) (.int .u64 wd)) 189 (0, 0)) := block_set (hbA _) _ _
      refine (TT.out _ _ KX BX (by rw [Array.getElem?_setIfInBounds_ne (by omega), HD.out.2.2.1])).mono ?_
      rintro ex w2 ⟨rfl, k2⟩
      have b2 := (k2.block c (lt_of_block BX) (fun f => f)).trans BX
      have v0 : w2.cell? ⟨c, 2 + i * 3, none⟩ = some (.int .i64 ((S.sd i).st : Int)) := by rw [cell_of_block b2]; exact (by rw [Array.getElem?_setIfInBounds_ne (by omega), HD.out.2.2.1])
      have v1 : w2.frozen? ⟨c, 2 + i * 3, none⟩ = false := frozen_of_block b2 _
      have e1 : (nextSd (S.sd i) ⟨(i : Int), 4, ad, wd, own, er⟩).sn = wd := by simp [nextSd]
      have e2 : (nextSd (S.sd i) ⟨(i : Int), 4, ad, wd, own, er⟩).wr = (S.sd i).wr := by simp [nextSd]
      have FF := FIN.out _ _ w2 (S.n) (m i) BX (by simpa using hs26) (by rw [HNX.out]; simp) (by rw [Array.getElem?_setIfInBounds_ne (by omega), HD.out.1]) (by rw [Array.getElem?_setIfInBounds_ne (by omega), HD.out.2.1]; simp) (by rw [Array.getElem?_setIfInBounds_self_of_lt (by first | omega | (simp only [Array.size_setIfInBounds]; omega))]; rw [e1]) (by rw [Array.getElem?_setIfInBounds_ne (by omega), HD.out.2.2.2.2.1]) (HO.out _ _ _ ((fun _ _ _ _ _ => rfl)) (by omega)) KX (by rw [e2]; exact HM.out.1.keeps KY (fun b hb e => HM.out.2.1 (e ▸ hb))) HMN.out k2
      clear FIN TT HO HD HM KX KY BX b2 k2 e1 e2
      go_wp2_with fail
      go_end0
      first | exact ⟨rfl, _, FF⟩ | exact ⟨rfl, ⟨_, FF.1⟩, FF.2⟩
    · by_cases h3 : kd = 3
      · subst h3
        cases hm : m i with
        | some b =>
          have hU0 := HM.out.1
          rw [hm] at hU0
          obtain ⟨hU1, hU2⟩ := hU0
          have hbc : b ≠ c := fun e => HM.out.2.1 (e ▸ hm)
          rw [hm] at z2
          go_enter Tryz.func80, Tryz.ntmps80
          go_wp2_with fail
          go_quiet (fail)
          go_wp2_with fail
          have KW : Keeps (fun _ => False) w ((w.alloc (.cells #[.int .i64 (i : Int), .int .i64 3, .int .u64 ad, .int .u64 wd, .bool own, .int .i64 er] 60)).drewN nq) := ((Keeps.refl _ w).alloc _).drewN nq
          have EBW : ((w.alloc (.cells #[.int .i64 (i : Int), .int .i64 3, .int .u64 ad, .int .u64 wd, .bool own, .int .i64 er] 60)).drewN nq).heap[w.heap.size]? = some (.cells #[.int .i64 (i : Int), .int .i64 3, .int .u64 ad, .int .u64 wd, .bool own, .int .i64 er] 60 (0, 0)) := EB.out
          have S0 : ((w.alloc (.cells #[.int .i64 (i : Int), .int .i64 3, .int .u64 ad, .int .u64 wd, .bool own, .int .i64 er] 60)).drewN nq).drew.cell? ⟨c, 2 + i * 3 + 2, none⟩ = some (.map (some b)) ∧ ((w.alloc (.cells #[.int .i64 (i : Int), .int .i64 3, .int .u64 ad, .int .u64 wd, .bool own, .int .i64 er] 60)).drewN nq).drew.cell? ⟨w.heap.size, 2, none⟩ = some (.int .u64 ad) ∧ ((w.alloc (.cells #[.int .i64 (i : Int), .int .i64 3, .int .u64 ad, .int .u64 wd, .bool own, .int .i64 er] 60)).drewN nq).drew.cell? ⟨w.heap.size, 3, none⟩ = some (.int .u64 wd) := ⟨cell_keep KW.drew z2 (fun f => f), by rw [cell_of_block (w := ((w.alloc (.cells #[.int .i64 (i : Int), .int .i64 3, .int .u64 ad, .int .u64 wd, .bool own, .int .i64 er] 60)).drewN nq).drew) EBW]; rfl, by rw [cell_of_block (w := ((w.alloc (.cells #[.int .i64 (i : Int), .int .i64 3, .int .u64 ad, .int .u64 wd, .bool own, .int .i64 er] 60)).drewN nq).drew) EBW]; rfl⟩
          obtain ⟨w1, u1, u2, u3⟩ := (hU1.keeps KW.drew (fun f => f)).put ad wd
          have KX : Keeps (fun q => q = c ∨ m i = some q) w w1 := (KW.drew.mono (fun _ _ f => f.elim)).trans (u3.mono (fun q _ e => .inr (e ▸ hm)))
          have BX : w1.heap[c]? = some (.cells cs 189 (0, 0)) := (u3.block c (Nat.lt_of_lt_of_le hcl KW.size) (fun e => hbc e.symm)).trans (hbA _)
          clear EBW KW
          refine wp_until (S := fun W : World => W.cell? ⟨c, 2 + i * 3 + 2, none⟩ = some (.map (some b)) ∧ W.cell? ⟨w.heap.size, 2, none⟩ = some (.int .u64 ad) ∧ W.cell? ⟨w.heap.size, 3, none⟩ = some (.int .u64 wd)) 8 9 rfl hmx ?_
          simp only [Array.replicate_succ, Array.replicate_zero, List.push_toArray, List.nil_append, List.cons_append]
          refine u_take (i := 0) (v := (.pointer (some ⟨c, 2 + i * 3, none⟩))) 41 rfl rfl (by kernel_rfl) (by kernel_rfl) (by kernel_rfl) (by kernel_rfl) rfl (fun w' hw' => by obtain ⟨r0, r1, r2⟩ := hw'; go_simp) S0 ?_
          simp only [Act.put, List.setIfInBounds_toArray, List.set_cons_zero, List.set_cons_succ]
          refine u_take (i := 1) (v := (.pointer (some ⟨c, 2 + i * 3, none⟩))) 42 rfl rfl (by kernel_rfl) (by kernel_rfl) (by kernel_rfl) (by kernel_rfl) rfl (fun w' hw' => by obtain ⟨r0, r1, r2⟩ := hw'; go_simp) S0 ?_
          simp only [Act.put, List.setIfInBounds_toArray, List.set_cons_zero, List.set_cons_succ]
          refine u_take (i := 2) (v := (.pointer (some ⟨c, 2 + i * 3 + 2, none⟩))) 43 rfl rfl (by kernel_rfl) (by kernel_rfl) (by kernel_rfl) (by kernel_rfl) rfl (fun w' hw' => by obtain ⟨r0, r1, r2⟩ := hw'; go_simp) S0 ?_
          simp only [Act.put, List.setIfInBounds_toArray, List.set_cons_zero, List.set_cons_succ]
          refine u_take (i := 3) (v := (.map (some b))) 44 rfl rfl (by kernel_rfl) (by kernel_rfl) (by kernel_rfl) (by kernel_rfl) rfl (fun w' hw' => by obtain ⟨r0, r1, r2⟩ := hw'; go_simp) S0 ?_
          simp only [Act.put, List.setIfInBounds_toArray, List.set_cons_zero, List.set_cons_succ]
          refine u_take (i := 4) (v := (.pointer (some ⟨w.heap.size, 2, none⟩))) 45 rfl rfl (by kernel_rfl) (by kernel_rfl) (by kernel_rfl) (by kernel_rfl) rfl (fun w' hw' => by obtain ⟨r0, r1, r2⟩ := hw'; go_simp) S0 ?_
          simp only [Act.put, List.setIfInBounds_toArray, List.set_cons_zero, List.set_cons_succ]
          refine u_take (i := 5) (v := (.int .u64 ad)) 46 rfl rfl (by kernel_rfl) (by kernel_rfl) (by kernel_rfl) (by kernel_rfl) rfl (fun w' hw' => by obtain ⟨r0, r1, r2⟩ := hw'; go_simp) S0 ?_
          simp only [Act.put, List.setIfInBounds_toArray, List.set_cons_zero, List.set_cons_succ]
          refine u_take (i := 6) (v := (.pointer (some ⟨w.heap.size, 3, none⟩))) 47 rfl rfl (by kernel_rfl) (by kernel_rfl) (by kernel_rfl) (by kernel_rfl) rfl (fun w' hw' => by obtain ⟨r0, r1, r2⟩ := hw'; go_simp) S0 ?_
          simp only [Act.put, List.setIfInBounds_toArray, List.set_cons_zero, List.set_cons_succ]
          refine u_take (i := 7) (v := (.int .u64 wd)) 48 rfl rfl (by kernel_rfl) (by kernel_rfl) (by kernel_rfl) (by kernel_rfl) rfl (fun w' hw' => by obtain ⟨r0, r1, r2⟩ := hw'; go_simp) S0 ?_
          simp only [Act.put, List.setIfInBounds_toArray, List.set_cons_zero, List.set_cons_succ]
          refine u_last (w' := w1) (by kernel_rfl) rfl rfl rfl (run_mapUpdate_op rfl rfl rfl rfl u1) (by kernel_rfl) ?_
          have c2' : w1.cell? ⟨w.heap.size, 0, none⟩ = some (.int .i64 (i : Int)) ∧ w1.cell? ⟨w.heap.size, 1, none⟩ = some (.int .i64 3) ∧ w1.cell? ⟨w.heap.size, 2, none⟩ = some (.int .u64 ad) ∧ w1.cell? ⟨w.heap.size, 3, none⟩ = some (.int .u64 wd) ∧ w1.cell? ⟨w.heap.size, 4, none⟩ = some (.bool own) ∧ w1.cell? ⟨w.heap.size, 5, none⟩ = some (.int .i64 er) := by
            have b9 : w1.heap[w.heap.size]? = _ := (u3.block w.heap.size (by simp) (by have := hU1.lt; omega)).trans EB.out
            refine ⟨?_, ?_, ?_, ?_, ?_, ?_⟩ <;> (rw [cell_of_block b9]; rfl)
          obtain ⟨n0, n1, n2, n3, n4, n5⟩ := c2'
          clear u1 u3
          go_wp2_with fail
          refine (TT.out _ _ KX BX HD.out.2.2.1).mono ?_
          rintro ex w2 ⟨rfl, k2⟩
          have b2 := (k2.block c (lt_of_block BX) (fun f => f)).trans BX
          have v0 : w2.cell? ⟨c, 2 + i * 3, none⟩ = some (.int .i64 ((S.sd i).st : Int)) := by rw [cell_of_block b2]; exact HD.out.2.2.1
          have v1 : w2.frozen? ⟨c, 2 + i * 3, none⟩ = false := frozen_of_block b2 _
          have e1 : (nextSd (S.sd i) ⟨(i : Int), 3, ad, wd, own, er⟩).sn = (S.sd i).sn := by simp [nextSd]
          have e2 : (nextSd (S.sd i) ⟨(i : Int), 3, ad, wd, own, er⟩).wr = (ad, wd) :: (S.sd i).wr := by simp [nextSd]
          have FF := FIN.out _ _ w2 S.n (some b) BX HD.out.2.2.2.2.2 (by rw [HNX.out]; simp) HD.out.1 (by rw [HD.out.2.1]; simp) (by rw [HD.out.2.2.2.1, e1]) (by rw [HD.out.2.2.2.2.1, hm]) (fun _ _ _ _ _ => rfl) KX (by rw [e2]; exact ⟨lookW_cons u2, by simp⟩) (fun q hq => HMN.out q (hm.trans hq)) k2
          clear FIN TT HO HD HM KX BX b2 k2 e1 e2
          go_wp2_with fail
          go_end0
          first | exact ⟨rfl, _, FF⟩ | exact ⟨rfl, ⟨_, FF.1⟩, FF.2⟩
        | none =>
          have hwr : (S.sd i).wr = [] := by have := HM.out.1; rw [hm] at this; exact this
          rw [hm] at z2
          have hmm := @run_makeMap Tryz.prog
          go_enter Tryz.func80, Tryz.ntmps80
          go_wp2_with fail
          go_quiet (fail)
          go_wp2_with fail
          have KW0 : Keeps (fun q => q = c) w (((w.alloc (.cells #[.int .i64 (i : Int), .int .i64 3, .int .u64 ad, .int .u64 wd, .bool own, .int .i64 er] 60)).drewN nq).setCell ⟨c, 2 + i * 3 + 2, none⟩ (.map (some (w.heap.size + 1)))) := Keeps.setCell (S := fun q => q = c) (((Keeps.refl _ w).alloc _).drewN nq) (.inr rfl) _
          have KW : Keeps (fun q => q = c) w ((((w.alloc (.cells #[.int .i64 (i : Int), .int .i64 3, .int .u64 ad, .int .u64 wd, .bool own, .int .i64 er] 60)).drewN nq).setCell ⟨c, 2 + i * 3 + 2, none⟩ (.map (some (w.heap.size + 1)))).alloc (.map #[] 0)) := KW0.alloc _
          have EBW0 : (((w.alloc (.cells #[.int .i64 (i : Int), .int .i64 3, .int .u64 ad, .int .u64 wd, .bool own, .int .i64 er] 60)).drewN nq).setCell ⟨c, 2 + i * 3 + 2, none⟩ (.map (some (w.heap.size + 1)))).heap[w.heap.size]? = some (.cells #[.int .i64 (i : Int), .int .i64 3, .int .u64 ad, .int .u64 wd, .bool own, .int .i64 er] 60 (0, 0)) := (Below.heap_setCell _ _ _ _ (by simp; omega)).trans EB.out
          have EBW : ((((w.alloc (.cells #[.int .i64 (i : Int), .int .i64 3, .int .u64 ad, .int .u64 wd, .bool own, .int .i64 er] 60)).drewN nq).setCell ⟨c, 2 + i * 3 + 2, none⟩ (.map (some (w.heap.size + 1)))).alloc (.map #[] 0)).heap[w.heap.size]? = some (.cells #[.int .i64 (i : Int), .int .i64 3, .int .u64 ad, .int .u64 wd, .bool own, .int .i64 er] 60 (0, 0)) := (Below.heap_alloc _ _ _ (lt_of_block EBW0)).trans EBW0
          have BW0 : (((w.alloc (.cells #[.int .i64 (i : Int), .int .i64 3, .int .u64 ad, .int .u64 wd, .bool own, .int .i64 er] 60)).drewN nq).setCell ⟨c, 2 + i * 3 + 2, none⟩ (.map (some (w.heap.size + 1)))).heap[c]? = some (.cells (cs.setIfInBounds (2 + i * 3 + 2) (.map (some (w.heap.size + 1)))) 189 (0, 0)) := block_set (hbA _) _ _
          have BW : ((((w.alloc (.cells #[.int .i64 (i : Int), .int .i64 3, .int .u64 ad, .int .u64 wd, .bool own, .int .i64 er] 60)).drewN nq).setCell ⟨c, 2 + i * 3 + 2, none⟩ (.map (some (w.heap.size + 1)))).alloc (.map #[] 0)).heap[c]? = some (.cells (cs.setIfInBounds (2 + i * 3 + 2) (.map (some (w.heap.size + 1)))) 189 (0, 0)) := (Below.heap_alloc _ _ _ (lt_of_block BW0)).trans BW0
          have MW0 := (MapKept.heap_alloc (((w.alloc (.cells #[.int .i64 (i : Int), .int .i64 3, .int .u64 ad, .int .u64 wd, .bool own, .int .i64 er] 60)).drewN nq).setCell ⟨c, 2 + i * 3 + 2, none⟩ (.map (some (w.heap.size + 1)))) (.map #[] 0)).1
          have MW : ((((w.alloc (.cells #[.int .i64 (i : Int), .int .i64 3, .int .u64 ad, .int .u64 wd, .bool own, .int .i64 er] 60)).drewN nq).setCell ⟨c, 2 + i * 3 + 2, none⟩ (.map (some (w.heap.size + 1)))).alloc (.map #[] 0)).heap[w.heap.size + 1]? = some (.map #[] 0) := by simpa using MW0
          have hs26 := HD.out.2.2.2.2.2
          have hU1 : MapU ((((w.alloc (.cells #[.int .i64 (i : Int), .int .i64 3, .int .u64 ad, .int .u64 wd, .bool own, .int .i64 er] 60)).drewN nq).setCell ⟨c, 2 + i * 3 + 2, none⟩ (.map (some (w.heap.size + 1)))).alloc (.map #[] 0)).drew (w.heap.size + 1) (fun _ => none) := ⟨#[], 0, [], MW, by simp, by simp, fun _ => rfl⟩
          have S0 : ((((w.alloc (.cells #[.int .i64 (i : Int), .int .i64 3, .int .u64 ad, .int .u64 wd, .bool own, .int .i64 er] 60)).drewN nq).setCell ⟨c, 2 + i * 3 + 2, none⟩ (.map (some (w.heap.size + 1)))).alloc (.map #[] 0)).drew.cell? ⟨c, 2 + i * 3 + 2, none⟩ = some (.map (some (w.heap.size + 1))) ∧ ((((w.alloc (.cells #[.int .i64 (i : Int), .int .i64 3, .int .u64 ad, .int .u64 wd, .bool own, .int .i64 er] 60)).drewN nq).setCell ⟨c, 2 + i * 3 + 2, none⟩ (.map (some (w.heap.size + 1)))).alloc (.map #[] 0)).drew.cell? ⟨w.heap.size, 2, none⟩ = some (.int .u64 ad) ∧ ((((w.alloc (.cells #[.int .i64 (i : Int), .int .i64 3, .int .u64 ad, .int .u64 wd, .bool own, .int .i64 er] 60)).drewN nq).setCell ⟨c, 2 + i * 3 + 2, none⟩ (.map (some (w.heap.size + 1)))).alloc (.map #[] 0)).drew.cell? ⟨w.heap.size, 3, none⟩ = some (.int .u64 wd) := ⟨by rw [cell_of_block (w := ((((w.alloc (.cells #[.int .i64 (i : Int), .int .i64 3, .int .u64 ad, .int .u64 wd, .bool own, .int .i64 er] 60)).drewN nq).setCell ⟨c, 2 + i * 3 + 2, none⟩ (.map (some (w.heap.size + 1)))).alloc (.map #[] 0)).drew) BW, Array.getElem?_setIfInBounds_self_of_lt (by omega)], by rw [cell_of_block (w := ((((w.alloc (.cells #[.int .i64 (i : Int), .int .i64 3, .int .u64 ad, .int .u64 wd, .bool own, .int .i64 er] 60)).drewN nq).setCell ⟨c, 2 + i * 3 + 2, none⟩ (.map (some (w.heap.size + 1)))).alloc (.map #[] 0)).drew) EBW]; rfl, by rw [cell_of_block (w := ((((w.alloc (.cells #[.int .i64 (i : Int), .int .i64 3, .int .u64 ad, .int .u64 wd, .bool own, .int .i64 er] 60)).drewN nq).setCell ⟨c, 2 + i * 3 + 2, none⟩ (.map (some (w.heap.size + 1)))).alloc (.map #[] 0)).drew) EBW]; rfl⟩
          obtain ⟨w1, u1, u2, u3⟩ := hU1.put ad wd
          have KX : Keeps (fun q => q = c ∨ m i = some q) w w1 := ⟨u3.os.trans KW.os, u3.tape.trans KW.tape, u3.output.trans KW.output, Nat.le_trans KW.size u3.size, fun q hq hs => (u3.block q (Nat.lt_of_lt_of_le hq KW.size) (by omega)).trans (KW.block q hq (fun e => hs (.inl e)))⟩
          have BX : w1.heap[c]? = some (.cells (cs.setIfInBounds (2 + i * 3 + 2) (.map (some (w.heap.size + 1)))) 189 (0, 0)) := (u3.block c (lt_of_block BW) (by omega)).trans BW
          clear MW MW0 BW0 EBW0 KW0 hU1
          refine wp_until (S := fun W : World => W.cell? ⟨c, 2 + i * 3 + 2, none⟩ = some (.map (some (w.heap.size + 1))) ∧ W.cell? ⟨w.heap.size, 2, none⟩ = some (.int .u64 ad) ∧ W.cell? ⟨w.heap.size, 3, none⟩ = some (.int .u64 wd)) 8 9 rfl hmx ?_
          simp only [Array.replicate_succ, Array.replicate_zero, List.push_toArray, List.nil_append, List.cons_append]
          refine u_take (i := 0) (v := (.pointer (some ⟨c, 2 + i * 3, none⟩))) 41 rfl rfl (by kernel_rfl) (by kernel_rfl) (by kernel_rfl) (by kernel_rfl) rfl (fun w' hw' => by obtain ⟨r0, r1, r2⟩ := hw'; go_simp) S0 ?_
          simp only [Act.put, List.setIfInBounds_toArray, List.set_cons_zero, List.set_cons_succ]
          refine u_take (i := 1) (v := (.pointer (some ⟨c, 2 + i * 3, none⟩))) 42 rfl rfl (by kernel_rfl) (by kernel_rfl) (by kernel_rfl) (by kernel_rfl) rfl (fun w' hw' => by obtain ⟨r0, r1, r2⟩ := hw'; go_simp) S0 ?_
          simp only [Act.put, List.setIfInBounds_toArray, List.set_cons_zero, List.set_cons_succ]
          refine u_take (i := 2) (v := (.pointer (some ⟨c, 2 + i * 3 + 2, none⟩))) 43 rfl rfl (by kernel_rfl) (by kernel_rfl) (by kernel_rfl) (by kernel_rfl) rfl (fun w' hw' => by obtain ⟨r0, r1, r2⟩ := hw'; go_simp) S0 ?_
          simp only [Act.put, List.setIfInBounds_toArray, List.set_cons_zero, List.set_cons_succ]
          refine u_take (i := 3) (v := (.map (some (w.heap.size + 1)))) 44 rfl rfl (by kernel_rfl) (by kernel_rfl) (by kernel_rfl) (by kernel_rfl) rfl (fun w' hw' => by obtain ⟨r0, r1, r2⟩ := hw'; go_simp) S0 ?_
          simp only [Act.put, List.setIfInBounds_toArray, List.set_cons_zero, List.set_cons_succ]
          refine u_take (i := 4) (v := (.pointer (some ⟨w.heap.size, 2, none⟩))) 45 rfl rfl (by kernel_rfl) (by kernel_rfl) (by kernel_rfl) (by kernel_rfl) rfl (fun w' hw' => by obtain ⟨r0, r1, r2⟩ := hw'; go_simp) S0 ?_
          simp only [Act.put, List.setIfInBounds_toArray, List.set_cons_zero, List.set_cons_succ]
          refine u_take (i := 5) (v := (.int .u64 ad)) 46 rfl rfl (by kernel_rfl) (by kernel_rfl) (by kernel_rfl) (by kernel_rfl) rfl (fun w' hw' => by obtain ⟨r0, r1, r2⟩ := hw'; go_simp) S0 ?_
          simp only [Act.put, List.setIfInBounds_toArray, List.set_cons_zero, List.set_cons_succ]
          refine u_take (i := 6) (v := (.pointer (some ⟨w.heap.size, 3, none⟩))) 47 rfl rfl (by kernel_rfl) (by kernel_rfl) (by kernel_rfl) (by kernel_rfl) rfl (fun w' hw' => by obtain ⟨r0, r1, r2⟩ := hw'; go_simp) S0 ?_
          simp only [Act.put, List.setIfInBounds_toArray, List.set_cons_zero, List.set_cons_succ]
          refine u_take (i := 7) (v := (.int .u64 wd)) 48 rfl rfl (by kernel_rfl) (by kernel_rfl) (by kernel_rfl) (by kernel_rfl) rfl (fun w' hw' => by obtain ⟨r0, r1, r2⟩ := hw'; go_simp) S0 ?_
          simp only [Act.put, List.setIfInBounds_toArray, List.set_cons_zero, List.set_cons_succ]
          refine u_last (w' := w1) (by kernel_rfl) rfl rfl rfl (run_mapUpdate_op rfl rfl rfl rfl u1) (by kernel_rfl) ?_
          have c2' : w1.cell? ⟨w.heap.size, 0, none⟩ = some (.int .i64 (i : Int)) ∧ w1.cell? ⟨w.heap.size, 1, none⟩ = some (.int .i64 3) ∧ w1.cell? ⟨w.heap.size, 2, none⟩ = some (.int .u64 ad) ∧ w1.cell? ⟨w.heap.size, 3, none⟩ = some (.int .u64 wd) ∧ w1.cell? ⟨w.heap.size, 4, none⟩ = some (.bool own) ∧ w1.cell? ⟨w.heap.size, 5, none⟩ = some (.int .i64 er) := by
            have b9 : w1.heap[w.heap.size]? = _ := (u3.block w.heap.size (lt_of_block EBW) (by omega)).trans EBW
            refine ⟨?_, ?_, ?_, ?_, ?_, ?_⟩ <;> (rw [cell_of_block b9]; rfl)
          obtain ⟨n0, n1, n2, n3, n4, n5⟩ := c2'
          clear u1 u3 EBW BW KW
          go_wp2_with fail
          refine (TT.out _ _ KX BX (by rw [Array.getElem?_setIfInBounds_ne (by omega)]; exact HD.out.2.2.1)).mono ?_
          rintro ex w2 ⟨rfl, k2⟩
          have b2 := (k2.block c (lt_of_block BX) (fun f => f)).trans BX
          have v0 : w2.cell? ⟨c, 2 + i * 3, none⟩ = some (.int .i64 ((S.sd i).st : Int)) := by rw [cell_of_block b2, Array.getElem?_setIfInBounds_ne (by omega)]; exact HD.out.2.2.1
          have v1 : w2.frozen? ⟨c, 2 + i * 3, none⟩ = false := frozen_of_block b2 _
          have e1 : (nextSd (S.sd i) ⟨(i : Int), 3, ad, wd, own, er⟩).sn = (S.sd i).sn := by simp [nextSd]
          have e2 : (nextSd (S.sd i) ⟨(i : Int), 3, ad, wd, own, er⟩).wr = (ad, wd) :: [] := by simp [nextSd, hwr]
          have FF := FIN.out _ _ w2 S.n (some (w.heap.size + 1)) BX (by simpa using hs26) (by rw [HNX.out]; simp) (by rw [Array.getElem?_setIfInBounds_ne (by omega)]; exact HD.out.1) (by rw [Array.getElem?_setIfInBounds_ne (by omega), HD.out.2.1]; simp) (by rw [Array.getElem?_setIfInBounds_ne (by omega), HD.out.2.2.2.1, e1]) (by rw [Array.getElem?_setIfInBounds_self_of_lt (by omega)]) (HO.out _ _ _ (fun _ _ _ _ _ => rfl) (by omega)) KX (by rw [e2]; exact ⟨lookW_cons u2, by simp⟩) (fun q hq => by cases hq; exact ⟨by omega, by have := HM.out.2.2.2; omega, .inr (by omega)⟩) k2
          clear FIN TT HO HD HM KX BX b2 k2 e1 e2
          go_wp2_with fail
          go_end0
          first | exact ⟨rfl, _, FF⟩ | exact ⟨rfl, ⟨_, FF.1⟩, FF.2⟩
      · by_cases h5 : kd = 5
        · subst h5
          go_enter Tryz.func80, Tryz.ntmps80
          go_wp2_with fail
          go_quiet (fail)
          go_wp2_with fail
          have hs26 := HD.out.2.2.2.2.2
          have KX : Keeps (fun q => q = c ∨ m i = some q) w (((w.alloc (.cells #[.int .i64 (i : Int), .int .i64 5, .int .u64 ad, .int .u64 wd, .bool own, .int .i64 er] 60)).drewN nq).setCell ⟨c, 1, none⟩ (.bool true)) := ((hk0 _).drewN nq).setCell (.inr (.inl rfl)) _
          have KY : Keeps (fun q => q = c) w (((w.alloc (.cells #[.int .i64 (i : Int), .int .i64 5, .int .u64 ad, .int .u64 wd, .bool own, .int .i64 er] 60)).drewN nq).setCell ⟨c, 1, none⟩ (.bool true)) := Keeps.setCell (S := fun q => q = c) (((Keeps.refl (fun q => q = c) w).alloc _).drewN nq) (.inr rfl) _
          have BX : (((w.alloc (.cells #[.int .i64 (i : Int), .int .i64 5, .int .u64 ad, .int .u64 wd, .bool own, .int .i64 er] 60)).drewN nq).setCell ⟨c, 1, none⟩ (.bool true)).heap[c]? = some (.cells ((cs).setIfInBounds (1) (.bool true)) 189 (0, 0)) := block_set (hbA _) _ _
          refine (TT.out _ _ KX BX (by rw [Array.getElem?_setIfInBounds_ne (by omega), HD.out.2.2.1])).mono ?_
          rintro ex w2 ⟨rfl, k2⟩
          have b2 := (k2.block c (lt_of_block BX) (fun f => f)).trans BX
          have v0 : w2.cell? ⟨c, 2 + i * 3, none⟩ = some (.int .i64 ((S.sd i).st : Int)) := by rw [cell_of_block b2]; exact (by rw [Array.getElem?_setIfInBounds_ne (by omega), HD.out.2.2.1])
          have v1 : w2.frozen? ⟨c, 2 + i * 3, none⟩ = false := frozen_of_block b2 _
          have e1 : (nextSd (S.sd i) ⟨(i : Int), 5, ad, wd, own, er⟩).sn = (S.sd i).sn := by simp [nextSd]
          have e2 : (nextSd (S.sd i) ⟨(i : Int), 5, ad, wd, own, er⟩).wr = (S.sd i).wr := by simp [nextSd]
          have FF := FIN.out _ _ w2 (S.n) (m i) BX (by simpa using hs26) (by rw [HNX.out]; simp) (by rw [Array.getElem?_setIfInBounds_ne (by omega), HD.out.1]) (by rw [Array.getElem?_setIfInBounds_self_of_lt (by first | omega | (simp only [Array.size_setIfInBounds]; omega))]; simp) (by rw [Array.getElem?_setIfInBounds_ne (by omega), HD.out.2.2.2.1]; rw [e1]) (by rw [Array.getElem?_setIfInBounds_ne (by omega), HD.out.2.2.2.2.1]) (HO.out _ _ _ ((fun _ _ _ _ _ => rfl)) (by omega)) KX (by rw [e2]; exact HM.out.1.keeps KY (fun b hb e => HM.out.2.1 (e ▸ hb))) HMN.out k2
          clear FIN TT HO HD HM KX KY BX b2 k2 e1 e2
          go_wp2_with fail
          go_end0
          first | exact ⟨rfl, _, FF⟩ | exact ⟨rfl, ⟨_, FF.1⟩, FF.2⟩
        · by_cases h6 : kd = 6
          · subst h6
            by_cases h3s : (S.sd i).st = 3
            · have h3i : ((S.sd i).st : Int) = 3 := by omega
              have hnw : S.n + 1 < 18446744073709551616 := by omega
              rw [h3i] at z0
              go_enter Tryz.func80, Tryz.ntmps80
              go_wp2_with fail
              go_quiet (fail)
              go_wp2_with fail
              have hs26 := HD.out.2.2.2.2.2
              have KX : Keeps (fun q => q = c ∨ m i = some q) w ((((w.alloc (.cells #[.int .i64 (i : Int), .int .i64 6, .int .u64 ad, .int .u64 wd, .bool own, .int .i64 er] 60)).drewN nq).setCell ⟨c, 1, none⟩ (.bool false)).setCell ⟨c, 0, none⟩ (.int .u64 (S.n + 1))) := (((hk0 _).drewN nq).setCell (.inr (.inl rfl)) _).setCell (.inr (.inl rfl)) _
              have KY : Keeps (fun q => q = c) w ((((w.alloc (.cells #[.int .i64 (i : Int), .int .i64 6, .int .u64 ad, .int .u64 wd, .bool own, .int .i64 er] 60)).drewN nq).setCell ⟨c, 1, none⟩ (.bool false)).setCell ⟨c, 0, none⟩ (.int .u64 (S.n + 1))) := Keeps.setCell (S := fun q => q = c) (Keeps.setCell (S := fun q => q = c) (((Keeps.refl (fun q => q = c) w).alloc _).drewN nq) (.inr rfl) _) (.inr rfl) _
              have BX : ((((w.alloc (.cells #[.int .i64 (i : Int), .int .i64 6, .int .u64 ad, .int .u64 wd, .bool own, .int .i64 er] 60)).drewN nq).setCell ⟨c, 1, none⟩ (.bool false)).setCell ⟨c, 0, none⟩ (.int .u64 (S.n + 1))).heap[c]? = some (.cells (((cs).setIfInBounds (1) (.bool false)).setIfInBounds (0) (.int .u64 (S.n + 1))) 189 (0, 0)) := block_set (block_set (hbA _) _ _) _ _
              refine (TT.out _ _ KX BX (by rw [Array.getElem?_setIfInBounds_ne (by omega), Array.getElem?_setIfInBounds_ne (by omega), HD.out.2.2.1])).mono ?_
              rintro ex w2 ⟨rfl, k2⟩
              have b2 := (k2.block c (lt_of_block BX) (fun f => f)).trans BX
              have v0 : w2.cell? ⟨c, 2 + i * 3, none⟩ = some (.int .i64 ((S.sd i).st : Int)) := by rw [cell_of_block b2]; exact (by rw [Array.getElem?_setIfInBounds_ne (by omega), Array.getElem?_setIfInBounds_ne (by omega), HD.out.2.2.1])
              have v1 : w2.frozen? ⟨c, 2 + i * 3, none⟩ = false := frozen_of_block b2 _
              have e1 : (nextSd (S.sd i) ⟨(i : Int), 6, ad, wd, own, er⟩).sn = (S.sd i).sn := by simp [nextSd]
              have e2 : (nextSd (S.sd i) ⟨(i : Int), 6, ad, wd, own, er⟩).wr = (S.sd i).wr := by simp [nextSd]
              have FF := FIN.out _ _ w2 (S.n + 1) (m i) BX (by simpa using hs26) (by rw [HNX.out]; simp [h3s]) (by rw [Array.getElem?_setIfInBounds_self_of_lt (by first | omega | (simp only [Array.size_setIfInBounds]; omega))]) (by rw [Array.getElem?_setIfInBounds_ne (by omega), Array.getElem?_setIfInBounds_self_of_lt (by first | omega | (simp only [Array.size_setIfInBounds]; omega))]; simp [h3s]) (by rw [Array.getElem?_setIfInBounds_ne (by omega), Array.getElem?_setIfInBounds_ne (by omega), HD.out.2.2.2.1]; rw [e1]) (by rw [Array.getElem?_setIfInBounds_ne (by omega), Array.getElem?_setIfInBounds_ne (by omega), HD.out.2.2.2.2.1]) (HO.out _ _ _ (HO.out _ _ _ ((fun _ _ _ _ _ => rfl)) (by omega)) (by omega)) KX (by rw [e2]; exact HM.out.1.keeps KY (fun b hb e => HM.out.2.1 (e ▸ hb))) HMN.out k2
              clear FIN TT HO HD HM KX KY BX b2 k2 e1 e2
              rw [h3s] at FF
              go_wp2_with fail
              go_end0
              first | exact ⟨rfl, _, FF⟩ | exact ⟨rfl, ⟨_, FF.1⟩, FF.2⟩
            · have h3i : ¬ ((S.sd i).st : Int) = 3 := by omega
              go_enter Tryz.func80, Tryz.ntmps80
              go_wp2_with fail
              go_quiet (fail)
              go_wp2_with fail
              have hs26 := HD.out.2.2.2.2.2
              have KX : Keeps (fun q => q = c ∨ m i = some q) w ((w.alloc (.cells #[.int .i64 (i : Int), .int .i64 6, .int .u64 ad, .int .u64 wd, .bool own, .int .i64 er] 60)).drewN nq) := (hk0 _).drewN nq
              have KY : Keeps (fun q => q = c) w ((w.alloc (.cells #[.int .i64 (i : Int), .int .i64 6, .int .u64 ad, .int .u64 wd, .bool own, .int .i64 er] 60)).drewN nq) := ((Keeps.refl (fun q => q = c) w).alloc _).drewN nq
              have BX : ((w.alloc (.cells #[.int .i64 (i : Int), .int .i64 6, .int .u64 ad, .int .u64 wd, .bool own, .int .i64 er] 60)).drewN nq).heap[c]? = some (.cells (cs) 189 (0, 0)) := hbA _
              refine (TT.out _ _ KX BX (by rw [HD.out.2.2.1])).mono ?_
              rintro ex w2 ⟨rfl, k2⟩
              have b2 := (k2.block c (lt_of_block BX) (fun f => f)).trans BX
              have v0 : w2.cell? ⟨c, 2 + i * 3, none⟩ = some (.int .i64 ((S.sd i).st : Int)) := by rw [cell_of_block b2]; exact (by rw [HD.out.2.2.1])
              have v1 : w2.frozen? ⟨c, 2 + i * 3, none⟩ = false := frozen_of_block b2 _
              have e1 : (nextSd (S.sd i) ⟨(i : Int), 6, ad, wd, own, er⟩).sn = (S.sd i).sn := by simp [nextSd]
              have e2 : (nextSd (S.sd i) ⟨(i : Int), 6, ad, wd, own, er⟩).wr = (S.sd i).wr := by simp [nextSd]
              have FF := FIN.out _ _ w2 (S.n) (m i) BX (by simpa using hs26) (by rw [HNX.out]; simp [h3s]) (by rw [HD.out.1]) (by rw [HD.out.2.1]; simp [h3s]) (by rw [HD.out.2.2.2.1]; rw [e1]) (by rw [HD.out.2.2.2.2.1]) (fun _ _ _ _ _ => rfl) KX (by rw [e2]; exact HM.out.1.keeps KY (fun b hb e => HM.out.2.1 (e ▸ hb))) HMN.out k2
              clear FIN TT HO HD HM KX KY BX b2 k2 e1 e2
              go_wp2_with fail
              go_end0
              first | exact ⟨rfl, _, FF⟩ | exact ⟨rfl, ⟨_, FF.1⟩, FF.2⟩
          · skip
            go_enter Tryz.func80, Tryz.ntmps80
            go_wp2_with fail
            go_quiet (fail)
            go_wp2_with fail
            have hs26 := HD.out.2.2.2.2.2
            have KX : Keeps (fun q => q = c ∨ m i = some q) w ((w.alloc (.cells #[.int .i64 (i : Int), .int .i64 kd, .int .u64 ad, .int .u64 wd, .bool own, .int .i64 er] 60)).drewN nq) := (hk0 _).drewN nq
            have KY : Keeps (fun q => q = c) w ((w.alloc (.cells #[.int .i64 (i : Int), .int .i64 kd, .int .u64 ad, .int .u64 wd, .bool own, .int .i64 er] 60)).drewN nq) := ((Keeps.refl (fun q => q = c) w).alloc _).drewN nq
            have BX : ((w.alloc (.cells #[.int .i64 (i : Int), .int .i64 kd, .int .u64 ad, .int .u64 wd, .bool own, .int .i64 er] 60)).drewN nq).heap[c]? = some (.cells (cs) 189 (0, 0)) := hbA _
            refine (TT.out _ _ KX BX (by rw [HD.out.2.2.1])).mono ?_
            rintro ex w2 ⟨rfl, k2⟩
            have b2 := (k2.block c (lt_of_block BX) (fun f => f)).trans BX
            have v0 : w2.cell? ⟨c, 2 + i * 3, none⟩ = some (.int .i64 ((S.sd i).st : Int)) := by rw [cell_of_block b2]; exact (by rw [HD.out.2.2.1])
            have v1 : w2.frozen? ⟨c, 2 + i * 3, none⟩ = false := frozen_of_block b2 _
            have e1 : (nextSd (S.sd i) ⟨(i : Int), kd, ad, wd, own, er⟩).sn = (S.sd i).sn := by simp [nextSd, h1, h4, h3]
            have e2 : (nextSd (S.sd i) ⟨(i : Int), kd, ad, wd, own, er⟩).wr = (S.sd i).wr := by simp [nextSd, h1, h4, h3]
            have FF := FIN.out _ _ w2 (S.n) (m i) BX (by simpa using hs26) (by rw [HNX.out, if_neg (fun h => h6 h.1)]) (by rw [HD.out.1]) (by rw [HD.out.2.1]; rw [if_neg h5, if_neg (fun h => h6 h.1)]) (by rw [HD.out.2.2.2.1]; rw [e1]) (by rw [HD.out.2.2.2.2.1]) (fun _ _ _ _ _ => rfl) KX (by rw [e2]; exact HM.out.1.keeps KY (fun b hb e => HM.out.2.1 (e ▸ hb))) HMN.out k2
            clear FIN TT HO HD HM KX KY BX b2 k2 e1 e2
            go_wp2_with fail
            go_end0
            first | exact ⟨rfl, _, FF⟩ | exact ⟨rfl, ⟨_, FF.1⟩, FF.2⟩
end Go.Proofs.YthmiainhaebjiaaGreatDoor
