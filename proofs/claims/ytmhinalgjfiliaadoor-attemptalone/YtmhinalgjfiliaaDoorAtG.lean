
/-
  Steps of the program's attempts: look. No statement of the seat is proved here.
-/
import Derived.Test.YtmhinalgjfiliaaDoorAtF
import Derived.Deep.MidRow
namespace Go.Proofs.YtmhinalgjfiliaaDoor
open Go.RowKit Go.Shelf

def turnA (o x k a y : Int) (ow : Bool) : Array Value := #[.int .i64 o, .int .u64 x, .int .i64 0, .int .i64 k, .int .u64 a, .int .u64 y, .bool ow, .int .i64 0]
theorem turnA_one (o x k a y : Int) (ow : Bool) : (turnA o x k a y ow).all (·.oneCell') = true := by simp [turnA, Value.oneCell']
theorem On.stand {w : World} {a rr dr : Nat} {R : Sh} {L : List (Int × Int)} {Or Od : Nat → Prop} {S : Sd} {ws : List Int} {x : Int} (h : On w a R rr dr L Or Od S ws x) (p t d y f i : Int) : On (setStand w a p t d y f i) a R rr dr L Or Od (S.to p t d y f i) ws x ∧ Keeps (Both a Or Od R) w (setStand w a p t d y f i) :=
  ⟨⟨h.at_.stand p t d y f i, h.sh.att h.dis ((setStand_keeps w a p t d y f i).mono (fun _ _ e => .inl e)), h.dis⟩, (setStand_keeps w a p t d y f i).mono (fun _ _ e => .inl (.inl e))⟩

theorem size_stand : (Tryd.prog.info? 74).map (·.size) = some 6 := by kernel_rfl
/-- The stand is stored. -/
theorem AttX.run_stand {w : World} {a rr dr : Nat} {R : Sh} {L : List (Int × Int)} {Or Od : Nat → Prop} {S : Sd} (h : AttX w a R rr dr L Or Od S) (p t d y f i : Int) :
    (Instr.storeAt 74 (.pointer (some ⟨a, 5, none⟩)) (standV p t d y f i)).run Tryd.prog w = .ok () (setStand w a p t d y f i) := by
  have ht : w.there a 5 6 := fun j hj => by
    refine ⟨?_, h.fr (5 + j)⟩
    rw [h.cell (5 + j)]
    rcases (by omega : j = 0 ∨ j = 1 ∨ j = 2 ∨ j = 3 ∨ j = 4 ∨ j = 5) with rfl | rfl | rfl | rfl | rfl | rfl <;> rfl
  exact run_storeAt_mid w a 5 74 #[.int .i64 p, .int .i64 t, .int .u64 d, .int .u64 y, .int .u64 f, .int .i64 i] ht size_stand (by simp [Value.oneCell'])
theorem wpList_store_run {P : Program} {ops : Array Oper} {rest : List Oper} {op : Oper} {a : Act} {w w' : World} {Q : Exit → Act → World → Prop} (hgd : op.guard = none) (ty : TypeId) (x y : Operand) (ho : op.op = .store ty x y) {p v : Value} (hx : a.eval x = p) (hy : a.eval y = v)
    (hr : (Instr.storeAt ty p v).run P w = .ok () w') (h : wpList P ops Q rest (a.put op.dst undef) w') : wpList P ops Q (op :: rest) a w :=
  wpList_plain hgd fun _ hK => by
    unfold Oper.wp execOp
    simp only [ho, hx, hy, hr, Sem.run_bind, Result.andThen_ok]
    exact hK _ _ h

/-- A whole struct is stored, in a region that leaves its order open. -/
theorem run_store_op {P : Program} {o : Oper} {a : Act} {w : World} {x y : Operand} {ty : TypeId} (ho : o.op = .store ty x y) (g : Nat) (cells : Array Value) (hx : a.eval x = .pointer (some ⟨g, 0, none⟩)) (hy : a.eval y = .agg cells) (t : TypeId) (old : Array Value)
    (hg : w.heap[g]? = some (.cells old t (0, 0))) (hi : (P.info? ty).map (·.size) = some cells.size) (hold : old.size = cells.size) (h1 : cells.all (·.oneCell') = true) : (execOp a.eval o).run P w = .ok .skip (w.setRow g cells) := by
  unfold execOp
  simp only [ho, hx, hy, Instr.storeAt, Instr.sureAddr, Sem.run_bind, Sem.run_pure, Result.andThen_ok, run_storeVar_row w g t ty old cells hg hi hold h1]
/-- A call and a new block, in either order. -/
theorem held_cv2 {P : Program} {ops : Array Oper} {md : Region.Mode} {S : World → Prop} {i j : Nat} {oi oj : Oper} {f : Nat} {args : Array Value} {vj : Value} {wj : World} {fuel : Nat} {listed : Array Bool} {a : Act} {w : World} {K : Act → World → Prop} (di : Nat) (dj : Option Nat) (hr : Region.ready md ops listed = [i, j])
    (hoi : ops[i]? = some oi) (hoj : ops[j]? = some oj) (hdi : oi.dst = some di) (hdj : oj.dst = dj) (hwi : Region.wanted oi (yielded ops a.tmps) = true) (hwj : Region.wanted oj (yielded ops a.tmps) = true)
    (hri : (execOp a.eval oi).run P w = .ok (.enter f args) w) (hrj : (execOp a.eval oj).run P w = .ok (.value vj) wj) (hSj : S wj)
    (h1 : Calls P f args w fun e w' => ∃ v, e = .returned v ∧ S w' ∧ wpAnyH P md ops (atEnd K) S fuel (listed.setIfInBounds i true) (a.put (some di) v) w')
    (h2 : wpAnyH P md ops (atEnd K) S fuel (listed.setIfInBounds j true) (a.put dj vj) wj) : wpAnyH P md ops (atEnd K) S (fuel + 1) listed a w :=
  wpAnyH_all hr (by simp) (fun k hk => by
    have hk : k = i ∨ k = j := by simpa using hk
    rcases hk with rfl | rfl
    · unfold wpOp
      simp only [hoi, hwi, if_true]
      refine .inl ?_
      unfold Oper.wp
      rw [hri]
      show Calls P f args w _
      refine h1.mono ?_
      rintro e w' ⟨v, rfl, h3, h4⟩
      exact ⟨h3, by rw [hdi]; exact h4⟩
    · unfold wpOp
      simp only [hoj, hwj, if_true]
      refine .inl ?_
      unfold Oper.wp
      rw [hrj]
      show S wj ∧ wpAnyH P md ops (atEnd K) S fuel _ (a.put oj.dst vj) wj
      rw [hdj]
      exact ⟨hSj, h2⟩)

set_option maxRecDepth 100000 in
set_option maxHeartbeats 1000000 in
theorem look_no (a rr dr : Nat) (R : Sh) (L : List (Int × Int)) (Or Od : Nat → Prop) (S : Sd) (ws : List Int) (x : Int) (w : World) (h : On w a R rr dr L Or Od S ws x) (hx : x ≠ S.sn) :
    Calls Tryd.prog 60 #[.pointer (some ⟨a, 0, none⟩)] w fun e w' =>
      e = .returned (.tuple #[turnV 1 0 0 0 0 false, .int .i64 0]) ∧ On w' a R rr dr L Or Od (S.to 4 2 S.ad 0 0 0) ws x ∧ Keeps (Both a Or Od R) w w' := by
  have hf := h.far (Nat.le_refl w.heap.size)
  have HF : Hid (∀ q, Both a Or Od R q → q ≠ w.heap.size) := fun q hq e => hf (e ▸ hq)
  have hlt := lt_of_block h.at_.box
  have c1 : w.cell? ⟨a, 1, none⟩ = some (.pointer (some ⟨R.ck, 0, none⟩)) := h.at_.cell 1
  have HL : Hid (Calls Tryd.prog 22 #[.pointer (some ⟨R.ck, 0, none⟩)] (w.alloc (.cells zeroT 39)) fun e W => e = .returned (.tuple #[.int .u64 x, .int .i64 0]) ∧ W.heap[w.heap.size]? = some (.cells zeroT 39 (0, 0)) ∧ W.cell? ⟨a, 2, none⟩ = some (.int .u64 S.sn) ∧ W.cell? ⟨a, 7, none⟩ = some (.int .u64 S.ad) ∧ Hid (On W a R rr dr L Or Od S ws x ∧ Keeps (Both a Or Od R) w W)) :=
    ((h.al _).clock).mono fun e W ⟨h1, h2, h3⟩ => ⟨h1, h3.old (alloc_block w _) hf, h2.at_.cell 2, h2.at_.cell 7, h2, (Keeps.al w _).up.trans h3⟩
  have HG : Hid (∀ W, W.heap[w.heap.size]? = some (.cells zeroT 39 (0, 0)) → On W a R rr dr L Or Od S ws x → Keeps (Both a Or Od R) w W → Calls Tryd.prog 54 #[.pointer (some ⟨a, 0, none⟩), standV 4 2 S.ad 0 0 0] W fun e W' => e = .returned (.tuple #[turnV 1 0 0 0 0 false, .int .i64 0]) ∧ W'.heap[w.heap.size]? = some (.cells zeroT 39 (0, 0)) ∧ Hid (On W' a R rr dr L Or Od (S.to 4 2 S.ad 0 0 0) ws x ∧ Keeps (Both a Or Od R) w W')) := fun W hb h2 k2 =>
    (h2.goOn 4 2 S.ad 0 0 0).mono fun e W' ⟨h3, h4, h5⟩ => ⟨h3, h5.old hb hf, h4, k2.trans h5⟩
  clear h
  unfold standV at HG
  unfold turnV at HG ⊢
  have hxx : (x != S.sn) = true := by simp [hx]
  go_enter Tryd.func60, Tryd.ntmps60
  go_wp2_with fail
  refine HL.out.mono ?_
  rintro e W1 ⟨rfl, b1, d2, d7, h1⟩
  have HG1 := HG.out W1 b1 h1.out.1 h1.out.2
  clear HL HG b1 h1
  go_wp2_with fail
  refine HG1.mono ?_
  rintro e W2 ⟨rfl, b2, h2⟩
  clear HG1
  go_wp2_with (refine wpList_store_row' rfl 39 _ _ rfl w.heap.size _ rfl rfl 39 _ b2 size_turn rfl (by simp [Value.oneCell']) ?_)
  refine bodyPost_ret (turn_ret rfl _ _ w.heap.size _ _ b2 rfl rfl) rfl ?_
  exact ⟨rfl, h2.out.1.row HF.out _, h2.out.2.row (Nat.le_refl _) _⟩

set_option maxRecDepth 100000 in
set_option maxHeartbeats 2000000 in
theorem look_yes (a rr dr : Nat) (R : Sh) (L : List (Int × Int)) (Or Od : Nat → Prop) (S : Sd) (ws : List Int) (w : World) (h : On w a R rr dr L Or Od S ws S.sn) (hm : S.rd.length < 1024) :
    Calls Tryd.prog 60 #[.pointer (some ⟨a, 0, none⟩)] w fun e w' =>
      e = .returned (.tuple #[turnV 2 S.wo 2 S.ad S.wo false, .int .i64 0]) ∧ ∃ Or', On w' a R rr dr L Or' Od ((S.reads (S.rd ++ [(S.ad, S.wo)])).to 1 0 0 0 0 0) ws S.sn ∧ (∀ q, Or' q → Or q ∨ w.heap.size ≤ q) ∧ Keeps (Both a Or Od R) w w' := by
  have hf := h.far (Nat.le_refl w.heap.size)
  have hlt := lt_of_block h.at_.box
  have hmx : Tryd.prog.follows .mixedOrders = true := by kernel_rfl
  have c1 : w.cell? ⟨a, 1, none⟩ = some (.pointer (some ⟨R.ck, 0, none⟩)) := h.at_.cell 1
  have HL : Hid (Calls Tryd.prog 22 #[.pointer (some ⟨R.ck, 0, none⟩)] (w.alloc (.cells zeroT 39)) fun e W => e = .returned (.tuple #[.int .u64 S.sn, .int .i64 0]) ∧ W.cell? ⟨a, 2, none⟩ = some (.int .u64 S.sn) ∧ (W.cell? ⟨a, 7, none⟩ = some (.int .u64 S.ad) ∧ W.cell? ⟨a, 8, none⟩ = some (.int .u64 S.wo)) ∧ a < W.heap.size ∧ Hid (W.heap[w.heap.size]? = some (.cells zeroT 39 (0, 0)) ∧ On W a R rr dr L Or Od S ws S.sn ∧ Keeps (Both a Or Od R) w W)) :=
    ((h.al _).clock).mono fun e W ⟨h1, h2, h3⟩ => ⟨h1, h2.at_.cell 2, ⟨h2.at_.cell 7, h2.at_.cell 8⟩, lt_of_block h2.at_.box, h3.old (alloc_block w _) hf, h2, (Keeps.al w _).up.trans h3⟩
  have HT : Hid (∀ W1 W, W1.heap[w.heap.size]? = some (.cells zeroT 39 (0, 0)) → On W1 a R rr dr L Or Od S ws S.sn → Keeps (Both a Or Od R) w W1 → Like W W1 → Calls Tryd.prog 33 #[.int .i64 1, .int .u64 S.ad, .int .u64 S.wo] W fun e W' => e = .returned (.agg (turnA 2 S.wo 2 S.ad S.wo false)) ∧ (W'.cell? ⟨a, 7, none⟩ = some (.int .u64 S.ad) ∧ W'.cell? ⟨a, 8, none⟩ = some (.int .u64 S.wo)) ∧ a < W'.heap.size ∧
      Hid (W'.heap[w.heap.size]? = some (.cells zeroT 39 (0, 0)) ∧ On W' a R rr dr L Or Od S ws S.sn ∧ Keeps (Both a Or Od R) w W')) := fun W1 W hb h1 k1 hl => by
    have k0 := hl.keeps (Keeps.refl (fun _ => False) W1)
    refine (got_load S.ad S.wo W).mono fun e W' ⟨h2, h3⟩ => ⟨h2, ?_⟩
    have h4 := h1.up (k0.trans h3)
    exact ⟨⟨h4.at_.cell 7, h4.at_.cell 8⟩, lt_of_block h4.at_.box, (k0.trans h3).old hb (fun f => f), h4, k1.trans (k0.trans h3).up⟩
  have HT' : Hid (∀ W1 W, W1.heap[w.heap.size]? = some (.cells zeroT 39 (0, 0)) → On W1 a R rr dr L Or Od S ws S.sn → Keeps (Both a Or Od R) w W1 → Like W (W1.alloc (.cells zeroT 39)) → Calls Tryd.prog 33 #[.int .i64 1, .int .u64 S.ad, .int .u64 S.wo] W fun e W' => e = .returned (.agg (turnA 2 S.wo 2 S.ad S.wo false)) ∧ (W'.cell? ⟨a, 7, none⟩ = some (.int .u64 S.ad) ∧ W'.cell? ⟨a, 8, none⟩ = some (.int .u64 S.wo)) ∧ a < W'.heap.size ∧
      Hid (W'.heap[w.heap.size]? = some (.cells zeroT 39 (0, 0)) ∧ W'.heap[W1.heap.size]? = some (.cells zeroT 39 (0, 0)) ∧ On W' a R rr dr L Or Od S ws S.sn ∧ Keeps (Both a Or Od R) w W')) := fun W1 W hb h1 k1 hl => by
    have k0 := hl.keeps (Keeps.al W1 (.cells zeroT 39))
    refine (got_load S.ad S.wo W).mono fun e W' ⟨h2, h3⟩ => ⟨h2, ?_⟩
    have h4 := h1.up (k0.trans h3)
    have h5 : W'.heap[W1.heap.size]? = some (.cells zeroT 39 (0, 0)) := h3.old (by rw [hl.heap]; exact alloc_block W1 _) (fun f => f)
    exact ⟨⟨h4.at_.cell 7, h4.at_.cell 8⟩, lt_of_block h4.at_.box, (k0.trans h3).old hb (fun f => f), h5, h4, k1.trans (k0.trans h3).up⟩
  have HA : Hid (∀ X W g, X.heap[w.heap.size]? = some (.cells zeroT 39 (0, 0)) → X.heap[g]? = some (.cells (turnA 2 S.wo 2 S.ad S.wo false) 39 (0, 0)) → w.heap.size < g → On X a R rr dr L Or Od S ws S.sn → Keeps (Both a Or Od R) w X → Like W X → Calls Tryd.prog 48 #[.pointer (some ⟨rr, 0, none⟩), .int .u64 S.ad, .int .u64 S.wo] W fun e W' => e = .returned (.int .i64 0) ∧ (W'.cell? ⟨a, 3, none⟩ = some (.pointer (some ⟨rr, 0, none⟩)) ∧ W'.cell? ⟨a, 7, none⟩ = some (.int .u64 S.ad) ∧ W'.cell? ⟨a, 8, none⟩ = some (.int .u64 S.wo)) ∧
      Hid (W'.heap[w.heap.size]? = some (.cells zeroT 39 (0, 0)) ∧ W'.heap[g]? = some (.cells (turnA 2 S.wo 2 S.ad S.wo false) 39 (0, 0)) ∧ ∃ Or', On W' a R rr dr L Or' Od (S.reads (S.rd ++ [(S.ad, S.wo)])) ws S.sn ∧ (∀ q, Or' q → Or q ∨ w.heap.size + 1 ≤ q) ∧ Keeps (Both a Or Od R) w W')) := fun X W g hb hg hle h1 k1 hl => by
    have k0 := hl.keeps (Keeps.refl (fun _ => False) X)
    have hsz : W.heap.size = X.heap.size := by rw [hl.heap]
    have hbl := lt_of_block hb
    exact ((h1.up k0).add S.ad S.wo hm).mono fun e W' ⟨h2, Or', h3, h4, h5⟩ => ⟨h2, ⟨h3.at_.cell 3, h3.at_.cell 7, h3.at_.cell 8⟩, h5.old (k0.old hb (fun f => f)) hf, h5.old (k0.old hg (fun f => f)) (h.far (Nat.le_of_lt hle)), Or', h3, fun q hq => (h4 q hq).imp id (fun e => by omega), k1.trans (k0.up.trans h5)⟩
  have HF : Hid (∀ q, Both a Or Od R q → q < w.heap.size) := fun q hq => h.lt hq
  clear h
  have hxx : (S.sn != S.sn) = false := by simp
  go_enter Tryd.func60, Tryd.ntmps60
  go_wp2_with fail
  refine HL.out.mono ?_
  rintro e W1 ⟨rfl, d2, d78, hlt1, h1⟩
  have HT1 := fun W => HT.out W1 W h1.out.1 h1.out.2.1 h1.out.2.2
  have HT2 := fun W => HT'.out W1 W h1.out.1 h1.out.2.1 h1.out.2.2
  have HW1 : Hid (w.heap.size < W1.heap.size ∧ ∀ q, Both a Or Od R q → q ≠ W1.heap.size) := ⟨lt_of_block h1.out.1, fun q hq e => by have := h1.out.2.1.lt hq; omega⟩
  have dA : ∀ o, (W1.drew.alloc o).cell? ⟨a, 7, none⟩ = some (.int .u64 S.ad) ∧ (W1.drew.alloc o).cell? ⟨a, 8, none⟩ = some (.int .u64 S.wo) := fun o => ⟨(h1.out.2.1.al o).at_.cell 7, (h1.out.2.1.al o).at_.cell 8⟩
  clear HL HT HT' h1
  go_wp2_with fail
  refine wp_held_end (S := fun W => W.cell? ⟨a, 7, none⟩ = some (.int .u64 S.ad) ∧ W.cell? ⟨a, 8, none⟩ = some (.int .u64 S.wo)) 13 rfl hmx ?_
  refine held_take (i := 0) (v := .pointer (some ⟨a, 0, none⟩)) 31 rfl rfl (by kernel_rfl) (by kernel_rfl) (by kernel_rfl) rfl (fun w' hw' => by obtain ⟨z7, z8⟩ := hw'; go_simp) d78 ?_
  simp only [Act.put, List.setIfInBounds_toArray, List.set_cons_zero, List.set_cons_succ]
  refine held_take (i := 1) (v := .pointer (some ⟨a, 0, none⟩)) 32 rfl rfl (by kernel_rfl) (by kernel_rfl) (by kernel_rfl) rfl (fun w' hw' => by obtain ⟨z7, z8⟩ := hw'; go_simp) d78 ?_
  simp only [Act.put, List.setIfInBounds_toArray, List.set_cons_zero, List.set_cons_succ]
  refine held_take (i := 2) (v := .pointer (some ⟨a, 5, none⟩)) 33 rfl rfl (by kernel_rfl) (by kernel_rfl) (by kernel_rfl) rfl (fun w' hw' => by obtain ⟨z7, z8⟩ := hw'; go_simp) d78 ?_
  simp only [Act.put, List.setIfInBounds_toArray, List.set_cons_zero, List.set_cons_succ]
  refine held_take (i := 3) (v := .pointer (some ⟨a, 7, none⟩)) 34 rfl rfl (by kernel_rfl) (by kernel_rfl) (by kernel_rfl) rfl (fun w' hw' => by obtain ⟨z7, z8⟩ := hw'; go_simp) d78 ?_
  simp only [Act.put, List.setIfInBounds_toArray, List.set_cons_zero, List.set_cons_succ]
  refine held_take (i := 4) (v := .int .u64 S.ad) 35 rfl rfl (by kernel_rfl) (by kernel_rfl) (by kernel_rfl) rfl (fun w' hw' => by obtain ⟨z7, z8⟩ := hw'; go_simp) d78 ?_
  simp only [Act.put, List.setIfInBounds_toArray, List.set_cons_zero, List.set_cons_succ]
  refine held_take (i := 5) (v := .pointer (some ⟨a, 0, none⟩)) 36 rfl rfl (by kernel_rfl) (by kernel_rfl) (by kernel_rfl) rfl (fun w' hw' => by obtain ⟨z7, z8⟩ := hw'; go_simp) d78 ?_
  simp only [Act.put, List.setIfInBounds_toArray, List.set_cons_zero, List.set_cons_succ]
  refine held_take (i := 6) (v := .pointer (some ⟨a, 0, none⟩)) 37 rfl rfl (by kernel_rfl) (by kernel_rfl) (by kernel_rfl) rfl (fun w' hw' => by obtain ⟨z7, z8⟩ := hw'; go_simp) d78 ?_
  simp only [Act.put, List.setIfInBounds_toArray, List.set_cons_zero, List.set_cons_succ]
  refine held_take (i := 7) (v := .pointer (some ⟨a, 5, none⟩)) 38 rfl rfl (by kernel_rfl) (by kernel_rfl) (by kernel_rfl) rfl (fun w' hw' => by obtain ⟨z7, z8⟩ := hw'; go_simp) d78 ?_
  simp only [Act.put, List.setIfInBounds_toArray, List.set_cons_zero, List.set_cons_succ]
  refine held_take (i := 8) (v := .pointer (some ⟨a, 8, none⟩)) 39 rfl rfl (by kernel_rfl) (by kernel_rfl) (by kernel_rfl) rfl (fun w' hw' => by obtain ⟨z7, z8⟩ := hw'; go_simp) d78 ?_
  simp only [Act.put, List.setIfInBounds_toArray, List.set_cons_zero, List.set_cons_succ]
  refine held_take (i := 9) (v := .int .u64 S.wo) 40 rfl rfl (by kernel_rfl) (by kernel_rfl) (by kernel_rfl) rfl (fun w' hw' => by obtain ⟨z7, z8⟩ := hw'; go_simp) d78 ?_
  simp only [Act.put, List.setIfInBounds_toArray, List.set_cons_zero, List.set_cons_succ]
  refine held_cv2 (i := 10) (j := 11) (f := 33) (args := #[.int .i64 1, .int .u64 S.ad, .int .u64 S.wo]) (vj := .pointer (some ⟨W1.drew.heap.size, 0, none⟩)) (wj := W1.drew.alloc (.cells zeroT 39)) 41 (some 6) (by kernel_rfl) rfl rfl rfl rfl rfl rfl (by go_simp) (by unfold zeroT; go_simp) (dA _) ((HT1 W1.drew ⟨rfl, rfl, rfl, rfl⟩).mono ?_) ?_
  · rintro e Wg ⟨rfl, hS2, hltg, hg⟩
    refine ⟨_, rfl, hS2, ?_⟩
    simp only [Act.put, List.setIfInBounds_toArray, List.set_cons_zero, List.set_cons_succ]
    refine held_val (i := 11) (v := .pointer (some ⟨Wg.heap.size, 0, none⟩)) (w' := Wg.alloc (.cells zeroT 39)) (some 6) (by kernel_rfl) rfl rfl rfl (by unfold zeroT; go_simp) ⟨(hg.out.2.1.al _).at_.cell 7, (hg.out.2.1.al _).at_.cell 8⟩ ?_
    simp only [Act.put, List.setIfInBounds_toArray, List.set_cons_zero, List.set_cons_succ]
    have hb : (Wg.alloc (.cells zeroT 39)).heap[Wg.heap.size]? = some (.cells zeroT 39 (0, 0)) := alloc_block Wg _
    have hff : ∀ q, Both a Or Od R q → q ≠ Wg.heap.size := fun q hq e => by have := hg.out.2.1.lt hq; omega
    have hY : On (Wg.alloc (.cells zeroT 39)) a R rr dr L Or Od S ws S.sn := hg.out.2.1.al _
    have hlg : w.heap.size < Wg.heap.size := lt_of_block hg.out.1
    have hb0 : (Wg.alloc (.cells zeroT 39)).heap[w.heap.size]? = some (.cells zeroT 39 (0, 0)) := alloc_old hg.out.1 _
    have kY : Keeps (Both a Or Od R) w (Wg.alloc (.cells zeroT 39)) := hg.out.2.2.trans (Keeps.al Wg _).up
    clear hg hS2 hltg
    generalize Wg.heap.size = g at *
    generalize Wg.alloc (.cells zeroT 39) = Y at *
    refine held_none (i := 12) (w' := Y.setRow g (turnA 2 S.wo 2 S.ad S.wo false)) (by kernel_rfl) rfl rfl rfl (run_store_op rfl g _ rfl rfl 39 zeroT hb size_turn rfl (turnA_one _ _ _ _ _ _)) ?_ ?_
    · have := hY.row hff (turnA 2 S.wo 2 S.ad S.wo false)
      exact ⟨this.at_.cell 7, this.at_.cell 8⟩
    refine held_end (by kernel_rfl) ?_ _
    have p1 : (Y.setRow g (turnA 2 S.wo 2 S.ad S.wo false)).heap[w.heap.size]? = some (.cells zeroT 39 (0, 0)) := (setRow_keeps' (w := Y) (a := g) _).old hb0 (by omega)
    have p2 := setRow_heap Y g zeroT (turnA 2 S.wo 2 S.ad S.wo false) 39 (0, 0) hb
    have p4 := hY.row hff (turnA 2 S.wo 2 S.ad S.wo false)
    have p5 := kY.row (Nat.le_of_lt hlg) (turnA 2 S.wo 2 S.ad S.wo false)
    generalize Y.setRow g (turnA 2 S.wo 2 S.ad S.wo false) = X at *
    have hS5 : X.cell? ⟨a, 3, none⟩ = some (.pointer (some ⟨rr, 0, none⟩)) ∧ X.cell? ⟨a, 7, none⟩ = some (.int .u64 S.ad) ∧ X.cell? ⟨a, 8, none⟩ = some (.int .u64 S.wo) := ⟨p4.at_.cell 3, p4.at_.cell 7, p4.at_.cell 8⟩
    have HA1 := fun W => HA.out X W g p1 p2 hlg p4 p5
    have HG : Hid (w.heap.size < g) := hlg
    clear HT1 HT2 HA HW1 p1 p2 p4 p5 d78 dA hb hff hY hlg hb0 kY
    go_wp2_with fail
    go_region_held3 (fun W : World => W.cell? ⟨a, 3, none⟩ = some (.pointer (some ⟨rr, 0, none⟩)) ∧ W.cell? ⟨a, 7, none⟩ = some (.int .u64 S.ad) ∧ W.cell? ⟨a, 8, none⟩ = some (.int .u64 S.wo)) (first | assumption | (exact hS5) | go_keep)
      ((go_at_call 48; refine (HA1 _ (by exact ⟨rfl, rfl, rfl, rfl⟩)).mono ?_; rintro e W3 ⟨rfl, hS3, h3⟩))
    clear HA1 hS5
    obtain ⟨b3, g3, Or', o3, n3, k3⟩ := h3.out
    have ha3 := lt_of_block o3.at_.box
    have b4 := (setStand_keeps W3 a 1 0 0 0 0 0).old b3 (by omega)
    have g4 := (setStand_keeps W3 a 1 0 0 0 0 0).old g3 (by have := HG.out; omega)
    have q3 := o3.stand 1 0 0 0 0 0
    have hr := o3.at_.run_stand 1 0 0 0 0 0
    have HE : Hid (∀ cs, ∃ Or', On ((setStand W3 a 1 0 0 0 0 0).setRow w.heap.size cs) a R rr dr L Or' Od ((S.reads (S.rd ++ [(S.ad, S.wo)])).to 1 0 0 0 0 0) ws S.sn ∧ (∀ q, Or' q → Or q ∨ w.heap.size ≤ q) ∧ Keeps (Both a Or Od R) w ((setStand W3 a 1 0 0 0 0 0).setRow w.heap.size cs)) := fun cs => by
      refine ⟨Or', q3.1.row (fun q hq e => ?_) cs, fun q hq => (n3 q hq).imp id (fun e => by omega), (k3.trans ((setStand_keeps W3 a 1 0 0 0 0 0).mono (fun _ _ e => .inl (.inl e)))).row (Nat.le_refl _) cs⟩
      rcases hq with (hq | hq | hq) | hq
      · omega
      · rcases n3 q hq with e' | e'
        · have := HF.out q (.inl (.inr (.inl e'))); omega
        · omega
      · have := HF.out q (.inl (.inr (.inr hq))); omega
      · have := HF.out q (.inr hq); omega
    clear q3 o3 n3 k3 b3 g3 h3 HF hS3
    generalize setStand W3 a 1 0 0 0 0 0 = X3 at *
    unfold standV at hr
    go_wp2_with (first
      | (refine wpList_store_run rfl 74 _ _ rfl rfl rfl hr ?_)
      | (refine wpList_load_row rfl 39 _ rfl g rfl 39 (turnA 2 S.wo 2 S.ad S.wo false) (0, 0) _ g4 Tryd.underlying39 rfl size_turn ?_; unfold turnA)
      | (refine wpList_store_row' rfl 39 _ _ rfl w.heap.size _ rfl rfl 39 _ b4 size_turn rfl (by simp [Value.oneCell']) ?_))
    refine bodyPost_ret (turn_ret rfl _ _ w.heap.size _ _ b4 rfl rfl) rfl ?_
    exact ⟨rfl, HE.out _⟩
  · simp only [Act.put, List.setIfInBounds_toArray, List.set_cons_zero, List.set_cons_succ]
    refine held_call (i := 10) (f := 33) (args := #[.int .i64 1, .int .u64 S.ad, .int .u64 S.wo]) 41 (by kernel_rfl) rfl rfl rfl (by go_simp) ((HT2 (W1.drew.alloc (.cells zeroT 39)) ⟨rfl, rfl, rfl, rfl⟩).mono ?_)
    rintro e Y ⟨rfl, hS2, hltg, hg⟩
    refine ⟨_, rfl, hS2, ?_⟩
    simp only [Act.put, List.setIfInBounds_toArray, List.set_cons_zero, List.set_cons_succ]
    have hb := hg.out.2.1
    have hff := HW1.out.2
    have hY := hg.out.2.2.1
    have hlg := HW1.out.1
    have hb0 := hg.out.1
    have kY := hg.out.2.2.2
    clear hg hS2 hltg
    generalize hg0 : W1.drew.heap.size = g at *
    have hg1 : W1.heap.size = g := hg0
    rw [hg1] at hb hff hlg
    refine held_none (i := 12) (w' := Y.setRow g (turnA 2 S.wo 2 S.ad S.wo false)) (by kernel_rfl) rfl rfl rfl (run_store_op rfl g _ rfl rfl 39 zeroT hb size_turn rfl (turnA_one _ _ _ _ _ _)) ?_ ?_
    · have := hY.row hff (turnA 2 S.wo 2 S.ad S.wo false)
      exact ⟨this.at_.cell 7, this.at_.cell 8⟩
    refine held_end (by kernel_rfl) ?_ _
    have p1 : (Y.setRow g (turnA 2 S.wo 2 S.ad S.wo false)).heap[w.heap.size]? = some (.cells zeroT 39 (0, 0)) := (setRow_keeps' (w := Y) (a := g) _).old hb0 (by omega)
    have p2 := setRow_heap Y g zeroT (turnA 2 S.wo 2 S.ad S.wo false) 39 (0, 0) hb
    have p4 := hY.row hff (turnA 2 S.wo 2 S.ad S.wo false)
    have p5 := kY.row (Nat.le_of_lt hlg) (turnA 2 S.wo 2 S.ad S.wo false)
    generalize Y.setRow g (turnA 2 S.wo 2 S.ad S.wo false) = X at *
    have hS5 : X.cell? ⟨a, 3, none⟩ = some (.pointer (some ⟨rr, 0, none⟩)) ∧ X.cell? ⟨a, 7, none⟩ = some (.int .u64 S.ad) ∧ X.cell? ⟨a, 8, none⟩ = some (.int .u64 S.wo) := ⟨p4.at_.cell 3, p4.at_.cell 7, p4.at_.cell 8⟩
    have HA1 := fun W => HA.out X W g p1 p2 hlg p4 p5
    have HG : Hid (w.heap.size < g) := hlg
    clear HT1 HT2 HA HW1 p1 p2 p4 p5 d78 dA hb hff hY hlg hb0 kY
    go_wp2_with fail
    go_region_held3 (fun W : World => W.cell? ⟨a, 3, none⟩ = some (.pointer (some ⟨rr, 0, none⟩)) ∧ W.cell? ⟨a, 7, none⟩ = some (.int .u64 S.ad) ∧ W.cell? ⟨a, 8, none⟩ = some (.int .u64 S.wo)) (first | assumption | (exact hS5) | go_keep)
      ((go_at_call 48; refine (HA1 _ (by exact ⟨rfl, rfl, rfl, rfl⟩)).mono ?_; rintro e W3 ⟨rfl, hS3, h3⟩))
    clear HA1 hS5
    obtain ⟨b3, g3, Or', o3, n3, k3⟩ := h3.out
    have ha3 := lt_of_block o3.at_.box
    have b4 := (setStand_keeps W3 a 1 0 0 0 0 0).old b3 (by omega)
    have g4 := (setStand_keeps W3 a 1 0 0 0 0 0).old g3 (by have := HG.out; omega)
    have q3 := o3.stand 1 0 0 0 0 0
    have hr := o3.at_.run_stand 1 0 0 0 0 0
    have HE : Hid (∀ cs, ∃ Or', On ((setStand W3 a 1 0 0 0 0 0).setRow w.heap.size cs) a R rr dr L Or' Od ((S.reads (S.rd ++ [(S.ad, S.wo)])).to 1 0 0 0 0 0) ws S.sn ∧ (∀ q, Or' q → Or q ∨ w.heap.size ≤ q) ∧ Keeps (Both a Or Od R) w ((setStand W3 a 1 0 0 0 0 0).setRow w.heap.size cs)) := fun cs => by
      refine ⟨Or', q3.1.row (fun q hq e => ?_) cs, fun q hq => (n3 q hq).imp id (fun e => by omega), (k3.trans ((setStand_keeps W3 a 1 0 0 0 0 0).mono (fun _ _ e => .inl (.inl e)))).row (Nat.le_refl _) cs⟩
      rcases hq with (hq | hq | hq) | hq
      · omega
      · rcases n3 q hq with e' | e'
        · have := HF.out q (.inl (.inr (.inl e'))); omega
        · omega
      · have := HF.out q (.inl (.inr (.inr hq))); omega
      · have := HF.out q (.inr hq); omega
    clear q3 o3 n3 k3 b3 g3 h3 HF hS3
    generalize setStand W3 a 1 0 0 0 0 0 = X3 at *
    unfold standV at hr
    go_wp2_with (first
      | (refine wpList_store_run rfl 74 _ _ rfl rfl rfl hr ?_)
      | (refine wpList_load_row rfl 39 _ rfl g rfl 39 (turnA 2 S.wo 2 S.ad S.wo false) (0, 0) _ g4 Tryd.underlying39 rfl size_turn ?_; unfold turnA)
      | (refine wpList_store_row' rfl 39 _ _ rfl w.heap.size _ rfl rfl 39 _ b4 size_turn rfl (by simp [Value.oneCell']) ?_))
    refine bodyPost_ret (turn_ret rfl _ _ w.heap.size _ _ b4 rfl rfl) rfl ?_
    exact ⟨rfl, HE.out _⟩
end Go.Proofs.YtmhinalgjfiliaaDoor
