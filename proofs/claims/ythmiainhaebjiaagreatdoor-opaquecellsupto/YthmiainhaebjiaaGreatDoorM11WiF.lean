/-
  No statement of the seat is proved here. (Several texts in one: WiF.)
-/
import Derived.Test.YthmiainhaebjiaaGreatDoorM08WiE
import Derived.Test.YthmiainhaebjiaaGreatDoorM10EvJ

/- A walk of take (package witness). No statement of the seat is proved here. -/
namespace Go.Proofs.YthmiainhaebjiaaGreatDoor
open Go.RowKit Go.Shelf

theorem MapI.congr {w : World} {b : Nat} {f f' : Int → Option Int} (h : MapI w b f) (hf : ∀ y, f y = f' y) : MapI w b f' := by
  obtain ⟨es, c, L, h1, h2, h3, h4⟩ := h.ex
  exact ⟨es, c, L, h1, h2, h3, fun y => (h4 y).trans (hf y)⟩
def oI (T : Wt) (t : Int) : Option Int := (T.o t).map fun (i : Nat) => (i : Int)
/-- A record as it lies: its box, its map, the blocks so far. -/
structure Rec (w : World) (rb mb bs : Nat) (v : Value) (pl : Bool) (X : List Bx) (T : Wt) : Prop where
  blk : w.heap[rb]? = some (.cells #[v, .map (some mb), .bool pl] 135 (0, 0))
  map : MapI w mb (oI T)
  row : Prs w bs v X
  eqs : X.map (·.p) = T.l
  lt : rb < bs ∧ mb < bs ∧ rb ≠ mb
theorem Rec.keeps {w w' : World} {rb mb bs : Nat} {v : Value} {pl : Bool} {X : List Bx} {T : Wt} (h : Rec w rb mb bs v pl X T) (k : Keeps (fun _ => False) w w') : Rec w' rb mb bs v pl X T :=
  ⟨(k.block _ (lt_of_block h.blk) (fun f => f)).trans h.blk, h.map.keeps k (fun f => f), h.row.keeps k (fun _ _ _ f => f), h.eqs, h.lt⟩
theorem size_part : (Tryz.prog.info? 137).map (fun i => (i.zero, i.size, i.bytes)) = some (some (.agg #[.int .i64 0, .int .i64 0, .int .i64 0, .int .i64 0, .int .u64 0, .bool false, .int .i64 0, .slice none 0 0, .slice none 0 0, .int .i64 0, .bool false]), 11, 120) := by kernel_rfl
theorem run_delete_op {P : Program} {o : Oper} {a : Act} {w w' : World} {m x : Operand} {t k : TypeId} {vm vx : Value} (hop : o.op = Op.call { callee := Callee.builtin Builtin.delete, args := #[m, x], argTypes := #[t, k] }) (h1 : a.eval m = vm) (h2 : a.eval x = vx)
    (hrun : (Builtin.delete_ #[t, k] o.type #[vm, vx]).run P w = .ok (.tuple #[]) w') : (execOp a.eval o).run P w = .ok (.value (.tuple #[])) w' := by
  simp [execOp, hop, resolve, invoke, builtin, h1, h2, hrun, Result.andThen]
theorem wp_heldE {P : Program} {ops : Array Oper} {Q : Exit → Act → World → Prop} {id : Nat} {a : Act} {w : World} {S : World → Prop} (N : Nat) (hN : ops.size = N) (hm : P.follows .mixedOrders = true)
    (h : wpAnyH P .any ops (atEnd (Q .normal)) S N (Array.replicate N false) a w.drew) : (Code.region id ops true).wp P Q a w := by
  subst hN
  exact Code.wp_mono (fun e a w h => by cases e <;> first | exact h | exact h.elim) (wp_region_held hm h)
/-- A new block behind the others. -/
theorem Prs.push {w : World} {base : Nat} {v : Value} {X : List Bx} (h : Prs w base v X) (th : Int) (k : Int) (hb : X.length ≤ 1200000) (ty : TypeId) :
    ∃ v' w', (Builtin.append_ #[132, 132] ty #[v, .slice (some ⟨w.heap.size, 0, none⟩) 1 1]).run Tryz.prog (w.alloc (.cells #[.int .i64 th, .int .i64 0, .int .i64 k, .int .i64 0, .int .u64 0, .bool false, .int .i64 0, .slice none 0 0, .slice none 0 0, .int .i64 0, .bool false] 137)) = .ok v' w' ∧ Prs w' base v' (X ++ [⟨freshP th k, sl0, sl0⟩]) ∧ Grew w w' v v' ∧ ows (X ++ [⟨freshP th k, sl0, sl0⟩]) = ows X := by
  obtain ⟨v', w', r1, r2, r3⟩ := h.own.push cp_len cp_one (by decide) Tryz.underlying132 size_part rfl (by decide) (ty := ty) ⟨freshP th k, sl0, sl0⟩ (cs := #[.int .i64 th, .int .i64 0, .int .i64 k, .int .i64 0, .int .u64 0, .bool false, .int .i64 0, .slice none 0 0, .slice none 0 0, .int .i64 0, .bool false]) rfl (by omega)
  have ho : ows (X ++ [⟨freshP th k, sl0, sl0⟩]) = ows X := by rw [ows_append]; simp [ows, Bx.ow, sl0, Value.ownBlock]
  have hx : Rws w base (X ++ [⟨freshP th k, sl0, sl0⟩]) := by
    refine ⟨fun y hy => ?_, fun y hy => ?_, by rw [ho]; exact h.rws.nd⟩
    · rcases List.mem_append.1 hy with hy | hy
      · exact h.rws.rd y hy
      · simp only [List.mem_singleton] at hy
        subst hy; exact OwnR.nilB _ _ _ _ _ h.own.base
    · rcases List.mem_append.1 hy with hy | hy
      · exact h.rws.wt y hy
      · simp only [List.mem_singleton] at hy
        subst hy; exact OwnR.nilB _ _ _ _ _ h.own.base
  exact ⟨v', w', r1, RwL.grew r2 r3 hx (fun q hq => by rw [ho]; exact h.ap q hq), r3, ho⟩

set_option maxRecDepth 100000 in
set_option maxHeartbeats 8000000 in
theorem wtake_any (rb mb bs : Nat) (v : Value) (pl : Bool) (X : List Bx) (T : Wt) (k : Nat) (e : Ev) (w : World) (hwd : 0 ≤ e.wd ∧ e.wd < 18446744073709551616) (h : Rec w rb mb bs v pl X T) (hP : PInv T k) (hk : k ≤ 1100000) :
    Calls Tryz.prog 81 #[.pointer (some ⟨rb, 0, none⟩), .int .i64 (k : Int), .agg e.cells] w fun ex w' => ex = .returned (.tuple #[]) ∧ ∃ v' pl' X', Rec w' rb mb bs v' pl' X' (stepW T k e) ∧ Keeps (fun q => bs ≤ q ∨ q = rb ∨ q = mb) w w' := by
  have hmx : Tryz.prog.follows .mixedOrders = true := by kernel_rfl
  obtain ⟨th, kd, ad, wd, own, er⟩ := e
  dsimp only at hwd
  have hrl := lt_of_block h.blk
  have hml := h.map.lt
  have hbs := h.row.own.base
  have ka := (Keeps.refl (fun _ => False) w).alloc (.cells #[.int .i64 th, .int .i64 kd, .int .u64 ad, .int .u64 wd, .bool own, .int .i64 er] 60)
  have ba := (MapKept.heap_alloc w (.cells #[.int .i64 th, .int .i64 kd, .int .u64 ad, .int .u64 wd, .bool own, .int .i64 er] 60)).1
  have R0 := h.keeps ka
  have hne1 : ¬ rb = w.heap.size := by omega
  have hne2 : ¬ mb = w.heap.size := by omega
  have hlen : X.length ≤ k := by rw [← List.length_map (f := (·.p)), h.eqs]; exact hP.len
  unfold stepW
  show Calls Tryz.prog 81 #[.pointer (some ⟨rb, 0, none⟩), .int .i64 (k : Int), .agg #[.int .i64 th, .int .i64 kd, .int .u64 ad, .int .u64 wd, .bool own, .int .i64 er]] w _
  by_cases h1 : kd = 1
  · subst h1
    obtain ⟨va, vc, rfl⟩ := h.row.own.form
    have hO : openW T k ⟨th, 1, ad, wd, own, er⟩ = ⟨T.l ++ [freshP th k], fun t => if t = th then some T.l.length else T.o t⟩ := by unfold openW; rw [if_pos rfl]
    rw [hO]
    obtain ⟨T1, hT1⟩ : ∃ T1 : Wt, T1 = ⟨T.l ++ [freshP th k], fun t => if t = th then some T.l.length else T.o t⟩ := ⟨_, rfl⟩
    rw [← hT1]
    obtain ⟨TT, hTT⟩ : ∃ TT, TT = markW T1 k ⟨th, 1, ad, wd, own, er⟩ := ⟨_, rfl⟩
    rw [← hTT]
    have HTT : Hid (TT = markW T1 k ⟨th, 1, ad, wd, own, er⟩) := hTT
    have HPX : Hid ((∀ t i, T1.o t = some i → i < T1.l.length) ∧ (∀ p ∈ T1.l, p.rs.length ≤ 1100000 ∧ p.ws.length ≤ 1100000)) := by
      rw [hT1]
      refine ⟨fun t i hi => ?_, fun p hp => ?_⟩
      · simp only [List.length_append, List.length_singleton]
        simp only at hi
        split at hi
        · cases hi; omega
        · have := hP.o t i hi; omega
      · rcases List.mem_append.1 hp with hp | hp
        · have := hP.bd p hp; omega
        · simp only [List.mem_singleton] at hp
          rw [hp]; simp [freshP]
    have RD := R0.keeps (Keeps.refl (fun _ => False) _).drew
    obtain ⟨w1, hu, mp1, k1⟩ := RD.map.put th (X.length : Int)
    have Rl := R0.lt
    have rb1 := (k1.block rb (lt_of_block RD.blk) Rl.2.2).trans RD.blk
    have row1 := RD.row.keeps k1 (fun q hq _ e => by omega)
    have bx1 : w1.heap[w.heap.size]? = some (.cells #[.int .i64 th, .int .i64 1, .int .u64 ad, .int .u64 wd, .bool own, .int .i64 er] 60 (0, 0)) := (k1.block w.heap.size (lt_of_block (w := (w.alloc (.cells #[.int .i64 th, .int .i64 1, .int .u64 ad, .int .u64 wd, .bool own, .int .i64 er] 60)).drew) ba) (fun e => hne2 e.symm)).trans ba
    have kd1 := (Keeps.refl (fun _ => False) w1).drew
    have rowD := row1.keeps kd1 (fun _ _ _ f => f)
    obtain ⟨v', w3, ha, row3, gr3, ho3⟩ := Prs.push rowD th (k : Int) (by omega) 132
    obtain ⟨⟨ya, yn, yc⟩, rfl, -⟩ := sl_of row3.own
    have hvo : ∀ q, (Value.slice va X.length vc).ownBlock = some q → q < w.heap.size ∧ bs ≤ q := fun q hq => own_block h.row.own.own hq
    have rb3 := (gr3.keeps.block rb (lt_of_block (w := w1.drew) rb1) (fun e => by have := hvo _ e; omega)).trans rb1
    have mp3 := (mp1.keeps kd1 (fun f => f)).keeps gr3.keeps (fun e => by have := hvo _ e; omega)
    have bx3 := (gr3.keeps.block w.heap.size (lt_of_block (w := w1.drew) bx1) (fun e => by have := hvo _ e; omega)).trans bx1
    have ks : Keeps (fun q => q = rb) w3 (w3.setCell ⟨rb, 0, none⟩ (.slice ya yn yc)) := Keeps.setCell (S := fun q => q = rb) (p := ⟨rb, 0, none⟩) (Keeps.refl _ w3) (.inr rfl) _
    have h13 : w.heap.size < w1.heap.size := lt_of_block bx1
    have HR : Hid (Rec (w3.setCell ⟨rb, 0, none⟩ (.slice ya yn yc)) rb mb bs (.slice ya yn yc) pl (X ++ [⟨freshP th k, sl0, sl0⟩]) T1) := by
      refine ⟨block_set rb3 0 _, (mp3.keeps ks (fun e => Rl.2.2 e.symm)).congr fun y => ?_, row3.keeps ks (fun q hq _ e => by omega), ?_, Rl⟩
      · rw [hT1]
        have hl : X.length = T.l.length := by rw [← h.eqs]; simp
        simp only [oI, hl]
        split <;> rfl
      · rw [hT1, List.map_append, h.eqs]; rfl
    have hbx : (w3.setCell ⟨rb, 0, none⟩ (.slice ya yn yc)).heap[w.heap.size]? = _ := (ks.block _ (lt_of_block bx3) (fun e => hne1 e.symm)).trans bx3
    have HOX : Hid ((∀ q ∈ ows (X ++ [⟨freshP th k, sl0, sl0⟩]), q ≠ w.heap.size) ∧ (∀ q, (Value.slice ya yn yc).ownBlock = some q → q ≠ w.heap.size)) := by
      refine ⟨fun q hq e => ?_, fun q hq e => ?_⟩
      · rw [ho3] at hq
        have := (h.row.rws.young hq).1; omega
      · rcases gr3.own with o | o
        · have := hvo q (o ▸ hq); omega
        · have h9 : w1.heap.size ≤ q := o q hq
          omega
    have k13 : Keeps (fun q => bs ≤ q ∨ q = rb ∨ q = mb) w w1 := (ka.drew.mono fun _ _ f => f.elim).trans (k1.mono fun q _ e => .inr (.inr e))
    have k33 : Keeps (fun q => bs ≤ q ∨ q = rb ∨ q = mb) w w3 := k13.trans (((Keeps.refl (fun q => bs ≤ q ∨ q = rb ∨ q = mb) w1).drew).trans (gr3.keeps.mono fun q _ e => .inl (hvo q e).2))
    have HK : Hid (Keeps (fun q => bs ≤ q ∨ q = rb ∨ q = mb) w (w3.setCell ⟨rb, 0, none⟩ (.slice ya yn yc))) := k33.trans (ks.mono fun q _ e => .inr (.inl e))
    have HVS : Hid (w.heap.size < (w3.setCell ⟨rb, 0, none⟩ (.slice ya yn yc)).heap.size) := lt_of_block hbx
    have HU : Hid (_ = _) := hu
    have HA : Hid (_ = _) := ha
    have R0b := R0.blk
    have S1 : (w.alloc (.cells #[.int .i64 th, .int .i64 1, .int .u64 ad, .int .u64 wd, .bool own, .int .i64 er] 60)).drew.cell? ⟨rb, 0, none⟩ = some (.slice va X.length vc) ∧ (w.alloc (.cells #[.int .i64 th, .int .i64 1, .int .u64 ad, .int .u64 wd, .bool own, .int .i64 er] 60)).drew.cell? ⟨rb, 1, none⟩ = some (.map (some mb)) ∧ (w.alloc (.cells #[.int .i64 th, .int .i64 1, .int .u64 ad, .int .u64 wd, .bool own, .int .i64 er] 60)).drew.cell? ⟨w.heap.size, 0, none⟩ = some (.int .i64 th) := by
      refine ⟨?_, ?_, ?_⟩
      · rw [cell_of_block RD.blk]; rfl
      · rw [cell_of_block RD.blk]; rfl
      · rw [cell_of_block (w := (w.alloc (.cells #[.int .i64 th, .int .i64 1, .int .u64 ad, .int .u64 wd, .bool own, .int .i64 er] 60)).drew) ba]; rfl
    have S2 : w1.drew.cell? ⟨rb, 0, none⟩ = some (.slice va X.length vc) ∧ w1.drew.cell? ⟨w.heap.size, 0, none⟩ = some (.int .i64 th) := by
      refine ⟨?_, ?_⟩
      · rw [cell_of_block (w := w1.drew) rb1]; rfl
      · rw [cell_of_block (w := w1.drew) bx1]; rfl
    have kal := (Keeps.refl (fun _ => False) w1.drew).alloc (.cells #[.int .i64 th, .int .i64 0, .int .i64 (k : Int), .int .i64 0, .int .u64 0, .bool false, .int .i64 0, .slice none 0 0, .slice none 0 0, .int .i64 0, .bool false] 137)
    have S2a : (w1.drew.alloc (.cells #[.int .i64 th, .int .i64 0, .int .i64 (k : Int), .int .i64 0, .int .u64 0, .bool false, .int .i64 0, .slice none 0 0, .slice none 0 0, .int .i64 0, .bool false] 137)).cell? ⟨rb, 0, none⟩ = some (.slice va X.length vc) ∧ (w1.drew.alloc (.cells #[.int .i64 th, .int .i64 0, .int .i64 (k : Int), .int .i64 0, .int .u64 0, .bool false, .int .i64 0, .slice none 0 0, .slice none 0 0, .int .i64 0, .bool false] 137)).cell? ⟨w.heap.size, 0, none⟩ = some (.int .i64 th) := ⟨kal.cellB (fun f => f) S2.1, kal.cellB (fun f => f) S2.2⟩
    have S3 : w3.cell? ⟨rb, 0, none⟩ = some (.slice va X.length vc) ∧ w3.cell? ⟨w.heap.size, 0, none⟩ = some (.int .i64 th) := by
      refine ⟨?_, ?_⟩
      · rw [cell_of_block rb3]; rfl
      · rw [cell_of_block bx3]; rfl
    have f3 : w3.frozen? ⟨rb, 0, none⟩ = false := frozen_of_block rb3 0
    have hto : T1.o th = some T.l.length := by rw [hT1]; simp
    obtain ⟨nn, hnn⟩ : ∃ nn, nn = T.l.length := ⟨_, rfl⟩
    rw [← hnn] at hto
    clear hnn
    clear hTT hT1 hO R0 RD mp1 k1 rb1 row1 bx1 kd1 rowD ha hu row3 gr3 ho3 hvo rb3 mp3 bx3 ks h13 k13 k33 h ka ba hP R0b kal
    go_enter Tryz.func81, Tryz.ntmps81
    go_wp2_with fail
    refine wp_until (S := fun W : World => W.cell? ⟨rb, 0, none⟩ = some (.slice va X.length vc) ∧ W.cell? ⟨rb, 1, none⟩ = some (.map (some mb)) ∧ W.cell? ⟨w.heap.size, 0, none⟩ = some (.int .i64 th)) 11 12 rfl hmx ?_
    simp only [Array.replicate_succ, Array.replicate_zero, List.push_toArray, List.nil_append, List.cons_append]
    refine u_take (i := 0) (v := (.pointer (some ⟨rb, 0, none⟩))) 12 rfl rfl (by kernel_rfl) (by kernel_rfl) (by kernel_rfl) (by kernel_rfl) rfl (fun w' hw' => by obtain ⟨g0, g1, g2⟩ := hw'; go_simp) S1 ?_
    simp only [Act.put, List.setIfInBounds_toArray, List.set_cons_zero, List.set_cons_succ]
    refine u_take (i := 1) (v := (.pointer (some ⟨rb, 0, none⟩))) 13 rfl rfl (by kernel_rfl) (by kernel_rfl) (by kernel_rfl) (by kernel_rfl) rfl (fun w' hw' => by obtain ⟨g0, g1, g2⟩ := hw'; go_simp) S1 ?_
    simp only [Act.put, List.setIfInBounds_toArray, List.set_cons_zero, List.set_cons_succ]
    refine u_take (i := 2) (v := (.pointer (some ⟨rb, 1, none⟩))) 14 rfl rfl (by kernel_rfl) (by kernel_rfl) (by kernel_rfl) (by kernel_rfl) rfl (fun w' hw' => by obtain ⟨g0, g1, g2⟩ := hw'; go_simp) S1 ?_
    simp only [Act.put, List.setIfInBounds_toArray, List.set_cons_zero, List.set_cons_succ]
    refine u_take (i := 3) (v := (.map (some mb))) 15 rfl rfl (by kernel_rfl) (by kernel_rfl) (by kernel_rfl) (by kernel_rfl) rfl (fun w' hw' => by obtain ⟨g0, g1, g2⟩ := hw'; go_simp) S1 ?_
    simp only [Act.put, List.setIfInBounds_toArray, List.set_cons_zero, List.set_cons_succ]
    refine u_take (i := 4) (v := (.pointer (some ⟨w.heap.size, 0, none⟩))) 16 rfl rfl (by kernel_rfl) (by kernel_rfl) (by kernel_rfl) (by kernel_rfl) rfl (fun w' hw' => by obtain ⟨g0, g1, g2⟩ := hw'; go_simp) S1 ?_
    simp only [Act.put, List.setIfInBounds_toArray, List.set_cons_zero, List.set_cons_succ]
    refine u_take (i := 5) (v := (.int .i64 th)) 17 rfl rfl (by kernel_rfl) (by kernel_rfl) (by kernel_rfl) (by kernel_rfl) rfl (fun w' hw' => by obtain ⟨g0, g1, g2⟩ := hw'; go_simp) S1 ?_
    simp only [Act.put, List.setIfInBounds_toArray, List.set_cons_zero, List.set_cons_succ]
    refine u_take (i := 6) (v := (.pointer (some ⟨rb, 0, none⟩))) 18 rfl rfl (by kernel_rfl) (by kernel_rfl) (by kernel_rfl) (by kernel_rfl) rfl (fun w' hw' => by obtain ⟨g0, g1, g2⟩ := hw'; go_simp) S1 ?_
    simp only [Act.put, List.setIfInBounds_toArray, List.set_cons_zero, List.set_cons_succ]
    refine u_take (i := 7) (v := (.pointer (some ⟨rb, 0, none⟩))) 19 rfl rfl (by kernel_rfl) (by kernel_rfl) (by kernel_rfl) (by kernel_rfl) rfl (fun w' hw' => by obtain ⟨g0, g1, g2⟩ := hw'; go_simp) S1 ?_
    simp only [Act.put, List.setIfInBounds_toArray, List.set_cons_zero, List.set_cons_succ]
    refine u_take (i := 8) (v := (.pointer (some ⟨rb, 0, none⟩))) 20 rfl rfl (by kernel_rfl) (by kernel_rfl) (by kernel_rfl) (by kernel_rfl) rfl (fun w' hw' => by obtain ⟨g0, g1, g2⟩ := hw'; go_simp) S1 ?_
    simp only [Act.put, List.setIfInBounds_toArray, List.set_cons_zero, List.set_cons_succ]
    refine u_take (i := 9) (v := (.slice va X.length vc)) 21 rfl rfl (by kernel_rfl) (by kernel_rfl) (by kernel_rfl) (by kernel_rfl) rfl (fun w' hw' => by obtain ⟨g0, g1, g2⟩ := hw'; go_simp) S1 ?_
    simp only [Act.put, List.setIfInBounds_toArray, List.set_cons_zero, List.set_cons_succ]
    refine u_take (i := 10) (v := (.int .i64 (X.length : Int))) 22 rfl rfl (by kernel_rfl) (by kernel_rfl) (by kernel_rfl) (by kernel_rfl) rfl (fun w' hw' => by obtain ⟨g0, g1, g2⟩ := hw'; go_simp) S1 ?_
    simp only [Act.put, List.setIfInBounds_toArray, List.set_cons_zero, List.set_cons_succ]
    refine u_last (w' := w1) (by kernel_rfl) rfl rfl rfl (run_mapUpdate_op rfl rfl rfl rfl HU.out) (by kernel_rfl) ?_
    clear S1 HU
    go_wp2_with fail
    refine wp_until (S := fun W : World => W.cell? ⟨rb, 0, none⟩ = some (.slice va X.length vc) ∧ W.cell? ⟨w.heap.size, 0, none⟩ = some (.int .i64 th)) 14 15 rfl hmx ?_
    simp only [Array.replicate_succ, Array.replicate_zero, List.push_toArray, List.nil_append, List.cons_append]
    refine u_take (i := 0) (v := (.pointer (some ⟨rb, 0, none⟩))) 23 rfl rfl (by kernel_rfl) (by kernel_rfl) (by kernel_rfl) (by kernel_rfl) rfl (fun w' hw' => by obtain ⟨g0, g1⟩ := hw'; go_simp) S2 ?_
    simp only [Act.put, List.setIfInBounds_toArray, List.set_cons_zero, List.set_cons_succ]
    refine u_take (i := 1) (v := (.pointer (some ⟨rb, 0, none⟩))) 24 rfl rfl (by kernel_rfl) (by kernel_rfl) (by kernel_rfl) (by kernel_rfl) rfl (fun w' hw' => by obtain ⟨g0, g1⟩ := hw'; go_simp) S2 ?_
    simp only [Act.put, List.setIfInBounds_toArray, List.set_cons_zero, List.set_cons_succ]
    refine u_take (i := 2) (v := (.pointer (some ⟨rb, 0, none⟩))) 25 rfl rfl (by kernel_rfl) (by kernel_rfl) (by kernel_rfl) (by kernel_rfl) rfl (fun w' hw' => by obtain ⟨g0, g1⟩ := hw'; go_simp) S2 ?_
    simp only [Act.put, List.setIfInBounds_toArray, List.set_cons_zero, List.set_cons_succ]
    refine u_take (i := 3) (v := (.pointer (some ⟨rb, 0, none⟩))) 26 rfl rfl (by kernel_rfl) (by kernel_rfl) (by kernel_rfl) (by kernel_rfl) rfl (fun w' hw' => by obtain ⟨g0, g1⟩ := hw'; go_simp) S2 ?_
    simp only [Act.put, List.setIfInBounds_toArray, List.set_cons_zero, List.set_cons_succ]
    refine u_take (i := 4) (v := (.slice va X.length vc)) 27 rfl rfl (by kernel_rfl) (by kernel_rfl) (by kernel_rfl) (by kernel_rfl) rfl (fun w' hw' => by obtain ⟨g0, g1⟩ := hw'; go_simp) S2 ?_
    simp only [Act.put, List.setIfInBounds_toArray, List.set_cons_zero, List.set_cons_succ]
    refine u_take (i := 5) (v := (.pointer (some ⟨w.heap.size, 0, none⟩))) 28 rfl rfl (by kernel_rfl) (by kernel_rfl) (by kernel_rfl) (by kernel_rfl) rfl (fun w' hw' => by obtain ⟨g0, g1⟩ := hw'; go_simp) S2 ?_
    simp only [Act.put, List.setIfInBounds_toArray, List.set_cons_zero, List.set_cons_succ]
    refine u_take (i := 6) (v := (.int .i64 th)) 29 rfl rfl (by kernel_rfl) (by kernel_rfl) (by kernel_rfl) (by kernel_rfl) rfl (fun w' hw' => by obtain ⟨g0, g1⟩ := hw'; go_simp) S2 ?_
    simp only [Act.put, List.setIfInBounds_toArray, List.set_cons_zero, List.set_cons_succ]
    refine u_take (i := 7) (v := (.int .i64 (k : Int))) 30 rfl rfl (by kernel_rfl) (by kernel_rfl) (by kernel_rfl) (by kernel_rfl) rfl (fun w' hw' => by obtain ⟨g0, g1⟩ := hw'; go_simp) S2 ?_
    simp only [Act.put, List.setIfInBounds_toArray, List.set_cons_zero, List.set_cons_succ]
    refine u_take (i := 8) (v := (.agg #[.int .i64 th, .int .i64 0, .int .i64 (k : Int), .int .i64 0, .int .u64 0, .bool false, .int .i64 0, .slice none 0 0, .slice none 0 0])) 31 rfl rfl (by kernel_rfl) (by kernel_rfl) (by kernel_rfl) (by kernel_rfl) rfl (fun w' hw' => by obtain ⟨g0, g1⟩ := hw'; go_simp) S2 ?_
    simp only [Act.put, List.setIfInBounds_toArray, List.set_cons_zero, List.set_cons_succ]
    refine u_take (i := 9) (v := (.agg #[.int .i64 th, .int .i64 0, .int .i64 (k : Int), .int .i64 0, .int .u64 0, .bool false, .int .i64 0, .slice none 0 0, .slice none 0 0, .int .i64 0, .bool false])) 32 rfl rfl (by kernel_rfl) (by kernel_rfl) (by kernel_rfl) (by kernel_rfl) rfl (fun w' hw' => by obtain ⟨g0, g1⟩ := hw'; go_simp) S2 ?_
    simp only [Act.put, List.setIfInBounds_toArray, List.set_cons_zero, List.set_cons_succ]
    refine u_val (i := 10) (v := .slice (some ⟨w1.heap.size, 0, none⟩) 1 1) (w' := w1.drew.alloc (.cells #[.int .i64 th, .int .i64 0, .int .i64 (k : Int), .int .i64 0, .int .u64 0, .bool false, .int .i64 0, .slice none 0 0, .slice none 0 0, .int .i64 0, .bool false] 137)) (some 33) (by kernel_rfl) rfl rfl rfl (by go_simp) S2a ?_
    simp only [Act.put, List.setIfInBounds_toArray, List.set_cons_zero, List.set_cons_succ]
    refine u_val (i := 11) (v := .slice ya yn yc) (w' := w3) (some 34) (by kernel_rfl) rfl rfl rfl (run_append_op rfl rfl rfl HA.out) S3 ?_
    simp only [Act.put, List.setIfInBounds_toArray, List.set_cons_zero, List.set_cons_succ]
    refine u_val (i := 12) (v := (.pointer (some ⟨rb, 0, none⟩))) (w' := w3) (some 35) (by kernel_rfl) rfl rfl rfl (by go_simp) S3 ?_
    simp only [Act.put, List.setIfInBounds_toArray, List.set_cons_zero, List.set_cons_succ]
    refine u_val (i := 13) (v := (.pointer (some ⟨rb, 0, none⟩))) (w' := w3) (some 36) (by kernel_rfl) rfl rfl rfl (by go_simp) S3 ?_
    simp only [Act.put, List.setIfInBounds_toArray, List.set_cons_zero, List.set_cons_succ]
    refine u_last (w' := w3.setCell ⟨rb, 0, none⟩ (.slice ya yn yc)) (by kernel_rfl) rfl rfl rfl (by go_simp) (by kernel_rfl) ?_
    clear S2 S2a S3 HA
    go_wp2_with fail
    generalize w3.setCell ⟨rb, 0, none⟩ (.slice ya yn yc) = V at *
    generalize X ++ [(⟨freshP th k, sl0, sl0⟩ : Bx)] = X at *
    obtain ⟨v, hv⟩ : ∃ v, v = Value.slice ya yn yc := ⟨_, rfl⟩
    rw [← hv] at HR HOX
    clear hv f3 hlen
    obtain ⟨Rb, Rm, Rr, Re, Rl⟩ := HR.out
    have q1 : V.cell? ⟨rb, 1, none⟩ = some (.map (some mb)) := by rw [cell_of_block Rb]; rfl
    have q2 : V.cell? ⟨rb, 2, none⟩ = some (.bool pl) := by rw [cell_of_block Rb]; rfl
    have q0 : V.cell? ⟨rb, 0, none⟩ = some v := by rw [cell_of_block Rb]; rfl
    have y2 : V.frozen? ⟨rb, 2, none⟩ = false := frozen_of_block Rb 2
    have e0 : V.cell? ⟨w.heap.size, 0, none⟩ = some (.int .i64 th) := by rw [cell_of_block hbx]; rfl
    have e1 : V.cell? ⟨w.heap.size, 1, none⟩ = some (.int .i64 1) := by rw [cell_of_block hbx]; rfl
    have e2 : V.cell? ⟨w.heap.size, 2, none⟩ = some (.int .u64 ad) := by rw [cell_of_block hbx]; rfl
    have e3 : V.cell? ⟨w.heap.size, 3, none⟩ = some (.int .u64 wd) := by rw [cell_of_block hbx]; rfl
    have e4 : V.cell? ⟨w.heap.size, 4, none⟩ = some (.bool own) := by rw [cell_of_block hbx]; rfl
    have e5 : V.cell? ⟨w.heap.size, 5, none⟩ = some (.int .i64 er) := by rw [cell_of_block hbx]; rfl
    have lk := Rm.look th
    have hlk : lookI (oI T1) th = .tuple #[.int .i64 (nn : Int), .bool true] := by simp [lookI, oI, hto]
    rw [hlk] at lk
    have hnT := HPX.out.1 th nn hto
    have hnX : nn < X.length := by rw [← List.length_map (f := (·.p)), Re]; exact hnT
    have hget : (T1.l[nn]?).getD pt0 = (X[nn]).p := by rw [← Re]; simp [hnX]
    obtain ⟨g, cap, cur, rfl, hgb, hgk, hgs⟩ := Rr.own.at (by omega)
    have SL : V.cell? ⟨rb, 1, none⟩ = some (.map (some mb)) ∧ V.cell? ⟨w.heap.size, 0, none⟩ = some (.int .i64 th) ∧ (Instr.lookup 133 (.map (some mb)) (.int .i64 th) true).run Tryz.prog V.drew = .ok (.tuple #[.int .i64 (nn : Int), .bool true]) V.drew := ⟨q1, e0, by have := (HR.out.keeps (Keeps.refl _ V).drew).map.look th; rw [hlk] at this; exact this⟩
    have hbd := HPX.out.2 (X[nn]).p (by rw [← Re]; exact List.mem_map.2 ⟨_, List.getElem_mem hnX, rfl⟩)
    have NC := wnote_any bs g X.length cap X nn k ⟨th, 1, ad, wd, own, er⟩ V.drew hwd (Rr.keeps (Keeps.refl _ V).drew (fun _ _ _ f => f)) hnX (by omega) (by omega)
    have HM : Hid (∀ pq, pq = noteP (X[nn]).p k ⟨th, 1, ad, wd, own, er⟩ → markW T1 k ⟨th, 1, ad, wd, own, er⟩ = ⟨T1.l.set nn pq, if pq.kd = 5 then T1.o else fun t => if t = th then none else T1.o t⟩) := fun pq hpq => by
      unfold markW
      simp only [hto, hget]
      rw [hpq]
    have hni : (nn : Int) < X.length := by omega
    have hn0 : (0 : Int) ≤ nn := by omega
    have HS : Hid (MapI V mb (oI T1) ∧ V.heap[rb]? = some (.cells #[.slice (some ⟨g, 0, none⟩) X.length cap, .map (some mb), .bool pl] 135 (0, 0)) ∧ X.map (·.p) = T1.l ∧ V.heap[w.heap.size]? = some (.cells #[.int .i64 th, .int .i64 1, .int .u64 ad, .int .u64 wd, .bool own, .int .i64 er] 60 (0, 0))) := ⟨Rm, Rb, Re, hbx⟩
    have hgne : ¬ g = rb := by omega
    clear Rm Rr Re hlk hto lk Rb hbx hbd hgk hgs hget hnT
    generalize hpp : (X[nn]'hnX).p = pn at *
    clear hpp
    go_region_held3 (fun W : World => W.cell? ⟨rb, 1, none⟩ = some (.map (some mb)) ∧ W.cell? ⟨w.heap.size, 0, none⟩ = some (.int .i64 th) ∧ (Instr.lookup 133 (.map (some mb)) (.int .i64 th) true).run Tryz.prog W = .ok (.tuple #[.int .i64 (nn : Int), .bool true]) W) (first | assumption | (exact SL) | go_keep) (fail)
    go_wp2_with fail
    refine NC.mono ?_
    rintro ex w2 ⟨rfl, Y, hN, hY⟩
    have hgo := HOX.out.2 g rfl
    have hoo : w.heap.size ∉ ows X := fun q => HOX.out.1 _ q rfl
    have kpV : Keeps (fun q => bs ≤ q) V w2 := ((Keeps.refl (fun q => bs ≤ q) V).drew).trans hN.kp
    have bx2 := (hN.kx w.heap.size HVS.out (fun e => hgo e.symm) hoo).trans HS.out.2.2.2
    have rb2 := (hN.kp.block rb (lt_of_block HS.out.2.1) (by omega)).trans HS.out.2.1
    have mp2 := HS.out.1.keeps kpV (by show ¬ bs ≤ mb; omega)
    have ck := (hN.at hnX).1 1 _ rfl
    have r1 : w2.cell? ⟨rb, 1, none⟩ = some (.map (some mb)) := by rw [cell_of_block rb2]; rfl
    have x0 : w2.cell? ⟨w.heap.size, 0, none⟩ = some (.int .i64 th) := by rw [cell_of_block bx2]; rfl
    have HN : Hid (Nst bs g X.length cap X nn V.drew Y w2) := hN
    have hTT := HTT.out.trans (HM.out Y.p hY)
    have eqs2 : (X.set nn Y).map (·.p) = T1.l.set nn Y.p := by rw [List.map_set, HS.out.2.2.1]
    have kall : Keeps (fun q => bs ≤ q ∨ q = rb ∨ q = mb) w w2 := HK.out.trans (kpV.mono fun _ _ e => .inl e)
    by_cases h5 : Y.p.kd = 5
    · rw [if_pos h5] at hTT
      have HF : Hid (Rec w2 rb mb bs (.slice (some ⟨g, 0, none⟩) X.length cap) pl (X.set nn Y) TT ∧ Keeps (fun q => bs ≤ q ∨ q = rb ∨ q = mb) w w2) := by
        rw [hTT]
        exact ⟨⟨rb2, mp2, hN.row, eqs2, Rl⟩, kall⟩
      rw [show Y.p.kd = 5 from h5] at ck
      clear NC hN hTT eqs2 kall kpV mp2 rb2 bx2 hY q0 q1 q2 e0 e1 e2 e3 e4 e5 h5
      go_wp2_with fail
      go_end0
      exact ⟨rfl, _, _, _, HF.out⟩
    · rw [if_neg h5] at hTT
      obtain ⟨w4, hd, mp4, k4⟩ := (mp2.keeps (Keeps.refl (fun _ => False) w2).drew (fun f => f)).del th 0
      have HD : Hid (_ = _) := hd
      have S3 : w2.drew.cell? ⟨rb, 1, none⟩ = some (.map (some mb)) ∧ w2.drew.cell? ⟨w.heap.size, 0, none⟩ = some (.int .i64 th) := ⟨r1, x0⟩
      have S4 : w4.cell? ⟨rb, 1, none⟩ = some (.map (some mb)) ∧ w4.cell? ⟨w.heap.size, 0, none⟩ = some (.int .i64 th) := ⟨k4.cellB Rl.2.2 S3.1, k4.cellB (fun e => hne2 e.symm) S3.2⟩
      have k4' : Keeps (fun q => q = mb) w2 w4 := ((Keeps.refl (fun q => q = mb) w2).drew).trans k4
      have HF : Hid (Rec w4 rb mb bs (.slice (some ⟨g, 0, none⟩) X.length cap) pl (X.set nn Y) TT ∧ Keeps (fun q => bs ≤ q ∨ q = rb ∨ q = mb) w w4) := by
        rw [hTT]
        refine ⟨⟨(k4'.block rb (lt_of_block rb2) Rl.2.2).trans rb2, mp4.congr fun y => ?_, hN.row.keeps k4' (fun q hq _ e => by omega), eqs2, Rl⟩, kall.trans (k4'.mono fun q _ e => .inr (.inr e))⟩
        simp only [oI]
        split <;> rfl
      have h5b : (Y.p.kd == 5) = false := by rw [beq_eq_false_iff_ne]; exact h5
      have h5n : (Y.p.kd != 5) = true := by rw [bne_iff_ne]; exact h5
      clear NC hN hTT eqs2 kall kpV mp2 rb2 bx2 hY q0 q1 q2 e0 e1 e2 e3 e4 e5 k4 k4' mp4 hd h5
      generalize Y.p.kd = yk at *
      go_wp2_with fail
      refine wp_heldE (S := fun W : World => W.cell? ⟨rb, 1, none⟩ = some (.map (some mb)) ∧ W.cell? ⟨w.heap.size, 0, none⟩ = some (.int .i64 th)) 7 rfl hmx ?_
      simp only [Array.replicate_succ, Array.replicate_zero, List.push_toArray, List.nil_append, List.cons_append]
      refine held_take (i := 0) (v := (.pointer (some ⟨rb, 0, none⟩))) 77 rfl rfl (by kernel_rfl) (by kernel_rfl) (by kernel_rfl) rfl (fun w' hw' => by obtain ⟨g0, g1⟩ := hw'; go_simp) S3 ?_
      simp only [Act.put, List.setIfInBounds_toArray, List.set_cons_zero, List.set_cons_succ]
      refine held_take (i := 1) (v := (.pointer (some ⟨rb, 0, none⟩))) 78 rfl rfl (by kernel_rfl) (by kernel_rfl) (by kernel_rfl) rfl (fun w' hw' => by obtain ⟨g0, g1⟩ := hw'; go_simp) S3 ?_
      simp only [Act.put, List.setIfInBounds_toArray, List.set_cons_zero, List.set_cons_succ]
      refine held_take (i := 2) (v := (.pointer (some ⟨rb, 1, none⟩))) 79 rfl rfl (by kernel_rfl) (by kernel_rfl) (by kernel_rfl) rfl (fun w' hw' => by obtain ⟨g0, g1⟩ := hw'; go_simp) S3 ?_
      simp only [Act.put, List.setIfInBounds_toArray, List.set_cons_zero, List.set_cons_succ]
      refine held_take (i := 3) (v := (.map (some mb))) 80 rfl rfl (by kernel_rfl) (by kernel_rfl) (by kernel_rfl) rfl (fun w' hw' => by obtain ⟨g0, g1⟩ := hw'; go_simp) S3 ?_
      simp only [Act.put, List.setIfInBounds_toArray, List.set_cons_zero, List.set_cons_succ]
      refine held_take (i := 4) (v := (.pointer (some ⟨w.heap.size, 0, none⟩))) 81 rfl rfl (by kernel_rfl) (by kernel_rfl) (by kernel_rfl) rfl (fun w' hw' => by obtain ⟨g0, g1⟩ := hw'; go_simp) S3 ?_
      simp only [Act.put, List.setIfInBounds_toArray, List.set_cons_zero, List.set_cons_succ]
      refine held_take (i := 5) (v := (.int .i64 th)) 82 rfl rfl (by kernel_rfl) (by kernel_rfl) (by kernel_rfl) rfl (fun w' hw' => by obtain ⟨g0, g1⟩ := hw'; go_simp) S3 ?_
      simp only [Act.put, List.setIfInBounds_toArray, List.set_cons_zero, List.set_cons_succ]
      refine held_val (i := 6) (v := .tuple #[]) (w' := w4) none (by kernel_rfl) rfl rfl rfl (run_delete_op rfl rfl rfl HD.out) S4 ?_
      refine held_end (by kernel_rfl) ?_ _
      clear S3 S4 HD
      go_wp2_with fail
      go_end0
      exact ⟨rfl, _, _, _, HF.out⟩

  · have hO : openW T k ⟨th, kd, ad, wd, own, er⟩ = T := by unfold openW; rw [if_neg h1]
    rw [hO]
    obtain ⟨T1, hT1⟩ : ∃ T1, T1 = T := ⟨_, rfl⟩
    rw [← hT1]
    obtain ⟨TT, hTT⟩ : ∃ TT, TT = markW T1 k ⟨th, kd, ad, wd, own, er⟩ := ⟨_, rfl⟩
    rw [← hTT]
    have HTT : Hid (TT = markW T1 k ⟨th, kd, ad, wd, own, er⟩) := hTT
    rw [← hT1] at R0
    have HPX : Hid ((∀ t i, T1.o t = some i → i < T1.l.length) ∧ (∀ p ∈ T1.l, p.rs.length ≤ 1100000 ∧ p.ws.length ≤ 1100000)) := by rw [hT1]; exact ⟨hP.o, fun p hp => by have := hP.bd p hp; omega⟩
    have HOX : Hid ((∀ q ∈ ows X, q ≠ w.heap.size) ∧ (∀ q, v.ownBlock = some q → q ≠ w.heap.size)) := ⟨fun q hq e => by have := (h.row.rws.young hq).1; omega, fun q hq e => by have := (own_block h.row.own.own hq).1; omega⟩
    have HVS : Hid (w.heap.size < (w.alloc (.cells #[.int .i64 th, .int .i64 kd, .int .u64 ad, .int .u64 wd, .bool own, .int .i64 er] 60)).heap.size) := by unfold Hid; simp
    clear hTT hT1
    have b1 : (kd == 1) = false := by rw [beq_eq_false_iff_ne]; exact h1
    have hbx := ba
    have HK : Hid (Keeps (fun q => bs ≤ q ∨ q = rb ∨ q = mb) w _) := ka.mono (fun _ _ f => f.elim)
    have HR : Hid (Rec _ rb mb bs v pl X T1) := R0
    clear hO R0 h ka ba hP
    go_enter Tryz.func81, Tryz.ntmps81
    go_wp2_with fail
    generalize w.alloc (.cells #[.int .i64 th, .int .i64 kd, .int .u64 ad, .int .u64 wd, .bool own, .int .i64 er] 60) = V at *
    obtain ⟨Rb, Rm, Rr, Re, Rl⟩ := HR.out
    have q1 : V.cell? ⟨rb, 1, none⟩ = some (.map (some mb)) := by rw [cell_of_block Rb]; rfl
    have q2 : V.cell? ⟨rb, 2, none⟩ = some (.bool pl) := by rw [cell_of_block Rb]; rfl
    have q0 : V.cell? ⟨rb, 0, none⟩ = some v := by rw [cell_of_block Rb]; rfl
    have y2 : V.frozen? ⟨rb, 2, none⟩ = false := frozen_of_block Rb 2
    have e0 : V.cell? ⟨w.heap.size, 0, none⟩ = some (.int .i64 th) := by rw [cell_of_block hbx]; rfl
    have e1 : V.cell? ⟨w.heap.size, 1, none⟩ = some (.int .i64 kd) := by rw [cell_of_block hbx]; rfl
    have e2 : V.cell? ⟨w.heap.size, 2, none⟩ = some (.int .u64 ad) := by rw [cell_of_block hbx]; rfl
    have e3 : V.cell? ⟨w.heap.size, 3, none⟩ = some (.int .u64 wd) := by rw [cell_of_block hbx]; rfl
    have e4 : V.cell? ⟨w.heap.size, 4, none⟩ = some (.bool own) := by rw [cell_of_block hbx]; rfl
    have e5 : V.cell? ⟨w.heap.size, 5, none⟩ = some (.int .i64 er) := by rw [cell_of_block hbx]; rfl
    have lk := Rm.look th
    cases hto : T1.o th with
    | none =>
      have hlk : lookI (oI T1) th = .tuple #[.int .i64 0, .bool false] := by simp [lookI, oI, hto]
      rw [hlk] at lk
      have hm : markW T1 k ⟨th, kd, ad, wd, own, er⟩ = T1 := by unfold markW; simp only [hto]
      have SL : V.cell? ⟨rb, 1, none⟩ = some (.map (some mb)) ∧ V.cell? ⟨w.heap.size, 0, none⟩ = some (.int .i64 th) ∧ (Instr.lookup 133 (.map (some mb)) (.int .i64 th) true).run Tryz.prog V.drew = .ok (.tuple #[.int .i64 0, .bool false]) V.drew := ⟨q1, e0, by have := (HR.out.keeps (Keeps.refl _ V).drew).map.look th; rw [hlk] at this; exact this⟩
      have HF : Hid (∀ b : Bool, Rec ((V.setCell ⟨rb, 2, none⟩ (.bool b)).drew) rb mb bs v b X T1 ∧ Keeps (fun q => bs ≤ q ∨ q = rb ∨ q = mb) w ((V.setCell ⟨rb, 2, none⟩ (.bool b)).drew)) := fun b => by
        have kk : Keeps (fun q => q = rb) V (V.setCell ⟨rb, 2, none⟩ (.bool b)).drew := ((Keeps.refl (fun q => q = rb) V).setCell (p := ⟨rb, 2, none⟩) (.inr rfl) _).drew
        exact ⟨⟨block_set Rb 2 (.bool b), Rm.keeps kk (fun e => Rl.2.2 e.symm), Rr.keeps kk (fun q hq _ e => by omega), Re, Rl⟩, (HK.out.setCell (.inr (.inr (.inl rfl))) _).drew⟩
      have HT2 : Hid (TT = T1) := HTT.out.trans hm
      clear Rm Rr Re hm hlk hto lk Rb
      go_region_held3 (fun W : World => W.cell? ⟨rb, 1, none⟩ = some (.map (some mb)) ∧ W.cell? ⟨w.heap.size, 0, none⟩ = some (.int .i64 th) ∧ (Instr.lookup 133 (.map (some mb)) (.int .i64 th) true).run Tryz.prog W = .ok (.tuple #[.int .i64 0, .bool false]) W) (first | assumption | (exact SL) | go_keep) (fail)
      cases pl
      · by_cases h12 : kd = 12
        · subst h12
          go_wp2_with fail
          (try simp only [Exit.inBlock, Exit.then]); refine bodyPost_ret (results_none rfl _ _ _) rfl ?_
          obtain rfl := HT2.out
          exact ⟨rfl, v, _, X, HF.out false⟩
        · have b12 : (kd == 12) = false := by rw [beq_eq_false_iff_ne]; exact h12
          have b12' : (kd != 12) = true := by rw [bne_iff_ne]; exact h12
          go_wp2_with fail
          (try simp only [Exit.inBlock, Exit.then]); refine bodyPost_ret (results_none rfl _ _ _) rfl ?_
          obtain rfl := HT2.out
          exact ⟨rfl, v, _, X, HF.out true⟩
      · go_wp2_with fail
        (try simp only [Exit.inBlock, Exit.then]); refine bodyPost_ret (results_none rfl _ _ _) rfl ?_
        obtain rfl := HT2.out
        exact ⟨rfl, v, _, X, HF.out true⟩
    | some n =>
      have hlk : lookI (oI T1) th = .tuple #[.int .i64 (n : Int), .bool true] := by simp [lookI, oI, hto]
      rw [hlk] at lk
      have hnT := HPX.out.1 th n hto
      have hnX : n < X.length := by rw [← List.length_map (f := (·.p)), Re]; exact hnT
      have hget : (T1.l[n]?).getD pt0 = (X[n]).p := by rw [← Re]; simp [hnX]
      obtain ⟨g, cap, cur, rfl, hgb, hgk, hgs⟩ := Rr.own.at (by omega)
      have SL : V.cell? ⟨rb, 1, none⟩ = some (.map (some mb)) ∧ V.cell? ⟨w.heap.size, 0, none⟩ = some (.int .i64 th) ∧ (Instr.lookup 133 (.map (some mb)) (.int .i64 th) true).run Tryz.prog V.drew = .ok (.tuple #[.int .i64 (n : Int), .bool true]) V.drew := ⟨q1, e0, by have := (HR.out.keeps (Keeps.refl _ V).drew).map.look th; rw [hlk] at this; exact this⟩
      have hbd := HPX.out.2 (X[n]).p (by rw [← Re]; exact List.mem_map.2 ⟨_, List.getElem_mem hnX, rfl⟩)
      have NC := wnote_any bs g X.length cap X n k ⟨th, kd, ad, wd, own, er⟩ V.drew hwd (Rr.keeps (Keeps.refl _ V).drew (fun _ _ _ f => f)) hnX (by omega) (by omega)
      have HM : Hid (∀ pq, pq = noteP (X[n]).p k ⟨th, kd, ad, wd, own, er⟩ → markW T1 k ⟨th, kd, ad, wd, own, er⟩ = ⟨T1.l.set n pq, if pq.kd = 5 then T1.o else fun t => if t = th then none else T1.o t⟩) := fun pq hpq => by
        unfold markW
        simp only [hto, hget]
        rw [hpq]
      have hni : (n : Int) < X.length := by omega
      have hn0 : (0 : Int) ≤ n := by omega
      have HS : Hid (MapI V mb (oI T1) ∧ V.heap[rb]? = some (.cells #[.slice (some ⟨g, 0, none⟩) X.length cap, .map (some mb), .bool pl] 135 (0, 0)) ∧ X.map (·.p) = T1.l ∧ V.heap[w.heap.size]? = some (.cells #[.int .i64 th, .int .i64 kd, .int .u64 ad, .int .u64 wd, .bool own, .int .i64 er] 60 (0, 0))) := ⟨Rm, Rb, Re, hbx⟩
      have hgne : ¬ g = rb := by omega
      clear Rm Rr Re hlk hto lk Rb hbx hbd hgk hgs hget hnT
      generalize hpp : (X[n]'hnX).p = pn at *
      clear hpp
      go_region_held3 (fun W : World => W.cell? ⟨rb, 1, none⟩ = some (.map (some mb)) ∧ W.cell? ⟨w.heap.size, 0, none⟩ = some (.int .i64 th) ∧ (Instr.lookup 133 (.map (some mb)) (.int .i64 th) true).run Tryz.prog W = .ok (.tuple #[.int .i64 (n : Int), .bool true]) W) (first | assumption | (exact SL) | go_keep) (fail)
      go_wp2_with fail
      refine NC.mono ?_
      rintro ex w2 ⟨rfl, Y, hN, hY⟩
      have hgo := HOX.out.2 g rfl
      have hoo : w.heap.size ∉ ows X := fun q => HOX.out.1 _ q rfl
      have kpV : Keeps (fun q => bs ≤ q) V w2 := ((Keeps.refl (fun q => bs ≤ q) V).drew).trans hN.kp
      have bx2 := (hN.kx w.heap.size HVS.out (fun e => hgo e.symm) hoo).trans HS.out.2.2.2
      have rb2 := (hN.kp.block rb (lt_of_block HS.out.2.1) (by omega)).trans HS.out.2.1
      have mp2 := HS.out.1.keeps kpV (by show ¬ bs ≤ mb; omega)
      have ck := (hN.at hnX).1 1 _ rfl
      have r1 : w2.cell? ⟨rb, 1, none⟩ = some (.map (some mb)) := by rw [cell_of_block rb2]; rfl
      have x0 : w2.cell? ⟨w.heap.size, 0, none⟩ = some (.int .i64 th) := by rw [cell_of_block bx2]; rfl
      have HN : Hid (Nst bs g X.length cap X n V.drew Y w2) := hN
      have hTT := HTT.out.trans (HM.out Y.p hY)
      have eqs2 : (X.set n Y).map (·.p) = T1.l.set n Y.p := by rw [List.map_set, HS.out.2.2.1]
      have kall : Keeps (fun q => bs ≤ q ∨ q = rb ∨ q = mb) w w2 := HK.out.trans (kpV.mono fun _ _ e => .inl e)
      by_cases h5 : Y.p.kd = 5
      · rw [if_pos h5] at hTT
        have HF : Hid (Rec w2 rb mb bs (.slice (some ⟨g, 0, none⟩) X.length cap) pl (X.set n Y) TT ∧ Keeps (fun q => bs ≤ q ∨ q = rb ∨ q = mb) w w2) := by
          rw [hTT]
          exact ⟨⟨rb2, mp2, hN.row, eqs2, Rl⟩, kall⟩
        rw [show Y.p.kd = 5 from h5] at ck
        clear NC hN hTT eqs2 kall kpV mp2 rb2 bx2 hY q0 q1 q2 e0 e1 e2 e3 e4 e5 h5
        go_wp2_with fail
        go_end0
        exact ⟨rfl, _, _, _, HF.out⟩
      · rw [if_neg h5] at hTT
        obtain ⟨w4, hd, mp4, k4⟩ := (mp2.keeps (Keeps.refl (fun _ => False) w2).drew (fun f => f)).del th 0
        have HD : Hid (_ = _) := hd
        have S3 : w2.drew.cell? ⟨rb, 1, none⟩ = some (.map (some mb)) ∧ w2.drew.cell? ⟨w.heap.size, 0, none⟩ = some (.int .i64 th) := ⟨r1, x0⟩
        have S4 : w4.cell? ⟨rb, 1, none⟩ = some (.map (some mb)) ∧ w4.cell? ⟨w.heap.size, 0, none⟩ = some (.int .i64 th) := ⟨k4.cellB Rl.2.2 S3.1, k4.cellB (fun e => hne2 e.symm) S3.2⟩
        have k4' : Keeps (fun q => q = mb) w2 w4 := ((Keeps.refl (fun q => q = mb) w2).drew).trans k4
        have HF : Hid (Rec w4 rb mb bs (.slice (some ⟨g, 0, none⟩) X.length cap) pl (X.set n Y) TT ∧ Keeps (fun q => bs ≤ q ∨ q = rb ∨ q = mb) w w4) := by
          rw [hTT]
          refine ⟨⟨(k4'.block rb (lt_of_block rb2) Rl.2.2).trans rb2, mp4.congr fun y => ?_, hN.row.keeps k4' (fun q hq _ e => by omega), eqs2, Rl⟩, kall.trans (k4'.mono fun q _ e => .inr (.inr e))⟩
          simp only [oI]
          split <;> rfl
        have h5b : (Y.p.kd == 5) = false := by rw [beq_eq_false_iff_ne]; exact h5
        have h5n : (Y.p.kd != 5) = true := by rw [bne_iff_ne]; exact h5
        clear NC hN hTT eqs2 kall kpV mp2 rb2 bx2 hY q0 q1 q2 e0 e1 e2 e3 e4 e5 k4 k4' mp4 hd h5
        generalize Y.p.kd = yk at *
        go_wp2_with fail
        refine wp_heldE (S := fun W : World => W.cell? ⟨rb, 1, none⟩ = some (.map (some mb)) ∧ W.cell? ⟨w.heap.size, 0, none⟩ = some (.int .i64 th)) 7 rfl hmx ?_
        simp only [Array.replicate_succ, Array.replicate_zero, List.push_toArray, List.nil_append, List.cons_append]
        refine held_take (i := 0) (v := (.pointer (some ⟨rb, 0, none⟩))) 77 rfl rfl (by kernel_rfl) (by kernel_rfl) (by kernel_rfl) rfl (fun w' hw' => by obtain ⟨g0, g1⟩ := hw'; go_simp) S3 ?_
        simp only [Act.put, List.setIfInBounds_toArray, List.set_cons_zero, List.set_cons_succ]
        refine held_take (i := 1) (v := (.pointer (some ⟨rb, 0, none⟩))) 78 rfl rfl (by kernel_rfl) (by kernel_rfl) (by kernel_rfl) rfl (fun w' hw' => by obtain ⟨g0, g1⟩ := hw'; go_simp) S3 ?_
        simp only [Act.put, List.setIfInBounds_toArray, List.set_cons_zero, List.set_cons_succ]
        refine held_take (i := 2) (v := (.pointer (some ⟨rb, 1, none⟩))) 79 rfl rfl (by kernel_rfl) (by kernel_rfl) (by kernel_rfl) rfl (fun w' hw' => by obtain ⟨g0, g1⟩ := hw'; go_simp) S3 ?_
        simp only [Act.put, List.setIfInBounds_toArray, List.set_cons_zero, List.set_cons_succ]
        refine held_take (i := 3) (v := (.map (some mb))) 80 rfl rfl (by kernel_rfl) (by kernel_rfl) (by kernel_rfl) rfl (fun w' hw' => by obtain ⟨g0, g1⟩ := hw'; go_simp) S3 ?_
        simp only [Act.put, List.setIfInBounds_toArray, List.set_cons_zero, List.set_cons_succ]
        refine held_take (i := 4) (v := (.pointer (some ⟨w.heap.size, 0, none⟩))) 81 rfl rfl (by kernel_rfl) (by kernel_rfl) (by kernel_rfl) rfl (fun w' hw' => by obtain ⟨g0, g1⟩ := hw'; go_simp) S3 ?_
        simp only [Act.put, List.setIfInBounds_toArray, List.set_cons_zero, List.set_cons_succ]
        refine held_take (i := 5) (v := (.int .i64 th)) 82 rfl rfl (by kernel_rfl) (by kernel_rfl) (by kernel_rfl) rfl (fun w' hw' => by obtain ⟨g0, g1⟩ := hw'; go_simp) S3 ?_
        simp only [Act.put, List.setIfInBounds_toArray, List.set_cons_zero, List.set_cons_succ]
        refine held_val (i := 6) (v := .tuple #[]) (w' := w4) none (by kernel_rfl) rfl rfl rfl (run_delete_op rfl rfl rfl HD.out) S4 ?_
        refine held_end (by kernel_rfl) ?_ _
        clear S3 S4 HD
        go_wp2_with fail
        go_end0
        exact ⟨rfl, _, _, _, HF.out⟩

end Go.Proofs.YthmiainhaebjiaaGreatDoor
