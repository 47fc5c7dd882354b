
/- Walk of stand (package asm). No statement of the seat is proved here. -/
import Derived.Test.YtkkmkfldldglgaaGreatDoorAsF
import Derived.Shelf.Strconv.Clone
namespace Go.Proofs.YtkkmkfldldglgaaGreatDoor
open Go.RowKit Go.Shelf

theorem Gl.keepsB {w w' : World} {S : Nat → Prop} (h : Gl w) (k : Keeps S w w') (base : Nat) (hb : 0 < base ∧ lays147_ren.g 1 < base) (hS : ∀ q, S q → base ≤ q) : Gl w' := by
  obtain ⟨h1, m, h2⟩ := h
  refine ⟨h1.keeps k (fun e => by have := hS _ e; omega), m, ?_⟩
  have hlt : lays147_ren.g 1 < w.heap.size := World.block_lt_of_cell? _ _ h2
  rw [← h2]
  simp only [World.cell?]
  rw [k.block _ hlt (fun e => by have := hS _ e; omega)]
theorem run_mapUpdate_op {P : Program} {o : Oper} {a : Act} {w w' : World} {t : TypeId} {m x v : Operand} {vm vx vv : Value} (ho : o.op = .mapUpdate t m x v) (h1 : a.eval m = vm) (h2 : a.eval x = vx) (h3 : a.eval v = vv) (hrun : (Instr.mapUpdate t vm vx vv).run P w = .ok () w') :
    (execOp a.eval o).run P w = .ok .skip w' := by
  simp [execOp, ho, h1, h2, h3, hrun, Result.andThen]
theorem Keeps.cell {S : Nat → Prop} {w w' : World} (k : Keeps S w w') {a : Addr} {v : Value} (hs : ¬ S a.block) (h : w.cell? a = some v) : w'.cell? a = some v := by
  have hb := World.block_lt_of_cell? _ _ h
  unfold World.cell? at h ⊢
  rw [k.block _ hb hs]
  exact h
theorem ROwn.ge {w : World} {base p m : Nat} {vc vl vu : Value} {tag : Nat → Nat} {r : Rd} (h : RdIs w base p m vc vl vu tag r) {k : Nat} (hk : ROwn p m vc vl vu k) : base ≤ k := by
  rcases hk with e | e | e | e | e
  · subst e; exact h.bp
  · subst e; exact h.bm
  · exact (own_block h.code.own e).2
  · exact (own_block h.labs e).2
  · exact (own_block h.uses e).2

theorem clone_any (l : List UInt8) (hl : l.length < 4294967281) (w : World) : Calls Tryz.prog 101 #[.string ⟨l.toArray⟩] w fun e w' => e = .returned (.string ⟨l.toArray⟩) ∧ Keeps (fun _ => False) w w' := by
  have C := fun w => Any.stringslite_Clone lays316 ⟨l.toArray⟩ w (by rw [size_of]; omega)
  go_enter Tryz.func101, Tryz.ntmps101
  go_wp2_with fail
  refine (C _).mono ?_
  rintro e w1 ⟨rfl, k1⟩
  have kk := keeps_below k1
  go_wp2_with fail
  go_ret
  exact ⟨rfl, kk⟩

theorem own_form {w : World} {base size : Nat} {e : TypeId} {v : Value} {n : Nat} {xs : List Value} (h : w.ownsRow base e size v n xs) : ∃ b n c, v = .slice b n c := by
  rcases h.2 with ⟨rfl, _⟩ | ⟨g, cap, cur, rfl, _⟩
  · exact ⟨_, _, _, rfl⟩
  · exact ⟨_, _, _, rfl⟩
/-- What stand answers. -/
def StPost (r : Rd) (x : List UInt8) (S : Nat → Prop) (base p : Nat) (w : World) (e : Ending) (w' : World) : Prop := match standR r x with
  | some r' => e = .returned (.bool true) ∧ RdAt w' (fun k => S k ∨ w.heap.size ≤ k) base p r'
  | none => e = .returned (.bool false) ∧ RdAt w' S base p r

set_option maxRecDepth 100000 in
set_option maxHeartbeats 4000000 in
theorem stand_any (x : List UInt8) (hx : x.length < 4294967281) (w : World) (S : Nat → Prop) (base p : Nat) (r : Rd) (hw : Gl w) (h : RdAt w S base p r) (hlb : (r.labs.length + 1) * 24 ≤ 140737488355328) (hcb : r.code.length ≤ 4294967296) :
    Calls Tryz.prog 86 #[.pointer (some ⟨p, 0, none⟩), .string ⟨x.toArray⟩] w fun e w' => StPost r x S base p w e w' ∧ Keeps S w w' := by
  have hmx : Tryz.prog.follows .mixedOrders = true := by kernel_rfl
  have HW : Hid (RdAt w S base p r) := h
  obtain ⟨m, vc, vl, vu, tag, hI, hS⟩ := h
  have IL := isLabel_any x w hw.nms
  obtain ⟨bc, cc, rfl⟩ := hI.code.form
  have c0 : w.cell? ⟨p, 0, none⟩ = some (.slice bc r.code.length cc) := cell_of_block hI.box 0
  have c1 : w.cell? ⟨p, 1, none⟩ = some vl := cell_of_block hI.box 1
  have c2 : w.cell? ⟨p, 2, none⟩ = some (.map (some m)) := cell_of_block hI.box 2
  have LK := hI.map.look x
  cases hlab : labB x
  · have hP : StPost r x S base p w (.returned (.bool false)) w := by
      unfold StPost standR
      rw [if_neg (by simp [hlab])]
      exact ⟨rfl, HW.out⟩
    rw [hlab] at IL
    clear hI LK
    go_enter Tryz.func86, Tryz.ntmps86
    go_wp2_with fail
    refine IL.mono ?_
    rintro e w1 ⟨rfl, rfl⟩
    go_wp2_with fail
    go_ret
    exact ⟨hP, Keeps.refl _ _⟩
  · rw [hlab] at IL
    by_cases hin : x ∈ r.labs.map (·.1)
    · have hP : StPost r x S base p w (.returned (.bool false)) w := by
        unfold StPost standR
        rw [if_neg (by simp only [not_and, Classical.not_not]; exact fun _ => hin)]
        exact ⟨rfl, HW.out⟩
      obtain ⟨q, hq, rfl⟩ := List.mem_map.1 hin
      unfold lookV at LK
      rw [lookup_mem hI.map.nodup hq] at LK
      clear hI
      go_enter Tryz.func86, Tryz.ntmps86
      go_wp2_with fail
      refine IL.mono ?_
      rintro e w1 ⟨rfl, rfl⟩
      go_wp2_with fail
      go_ret
      exact ⟨hP, Keeps.refl _ _⟩
    · unfold lookV at LK
      rw [lookup_none hin] at LK
      have npm : p ≠ m := fun e => by have := hI.tp; rw [e, hI.tm] at this; cases this
      obtain ⟨w1, u1, hm1, k1⟩ := (hI.map.keeps ((Keeps.refl (fun _ => False) w).drew) (fun f => f)).put x r.code.length hin
      have hU : Hid (_ = _) := u1
      have kd1 : Keeps (fun k => k = m) w w1 := ((Keeps.refl (fun k => k = m) w).drew).trans k1
      have S1 : w1.cell? ⟨p, 0, none⟩ = some (.slice bc r.code.length cc) ∧ w1.cell? ⟨p, 1, none⟩ = some vl ∧ w1.cell? ⟨p, 2, none⟩ = some (.map (some m)) := ⟨kd1.cell npm c0, kd1.cell npm c1, kd1.cell npm c2⟩
      have C := clone_any x hx w1.drew
      have HR : Hid (∀ w2, Keeps (fun _ => False) w1.drew w2 → ∃ v' w3, (Builtin.append_ #[27, 27] 27 #[vl, .slice (some ⟨w2.heap.size, 0, none⟩) 1 1]).run Tryz.prog (w2.alloc (.cells #[.string ⟨x.toArray⟩, .int .i64 (r.code.length : Int)] 39)) = .ok v' w3 ∧
          StPost r x S base p w (.returned (.bool true)) (w3.setCell ⟨p, 1, none⟩ v') ∧ Keeps S w (w3.setCell ⟨p, 1, none⟩ v') ∧ (w3.cell? ⟨p, 0, none⟩ = some (.slice bc r.code.length cc) ∧ w3.cell? ⟨p, 1, none⟩ = some vl ∧ w3.cell? ⟨p, 2, none⟩ = some (.map (some m))) ∧ w3.frozen? ⟨p, 1, none⟩ = false ∧ ∃ b n c, v' = .slice b n c) := fun w2 k2 => by
        have kk : Keeps (fun k => k = m) w w2 := kd1.trans (((Keeps.refl (fun k => k = m) w1).drew).trans (k2.mono (fun _ _ f => f.elim)))
        have n2 : vl.ownBlock ≠ some m := fun e => by have := hI.tl m e; rw [hI.tm] at this; cases this
        have n1 : vl.ownBlock ≠ some p := fun e => by have := hI.tl p e; rw [hI.tp] at this; cases this
        have hrow := own_keeps hI.labs kk (fun g e f => by subst f; exact n2 e)
        obtain ⟨v', w3, r1, r2, r3⟩ := own_push1 (P := Tryz.prog) w2 base 27 27 39 _ 2 24 Tryz.underlying27 info_lab rfl (by decide) vl _ _ hrow [.string ⟨x.toArray⟩, .int .i64 (r.code.length : Int)] rfl (by simp [Value.oneCell']) hlb (by decide) (Nat.le_trans hI.code.base kk.size)
        have hm2 : MpAt w2 m (r.labs ++ [(x, r.code.length)]) := hm1.keeps (((Keeps.refl (fun _ => False) w1).drew).trans k2) (fun f => f)
        obtain ⟨tag', q1, q2, q3⟩ := hI.label hm2 kk r2 r3
        have hk3 : ∀ i v, w.cell? ⟨p, i, none⟩ = some v → w3.cell? ⟨p, i, none⟩ = some v := fun i v hv => r3.keeps.cell n1 (kk.cell npm hv)
        refine ⟨v', w3, r1, ?_, q3.mono (fun k _ e => hS k e), ⟨hk3 0 _ c0, hk3 1 _ c1, hk3 2 _ c2⟩, ?_⟩
        · unfold StPost standR
          rw [if_pos ⟨hlab, hin⟩]
          refine ⟨rfl, m, _, v', vu, tag', q1, fun k hk => ?_⟩
          rcases q2 k hk with e | e
          · exact .inl (hS k e)
          · exact .inr e
        · have hb : w3.heap[p]? = some (.cells #[.slice bc r.code.length cc, vl, .map (some m), vu] 73 (0, 0)) := (r3.keeps.block p (Nat.lt_of_lt_of_le (lt_of_block hI.box) kk.size) n1).trans ((kk.block p (lt_of_block hI.box) npm).trans hI.box)
          exact ⟨frozen_of_block hb 1, own_form r2⟩
      have Sd : ∀ W : World, (W.cell? ⟨p, 0, none⟩ = some (.slice bc r.code.length cc) ∧ W.cell? ⟨p, 1, none⟩ = some vl ∧ W.cell? ⟨p, 2, none⟩ = some (.map (some m))) → (W.drew.cell? ⟨p, 0, none⟩ = some (.slice bc r.code.length cc) ∧ W.drew.cell? ⟨p, 1, none⟩ = some vl ∧ W.drew.cell? ⟨p, 2, none⟩ = some (.map (some m))) := fun W h => h
      have S0 := Sd w ⟨c0, c1, c2⟩
      have S1d := Sd w1 S1
      have Sk : Hid (∀ w2, Keeps (fun _ => False) w1.drew w2 → (w2.cell? ⟨p, 0, none⟩ = some (.slice bc r.code.length cc) ∧ w2.cell? ⟨p, 1, none⟩ = some vl ∧ w2.cell? ⟨p, 2, none⟩ = some (.map (some m)))) := fun w2 k2 => ⟨k2.cell (fun f => f) S1d.1, k2.cell (fun f => f) S1d.2.1, k2.cell (fun f => f) S1d.2.2⟩
      have hcl : (r.code.length : Int) ≤ 4294967296 := by omega
      clear hI hm1 k1 kd1 u1 HW hS npm
      go_enter Tryz.func86, Tryz.ntmps86
      go_wp2_with fail
      refine IL.mono ?_
      rintro e w0 ⟨rfl, hw0⟩
      subst hw0
      go_wp2_with fail
      refine wp_until (S := fun W : World => W.cell? ⟨p, 0, none⟩ = some (.slice bc r.code.length cc) ∧ W.cell? ⟨p, 1, none⟩ = some vl ∧ W.cell? ⟨p, 2, none⟩ = some (.map (some m))) 10 11 rfl hmx ?_
      simp only [Array.replicate_succ, Array.replicate_zero, List.push_toArray, List.nil_append, List.cons_append]
      refine u_take (i := 0) (v := (.pointer (some ⟨p, 0, none⟩))) 20 rfl rfl (by kernel_rfl) (by kernel_rfl) (by kernel_rfl) (by kernel_rfl) rfl (fun w' hw' => by obtain ⟨q0, q1, q2⟩ := hw'; go_simp) S0 ?_
      simp only [Act.put, List.setIfInBounds_toArray, List.set_cons_zero, List.set_cons_succ]
      refine u_take (i := 1) (v := (.pointer (some ⟨p, 0, none⟩))) 21 rfl rfl (by kernel_rfl) (by kernel_rfl) (by kernel_rfl) (by kernel_rfl) rfl (fun w' hw' => by obtain ⟨q0, q1, q2⟩ := hw'; go_simp) S0 ?_
      simp only [Act.put, List.setIfInBounds_toArray, List.set_cons_zero, List.set_cons_succ]
      refine u_take (i := 2) (v := (.pointer (some ⟨p, 2, none⟩))) 22 rfl rfl (by kernel_rfl) (by kernel_rfl) (by kernel_rfl) (by kernel_rfl) rfl (fun w' hw' => by obtain ⟨q0, q1, q2⟩ := hw'; go_simp) S0 ?_
      simp only [Act.put, List.setIfInBounds_toArray, List.set_cons_zero, List.set_cons_succ]
      refine u_take (i := 3) (v := (.map (some m))) 23 rfl rfl (by kernel_rfl) (by kernel_rfl) (by kernel_rfl) (by kernel_rfl) rfl (fun w' hw' => by obtain ⟨q0, q1, q2⟩ := hw'; go_simp) S0 ?_
      simp only [Act.put, List.setIfInBounds_toArray, List.set_cons_zero, List.set_cons_succ]
      refine u_take (i := 4) (v := (.string ⟨x.toArray⟩)) 24 rfl rfl (by kernel_rfl) (by kernel_rfl) (by kernel_rfl) (by kernel_rfl) rfl (fun w' hw' => by obtain ⟨q0, q1, q2⟩ := hw'; go_simp) S0 ?_
      simp only [Act.put, List.setIfInBounds_toArray, List.set_cons_zero, List.set_cons_succ]
      refine u_take (i := 5) (v := (.pointer (some ⟨p, 0, none⟩))) 25 rfl rfl (by kernel_rfl) (by kernel_rfl) (by kernel_rfl) (by kernel_rfl) rfl (fun w' hw' => by obtain ⟨q0, q1, q2⟩ := hw'; go_simp) S0 ?_
      simp only [Act.put, List.setIfInBounds_toArray, List.set_cons_zero, List.set_cons_succ]
      refine u_take (i := 6) (v := (.pointer (some ⟨p, 0, none⟩))) 26 rfl rfl (by kernel_rfl) (by kernel_rfl) (by kernel_rfl) (by kernel_rfl) rfl (fun w' hw' => by obtain ⟨q0, q1, q2⟩ := hw'; go_simp) S0 ?_
      simp only [Act.put, List.setIfInBounds_toArray, List.set_cons_zero, List.set_cons_succ]
      refine u_take (i := 7) (v := (.pointer (some ⟨p, 0, none⟩))) 27 rfl rfl (by kernel_rfl) (by kernel_rfl) (by kernel_rfl) (by kernel_rfl) rfl (fun w' hw' => by obtain ⟨q0, q1, q2⟩ := hw'; go_simp) S0 ?_
      simp only [Act.put, List.setIfInBounds_toArray, List.set_cons_zero, List.set_cons_succ]
      refine u_take (i := 8) (v := (.slice bc r.code.length cc)) 28 rfl rfl (by kernel_rfl) (by kernel_rfl) (by kernel_rfl) (by kernel_rfl) rfl (fun w' hw' => by obtain ⟨q0, q1, q2⟩ := hw'; go_simp) S0 ?_
      simp only [Act.put, List.setIfInBounds_toArray, List.set_cons_zero, List.set_cons_succ]
      refine u_take (i := 9) (v := (.int .i64 (r.code.length : Int))) 29 rfl rfl (by kernel_rfl) (by kernel_rfl) (by kernel_rfl) (by kernel_rfl) rfl (fun w' hw' => by obtain ⟨q0, q1, q2⟩ := hw'; go_simp) S0 ?_
      simp only [Act.put, List.setIfInBounds_toArray, List.set_cons_zero, List.set_cons_succ]
      refine u_last (w' := w1) (by kernel_rfl) rfl rfl rfl (run_mapUpdate_op rfl rfl rfl rfl hU.out) (by kernel_rfl) ?_
      clear S0 hU c0 c1 c2 LK
      go_wp2_with fail
      refine wp_until (S := fun W : World => W.cell? ⟨p, 0, none⟩ = some (.slice bc r.code.length cc) ∧ W.cell? ⟨p, 1, none⟩ = some vl ∧ W.cell? ⟨p, 2, none⟩ = some (.map (some m))) 17 18 rfl hmx ?_
      simp only [Array.replicate_succ, Array.replicate_zero, List.push_toArray, List.nil_append, List.cons_append]
      refine u_take (i := 0) (v := (.pointer (some ⟨p, 0, none⟩))) 30 rfl rfl (by kernel_rfl) (by kernel_rfl) (by kernel_rfl) (by kernel_rfl) rfl (fun w' hw' => by obtain ⟨q0, q1, q2⟩ := hw'; go_simp) S1d ?_
      simp only [Act.put, List.setIfInBounds_toArray, List.set_cons_zero, List.set_cons_succ]
      refine u_take (i := 1) (v := (.pointer (some ⟨p, 0, none⟩))) 31 rfl rfl (by kernel_rfl) (by kernel_rfl) (by kernel_rfl) (by kernel_rfl) rfl (fun w' hw' => by obtain ⟨q0, q1, q2⟩ := hw'; go_simp) S1d ?_
      simp only [Act.put, List.setIfInBounds_toArray, List.set_cons_zero, List.set_cons_succ]
      refine u_take (i := 2) (v := (.pointer (some ⟨p, 0, none⟩))) 32 rfl rfl (by kernel_rfl) (by kernel_rfl) (by kernel_rfl) (by kernel_rfl) rfl (fun w' hw' => by obtain ⟨q0, q1, q2⟩ := hw'; go_simp) S1d ?_
      simp only [Act.put, List.setIfInBounds_toArray, List.set_cons_zero, List.set_cons_succ]
      refine u_take (i := 3) (v := (.pointer (some ⟨p, 1, none⟩))) 33 rfl rfl (by kernel_rfl) (by kernel_rfl) (by kernel_rfl) (by kernel_rfl) rfl (fun w' hw' => by obtain ⟨q0, q1, q2⟩ := hw'; go_simp) S1d ?_
      simp only [Act.put, List.setIfInBounds_toArray, List.set_cons_zero, List.set_cons_succ]
      refine u_take (i := 4) (v := vl) 34 rfl rfl (by kernel_rfl) (by kernel_rfl) (by kernel_rfl) (by kernel_rfl) rfl (fun w' hw' => by obtain ⟨q0, q1, q2⟩ := hw'; go_simp) S1d ?_
      simp only [Act.put, List.setIfInBounds_toArray, List.set_cons_zero, List.set_cons_succ]
      refine u_take (i := 5) (v := (.string ⟨x.toArray⟩)) 35 rfl rfl (by kernel_rfl) (by kernel_rfl) (by kernel_rfl) (by kernel_rfl) rfl (fun w' hw' => by obtain ⟨q0, q1, q2⟩ := hw'; go_simp) S1d ?_
      simp only [Act.put, List.setIfInBounds_toArray, List.set_cons_zero, List.set_cons_succ]
      refine u_take (i := 7) (v := (.pointer (some ⟨p, 0, none⟩))) 37 rfl rfl (by kernel_rfl) (by kernel_rfl) (by kernel_rfl) (by kernel_rfl) rfl (fun w' hw' => by obtain ⟨q0, q1, q2⟩ := hw'; go_simp) S1d ?_
      simp only [Act.put, List.setIfInBounds_toArray, List.set_cons_zero, List.set_cons_succ]
      refine u_take (i := 8) (v := (.pointer (some ⟨p, 0, none⟩))) 38 rfl rfl (by kernel_rfl) (by kernel_rfl) (by kernel_rfl) (by kernel_rfl) rfl (fun w' hw' => by obtain ⟨q0, q1, q2⟩ := hw'; go_simp) S1d ?_
      simp only [Act.put, List.setIfInBounds_toArray, List.set_cons_zero, List.set_cons_succ]
      refine u_take (i := 9) (v := (.pointer (some ⟨p, 0, none⟩))) 39 rfl rfl (by kernel_rfl) (by kernel_rfl) (by kernel_rfl) (by kernel_rfl) rfl (fun w' hw' => by obtain ⟨q0, q1, q2⟩ := hw'; go_simp) S1d ?_
      simp only [Act.put, List.setIfInBounds_toArray, List.set_cons_zero, List.set_cons_succ]
      refine u_take (i := 10) (v := (.slice bc r.code.length cc)) 40 rfl rfl (by kernel_rfl) (by kernel_rfl) (by kernel_rfl) (by kernel_rfl) rfl (fun w' hw' => by obtain ⟨q0, q1, q2⟩ := hw'; go_simp) S1d ?_
      simp only [Act.put, List.setIfInBounds_toArray, List.set_cons_zero, List.set_cons_succ]
      refine u_take (i := 11) (v := (.int .i64 (r.code.length : Int))) 41 rfl rfl (by kernel_rfl) (by kernel_rfl) (by kernel_rfl) (by kernel_rfl) rfl (fun w' hw' => by obtain ⟨q0, q1, q2⟩ := hw'; go_simp) S1d ?_
      simp only [Act.put, List.setIfInBounds_toArray, List.set_cons_zero, List.set_cons_succ]
      refine u_call (i := 6) (f := 101) (args := #[.string ⟨x.toArray⟩]) 36 (by kernel_rfl) rfl rfl rfl (by go_simp) (C.mono ?_)
      rintro e w2 ⟨rfl, k2⟩
      obtain ⟨v', w3, r1, r2, r3, r4, r5, hform⟩ := HR.out w2 k2
      have HA : Hid (_ = _) := r1
      have S2 := Sk.out w2 k2
      have S3 : ((w2.alloc (.cells #[.string ⟨x.toArray⟩, .int .i64 (r.code.length : Int)] 39)).cell? ⟨p, 0, none⟩ = some (.slice bc r.code.length cc) ∧ (w2.alloc (.cells #[.string ⟨x.toArray⟩, .int .i64 (r.code.length : Int)] 39)).cell? ⟨p, 1, none⟩ = some vl ∧ (w2.alloc (.cells #[.string ⟨x.toArray⟩, .int .i64 (r.code.length : Int)] 39)).cell? ⟨p, 2, none⟩ = some (.map (some m))) := by
        have ka := (Keeps.refl (fun _ => False) w2).alloc (.cells #[.string ⟨x.toArray⟩, .int .i64 (r.code.length : Int)] 39)
        exact ⟨ka.cell (fun f => f) S2.1, ka.cell (fun f => f) S2.2.1, ka.cell (fun f => f) S2.2.2⟩
      have H2 : Hid (StPost r x S base p w0 (.returned (.bool true)) (w3.setCell ⟨p, 1, none⟩ v') ∧ Keeps S w0 (w3.setCell ⟨p, 1, none⟩ v')) := ⟨r2, r3⟩
      have q1 := r4.2.1
      clear HR Sk C r1 r2 r3 S1 S1d Sd
      refine ⟨_, rfl, S2, ?_⟩
      simp only [Act.put, List.setIfInBounds_toArray, List.set_cons_zero, List.set_cons_succ]
      refine u_take (i := 12) (v := (.agg #[.string ⟨x.toArray⟩, .int .i64 (r.code.length : Int)])) 42 rfl rfl (by kernel_rfl) (by kernel_rfl) (by kernel_rfl) (by kernel_rfl) rfl (fun w' hw' => by obtain ⟨q0, q1, q2⟩ := hw'; go_simp) S2 ?_
      simp only [Act.put, List.setIfInBounds_toArray, List.set_cons_zero, List.set_cons_succ]
      refine u_val (i := 13) (v := .slice (some ⟨w2.heap.size, 0, none⟩) 1 1) (w' := w2.alloc (.cells #[.string ⟨x.toArray⟩, .int .i64 (r.code.length : Int)] 39)) (some 43) (by kernel_rfl) rfl rfl rfl (by go_simp) S3 ?_
      simp only [Act.put, List.setIfInBounds_toArray, List.set_cons_zero, List.set_cons_succ]
      refine u_val (i := 14) (v := v') (w' := w3) (some 44) (by kernel_rfl) rfl rfl rfl (run_append_op rfl rfl rfl HA.out) r4 ?_
      simp only [Act.put, List.setIfInBounds_toArray, List.set_cons_zero, List.set_cons_succ]
      refine u_val (i := 15) (v := .pointer (some ⟨p, 0, none⟩)) (w' := w3) (some 45) (by kernel_rfl) rfl rfl rfl (by go_simp) r4 ?_
      simp only [Act.put, List.setIfInBounds_toArray, List.set_cons_zero, List.set_cons_succ]
      refine u_val (i := 16) (v := .pointer (some ⟨p, 1, none⟩)) (w' := w3) (some 46) (by kernel_rfl) rfl rfl rfl (by go_simp) r4 ?_
      simp only [Act.put, List.setIfInBounds_toArray, List.set_cons_zero, List.set_cons_succ]
      obtain ⟨sb, sn, sc, rfl⟩ := hform
      refine u_last (w' := w3.setCell ⟨p, 1, none⟩ (.slice sb sn sc)) (by kernel_rfl) rfl rfl rfl (by go_simp) (by kernel_rfl) ?_
      clear S2 S3 HA r4 r5 q1
      go_wp2_with fail
      go_ret
      exact ⟨H2.out.1, H2.out.2⟩
end Go.Proofs.YtkkmkfldldglgaaGreatDoor
