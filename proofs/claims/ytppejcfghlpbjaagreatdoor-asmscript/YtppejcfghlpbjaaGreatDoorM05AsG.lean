/-
  No statement of the seat is proved here. (Several texts in one: AsG, AsI, AsJ, AsK.)
-/
import Derived.Test.YtppejcfghlpbjaaGreatDoorM04AsQ
import Derived.Shelf.Strconv.Clone
import Derived.ScopeJumps

/- Walk of stand (package asm). No statement of the seat is proved here. -/
namespace Go.Proofs.YtppejcfghlpbjaaGreatDoor
open Go.RowKit Go.Shelf

theorem Gl.keepsB {w w' : World} {S : Nat → Prop} (h : Gl w) (k : Keeps S w w') (base : Nat) (hb : 0 < base ∧ lays147_ren.g 1 < base) (hS : ∀ q, S q → base ≤ q) : Gl w' := by
  obtain ⟨h1, m, h2⟩ := h
  refine ⟨h1.keeps k (fun e => by have := hS _ e; omega), m, ?_⟩
  have hlt : lays147_ren.g 1 < w.heap.size := World.block_lt_of_cell? _ _ h2
  rw [← h2]
  simp only [World.cell?]
  rw [k.block _ hlt (fun e => by have := hS _ e; omega)]
theorem run_mapUpdate_op {P : Program} {o : Oper} {a : Act} {w w' : World} {t : TypeId} {m x v : Operand} {vm vx vv : Value} (ho : o.op = .mapUpdate t m x v) (h1 : a.eval m = vm) (h2 : a.eval x = vx) (h3 : a.eval v = vv) (hrun : (Instr.mapUpdate t vm vx vv).run P w = .ok () w') :
    (execOp a.eval o).run P w = .ok .skip w' := by
  simp [execOp, ho, h1, h2, h3, hrun, Result.andThen]
theorem Keeps.cell {S : Nat → Prop} {w w' : World} (k : Keeps S w w') {a : Addr} {v : Value} (hs : ¬ S a.block) (h : w.cell? a = some v) : w'.cell? a = some v := by
  have hb := World.block_lt_of_cell? _ _ h
  unfold World.cell? at h ⊢
  rw [k.block _ hb hs]
  exact h
theorem ROwn.ge {w : World} {base p m : Nat} {vc vl vu : Value} {tag : Nat → Nat} {r : Rd} (h : RdIs w base p m vc vl vu tag r) {k : Nat} (hk : ROwn p m vc vl vu k) : base ≤ k := by
  rcases hk with e | e | e | e | e
  · subst e; exact h.bp
  · subst e; exact h.bm
  · exact (own_block h.code.own e).2
  · exact (own_block h.labs e).2
  · exact (own_block h.uses e).2

theorem clone_any (l : List UInt8) (hl : l.length < 4294967281) (w : World) : Calls Tryz.prog 99 #[.string ⟨l.toArray⟩] w fun e w' => e = .returned (.string ⟨l.toArray⟩) ∧ Keeps (fun _ => False) w w' := by
  have C := fun w => Any.stringslite_Clone lays316 ⟨l.toArray⟩ w (by rw [size_of]; omega)
  go_enter Tryz.func99, Tryz.ntmps99
  go_wp2_with fail
  refine (C _).mono ?_
  rintro e w1 ⟨rfl, k1⟩
  have kk := keeps_below k1
  go_wp2_with fail
  go_ret
  exact ⟨rfl, kk⟩

theorem own_form {w : World} {base size : Nat} {e : TypeId} {v : Value} {n : Nat} {xs : List Value} (h : w.ownsRow base e size v n xs) : ∃ b n c, v = .slice b n c := by
  rcases h.2 with ⟨rfl, _⟩ | ⟨g, cap, cur, rfl, _⟩
  · exact ⟨_, _, _, rfl⟩
  · exact ⟨_, _, _, rfl⟩
/-- What stand answers. -/
def StPost (r : Rd) (x : List UInt8) (S : Nat → Prop) (base p : Nat) (w : World) (e : Ending) (w' : World) : Prop := match standR r x with
  | some r' => e = .returned (.bool true) ∧ RdAt w' (fun k => S k ∨ w.heap.size ≤ k) base p r'
  | none => e = .returned (.bool false) ∧ RdAt w' S base p r

set_option maxRecDepth 100000 in
set_option maxHeartbeats 4000000 in
theorem stand_any (x : List UInt8) (hx : x.length < 4294967281) (w : World) (S : Nat → Prop) (base p : Nat) (r : Rd) (hw : Gl w) (h : RdAt w S base p r) (hlb : (r.labs.length + 1) * 24 ≤ 140737488355328) (hcb : r.code.length ≤ 4294967296) :
    Calls Tryz.prog 73 #[.pointer (some ⟨p, 0, none⟩), .string ⟨x.toArray⟩] w fun e w' => StPost r x S base p w e w' ∧ Keeps S w w' := by
  have hmx : Tryz.prog.follows .mixedOrders = true := by kernel_rfl
  have HW : Hid (RdAt w S base p r) := h
  obtain ⟨m, vc, vl, vu, tag, hI, hS⟩ := h
  have IL := isLabel_any x w hw.nms
  obtain ⟨bc, cc, rfl⟩ := hI.code.form
  have c0 : w.cell? ⟨p, 0, none⟩ = some (.slice bc r.code.length cc) := cell_of_block hI.box 0
  have c1 : w.cell? ⟨p, 1, none⟩ = some vl := cell_of_block hI.box 1
  have c2 : w.cell? ⟨p, 2, none⟩ = some (.map (some m)) := cell_of_block hI.box 2
  have LK := hI.map.look x
  cases hlab : labB x
  · have hP : StPost r x S base p w (.returned (.bool false)) w := by
      unfold StPost standR
      rw [if_neg (by simp [hlab])]
      exact ⟨rfl, HW.out⟩
    rw [hlab] at IL
    clear hI LK
    go_enter Tryz.func73, Tryz.ntmps73
    go_wp2_with fail
    refine IL.mono ?_
    rintro e w1 ⟨rfl, rfl⟩
    go_wp2_with fail
    go_ret
    exact ⟨hP, Keeps.refl _ _⟩
  · rw [hlab] at IL
    by_cases hin : x ∈ r.labs.map (·.1)
    · have hP : StPost r x S base p w (.returned (.bool false)) w := by
        unfold StPost standR
        rw [if_neg (by simp only [not_and, Classical.not_not]; exact fun _ => hin)]
        exact ⟨rfl, HW.out⟩
      obtain ⟨q, hq, rfl⟩ := List.mem_map.1 hin
      unfold lookV at LK
      rw [lookup_mem hI.map.nodup hq] at LK
      clear hI
      go_enter Tryz.func73, Tryz.ntmps73
      go_wp2_with fail
      refine IL.mono ?_
      rintro e w1 ⟨rfl, rfl⟩
      go_wp2_with fail
      go_ret
      exact ⟨hP, Keeps.refl _ _⟩
    · unfold lookV at LK
      rw [lookup_none hin] at LK
      have npm : p ≠ m := fun e => by have := hI.tp; rw [e, hI.tm] at this; cases this
      obtain ⟨w1, u1, hm1, k1⟩ := (hI.map.keeps ((Keeps.refl (fun _ => False) w).drew) (fun f => f)).put x r.code.length hin
      have hU : Hid (_ = _) := u1
      have kd1 : Keeps (fun k => k = m) w w1 := ((Keeps.refl (fun k => k = m) w).drew).trans k1
      have S1 : w1.cell? ⟨p, 0, none⟩ = some (.slice bc r.code.length cc) ∧ w1.cell? ⟨p, 1, none⟩ = some vl ∧ w1.cell? ⟨p, 2, none⟩ = some (.map (some m)) := ⟨kd1.cell npm c0, kd1.cell npm c1, kd1.cell npm c2⟩
      have C := clone_any x hx w1.drew
      have HR : Hid (∀ w2, Keeps (fun _ => False) w1.drew w2 → ∃ v' w3, (Builtin.append_ #[78, 78] 78 #[vl, .slice (some ⟨w2.heap.size, 0, none⟩) 1 1]).run Tryz.prog (w2.alloc (.cells #[.string ⟨x.toArray⟩, .int .i64 (r.code.length : Int)] 157)) = .ok v' w3 ∧
          StPost r x S base p w (.returned (.bool true)) (w3.setCell ⟨p, 1, none⟩ v') ∧ Keeps S w (w3.setCell ⟨p, 1, none⟩ v') ∧ (w3.cell? ⟨p, 0, none⟩ = some (.slice bc r.code.length cc) ∧ w3.cell? ⟨p, 1, none⟩ = some vl ∧ w3.cell? ⟨p, 2, none⟩ = some (.map (some m))) ∧ w3.frozen? ⟨p, 1, none⟩ = false ∧ ∃ b n c, v' = .slice b n c) := fun w2 k2 => by
        have kk : Keeps (fun k => k = m) w w2 := kd1.trans (((Keeps.refl (fun k => k = m) w1).drew).trans (k2.mono (fun _ _ f => f.elim)))
        have n2 : vl.ownBlock ≠ some m := fun e => by have := hI.tl m e; rw [hI.tm] at this; cases this
        have n1 : vl.ownBlock ≠ some p := fun e => by have := hI.tl p e; rw [hI.tp] at this; cases this
        have hrow := own_keeps hI.labs kk (fun g e f => by subst f; exact n2 e)
        obtain ⟨v', w3, r1, r2, r3⟩ := own_push1 (P := Tryz.prog) w2 base 78 78 157 _ 2 24 Tryz.underlying78 info_lab rfl (by decide) vl _ _ hrow [.string ⟨x.toArray⟩, .int .i64 (r.code.length : Int)] rfl (by simp [Value.oneCell']) hlb (by decide) (Nat.le_trans hI.code.base kk.size)
        have hm2 : MpAt w2 m (r.labs ++ [(x, r.code.length)]) := hm1.keeps (((Keeps.refl (fun _ => False) w1).drew).trans k2) (fun f => f)
        obtain ⟨tag', q1, q2, q3⟩ := hI.label hm2 kk r2 r3
        have hk3 : ∀ i v, w.cell? ⟨p, i, none⟩ = some v → w3.cell? ⟨p, i, none⟩ = some v := fun i v hv => r3.keeps.cell n1 (kk.cell npm hv)
        refine ⟨v', w3, r1, ?_, q3.mono (fun k _ e => hS k e), ⟨hk3 0 _ c0, hk3 1 _ c1, hk3 2 _ c2⟩, ?_⟩
        · unfold StPost standR
          rw [if_pos ⟨hlab, hin⟩]
          refine ⟨rfl, m, _, v', vu, tag', q1, fun k hk => ?_⟩
          rcases q2 k hk with e | e
          · exact .inl (hS k e)
          · exact .inr e
        · have hb : w3.heap[p]? = some (.cells #[.slice bc r.code.length cc, vl, .map (some m), vu] 82 (0, 0)) := (r3.keeps.block p (Nat.lt_of_lt_of_le (lt_of_block hI.box) kk.size) n1).trans ((kk.block p (lt_of_block hI.box) npm).trans hI.box)
          exact ⟨frozen_of_block hb 1, own_form r2⟩
      have Sd : ∀ W : World, (W.cell? ⟨p, 0, none⟩ = some (.slice bc r.code.length cc) ∧ W.cell? ⟨p, 1, none⟩ = some vl ∧ W.cell? ⟨p, 2, none⟩ = some (.map (some m))) → (W.drew.cell? ⟨p, 0, none⟩ = some (.slice bc r.code.length cc) ∧ W.drew.cell? ⟨p, 1, none⟩ = some vl ∧ W.drew.cell? ⟨p, 2, none⟩ = some (.map (some m))) := fun W h => h
      have S0 := Sd w ⟨c0, c1, c2⟩
      have S1d := Sd w1 S1
      have Sk : Hid (∀ w2, Keeps (fun _ => False) w1.drew w2 → (w2.cell? ⟨p, 0, none⟩ = some (.slice bc r.code.length cc) ∧ w2.cell? ⟨p, 1, none⟩ = some vl ∧ w2.cell? ⟨p, 2, none⟩ = some (.map (some m)))) := fun w2 k2 => ⟨k2.cell (fun f => f) S1d.1, k2.cell (fun f => f) S1d.2.1, k2.cell (fun f => f) S1d.2.2⟩
      have hcl : (r.code.length : Int) ≤ 4294967296 := by omega
      clear hI hm1 k1 kd1 u1 HW hS npm
      go_enter Tryz.func73, Tryz.ntmps73
      go_wp2_with fail
      refine IL.mono ?_
      rintro e w0 ⟨rfl, hw0⟩
      subst hw0
      go_wp2_with fail
      refine wp_until (S := fun W : World => W.cell? ⟨p, 0, none⟩ = some (.slice bc r.code.length cc) ∧ W.cell? ⟨p, 1, none⟩ = some vl ∧ W.cell? ⟨p, 2, none⟩ = some (.map (some m))) 10 11 rfl hmx ?_
      simp only [Array.replicate_succ, Array.replicate_zero, List.push_toArray, List.nil_append, List.cons_append]
      refine u_take (i := 0) (v := (.pointer (some ⟨p, 0, none⟩))) 20 rfl rfl (by kernel_rfl) (by kernel_rfl) (by kernel_rfl) (by kernel_rfl) rfl (fun w' hw' => by obtain ⟨q0, q1, q2⟩ := hw'; go_simp) S0 ?_
      simp only [Act.put, List.setIfInBounds_toArray, List.set_cons_zero, List.set_cons_succ]
      refine u_take (i := 1) (v := (.pointer (some ⟨p, 0, none⟩))) 21 rfl rfl (by kernel_rfl) (by kernel_rfl) (by kernel_rfl) (by kernel_rfl) rfl (fun w' hw' => by obtain ⟨q0, q1, q2⟩ := hw'; go_simp) S0 ?_
      simp only [Act.put, List.setIfInBounds_toArray, List.set_cons_zero, List.set_cons_succ]
      refine u_take (i := 2) (v := (.pointer (some ⟨p, 2, none⟩))) 22 rfl rfl (by kernel_rfl) (by kernel_rfl) (by kernel_rfl) (by kernel_rfl) rfl (fun w' hw' => by obtain ⟨q0, q1, q2⟩ := hw'; go_simp) S0 ?_
      simp only [Act.put, List.setIfInBounds_toArray, List.set_cons_zero, List.set_cons_succ]
      refine u_take (i := 3) (v := (.map (some m))) 23 rfl rfl (by kernel_rfl) (by kernel_rfl) (by kernel_rfl) (by kernel_rfl) rfl (fun w' hw' => by obtain ⟨q0, q1, q2⟩ := hw'; go_simp) S0 ?_
      simp only [Act.put, List.setIfInBounds_toArray, List.set_cons_zero, List.set_cons_succ]
      refine u_take (i := 4) (v := (.string ⟨x.toArray⟩)) 24 rfl rfl (by kernel_rfl) (by kernel_rfl) (by kernel_rfl) (by kernel_rfl) rfl (fun w' hw' => by obtain ⟨q0, q1, q2⟩ := hw'; go_simp) S0 ?_
      simp only [Act.put, List.setIfInBounds_toArray, List.set_cons_zero, List.set_cons_succ]
      refine u_take (i := 5) (v := (.pointer (some ⟨p, 0, none⟩))) 25 rfl rfl (by kernel_rfl) (by kernel_rfl) (by kernel_rfl) (by kernel_rfl) rfl (fun w' hw' => by obtain ⟨q0, q1, q2⟩ := hw'; go_simp) S0 ?_
      simp only [Act.put, List.setIfInBounds_toArray, List.set_cons_zero, List.set_cons_succ]
      refine u_take (i := 6) (v := (.pointer (some ⟨p, 0, none⟩))) 26 rfl rfl (by kernel_rfl) (by kernel_rfl) (by kernel_rfl) (by kernel_rfl) rfl (fun w' hw' => by obtain ⟨q0, q1, q2⟩ := hw'; go_simp) S0 ?_
      simp only [Act.put, List.setIfInBounds_toArray, List.set_cons_zero, List.set_cons_succ]
      refine u_take (i := 7) (v := (.pointer (some ⟨p, 0, none⟩))) 27 rfl rfl (by kernel_rfl) (by kernel_rfl) (by kernel_rfl) (by kernel_rfl) rfl (fun w' hw' => by obtain ⟨q0, q1, q2⟩ := hw'; go_simp) S0 ?_
      simp only [Act.put, List.setIfInBounds_toArray, List.set_cons_zero, List.set_cons_succ]
      refine u_take (i := 8) (v := (.slice bc r.code.length cc)) 28 rfl rfl (by kernel_rfl) (by kernel_rfl) (by kernel_rfl) (by kernel_rfl) rfl (fun w' hw' => by obtain ⟨q0, q1, q2⟩ := hw'; go_simp) S0 ?_
      simp only [Act.put, List.setIfInBounds_toArray, List.set_cons_zero, List.set_cons_succ]
      refine u_take (i := 9) (v := (.int .i64 (r.code.length : Int))) 29 rfl rfl (by kernel_rfl) (by kernel_rfl) (by kernel_rfl) (by kernel_rfl) rfl (fun w' hw' => by obtain ⟨q0, q1, q2⟩ := hw'; go_simp) S0 ?_
      simp only [Act.put, List.setIfInBounds_toArray, List.set_cons_zero, List.set_cons_succ]
      refine u_last (w' := w1) (by kernel_rfl) rfl rfl rfl (run_mapUpdate_op rfl rfl rfl rfl hU.out) (by kernel_rfl) ?_
      clear S0 hU c0 c1 c2 LK
      go_wp2_with fail
      refine wp_until (S := fun W : World => W.cell? ⟨p, 0, none⟩ = some (.slice bc r.code.length cc) ∧ W.cell? ⟨p, 1, none⟩ = some vl ∧ W.cell? ⟨p, 2, none⟩ = some (.map (some m))) 17 18 rfl hmx ?_
      simp only [Array.replicate_succ, Array.replicate_zero, List.push_toArray, List.nil_append, List.cons_append]
      refine u_take (i := 0) (v := (.pointer (some ⟨p, 0, none⟩))) 30 rfl rfl (by kernel_rfl) (by kernel_rfl) (by kernel_rfl) (by kernel_rfl) rfl (fun w' hw' => by obtain ⟨q0, q1, q2⟩ := hw'; go_simp) S1d ?_
      simp only [Act.put, List.setIfInBounds_toArray, List.set_cons_zero, List.set_cons_succ]
      refine u_take (i := 1) (v := (.pointer (some ⟨p, 0, none⟩))) 31 rfl rfl (by kernel_rfl) (by kernel_rfl) (by kernel_rfl) (by kernel_rfl) rfl (fun w' hw' => by obtain ⟨q0, q1, q2⟩ := hw'; go_simp) S1d ?_
      simp only [Act.put, List.setIfInBounds_toArray, List.set_cons_zero, List.set_cons_succ]
      refine u_take (i := 2) (v := (.pointer (some ⟨p, 0, none⟩))) 32 rfl rfl (by kernel_rfl) (by kernel_rfl) (by kernel_rfl) (by kernel_rfl) rfl (fun w' hw' => by obtain ⟨q0, q1, q2⟩ := hw'; go_simp) S1d ?_
      simp only [Act.put, List.setIfInBounds_toArray, List.set_cons_zero, List.set_cons_succ]
      refine u_take (i := 3) (v := (.pointer (some ⟨p, 1, none⟩))) 33 rfl rfl (by kernel_rfl) (by kernel_rfl) (by kernel_rfl) (by kernel_rfl) rfl (fun w' hw' => by obtain ⟨q0, q1, q2⟩ := hw'; go_simp) S1d ?_
      simp only [Act.put, List.setIfInBounds_toArray, List.set_cons_zero, List.set_cons_succ]
      refine u_take (i := 4) (v := vl) 34 rfl rfl (by kernel_rfl) (by kernel_rfl) (by kernel_rfl) (by kernel_rfl) rfl (fun w' hw' => by obtain ⟨q0, q1, q2⟩ := hw'; go_simp) S1d ?_
      simp only [Act.put, List.setIfInBounds_toArray, List.set_cons_zero, List.set_cons_succ]
      refine u_take (i := 5) (v := (.string ⟨x.toArray⟩)) 35 rfl rfl (by kernel_rfl) (by kernel_rfl) (by kernel_rfl) (by kernel_rfl) rfl (fun w' hw' => by obtain ⟨q0, q1, q2⟩ := hw'; go_simp) S1d ?_
      simp only [Act.put, List.setIfInBounds_toArray, List.set_cons_zero, List.set_cons_succ]
      refine u_take (i := 7) (v := (.pointer (some ⟨p, 0, none⟩))) 37 rfl rfl (by kernel_rfl) (by kernel_rfl) (by kernel_rfl) (by kernel_rfl) rfl (fun w' hw' => by obtain ⟨q0, q1, q2⟩ := hw'; go_simp) S1d ?_
      simp only [Act.put, List.setIfInBounds_toArray, List.set_cons_zero, List.set_cons_succ]
      refine u_take (i := 8) (v := (.pointer (some ⟨p, 0, none⟩))) 38 rfl rfl (by kernel_rfl) (by kernel_rfl) (by kernel_rfl) (by kernel_rfl) rfl (fun w' hw' => by obtain ⟨q0, q1, q2⟩ := hw'; go_simp) S1d ?_
      simp only [Act.put, List.setIfInBounds_toArray, List.set_cons_zero, List.set_cons_succ]
      refine u_take (i := 9) (v := (.pointer (some ⟨p, 0, none⟩))) 39 rfl rfl (by kernel_rfl) (by kernel_rfl) (by kernel_rfl) (by kernel_rfl) rfl (fun w' hw' => by obtain ⟨q0, q1, q2⟩ := hw'; go_simp) S1d ?_
      simp only [Act.put, List.setIfInBounds_toArray, List.set_cons_zero, List.set_cons_succ]
      refine u_take (i := 10) (v := (.slice bc r.code.length cc)) 40 rfl rfl (by kernel_rfl) (by kernel_rfl) (by kernel_rfl) (by kernel_rfl) rfl (fun w' hw' => by obtain ⟨q0, q1, q2⟩ := hw'; go_simp) S1d ?_
      simp only [Act.put, List.setIfInBounds_toArray, List.set_cons_zero, List.set_cons_succ]
      refine u_take (i := 11) (v := (.int .i64 (r.code.length : Int))) 41 rfl rfl (by kernel_rfl) (by kernel_rfl) (by kernel_rfl) (by kernel_rfl) rfl (fun w' hw' => by obtain ⟨q0, q1, q2⟩ := hw'; go_simp) S1d ?_
      simp only [Act.put, List.setIfInBounds_toArray, List.set_cons_zero, List.set_cons_succ]
      refine u_call (i := 6) (f := 99) (args := #[.string ⟨x.toArray⟩]) 36 (by kernel_rfl) rfl rfl rfl (by go_simp) (C.mono ?_)
      rintro e w2 ⟨rfl, k2⟩
      obtain ⟨v', w3, r1, r2, r3, r4, r5, hform⟩ := HR.out w2 k2
      have HA : Hid (_ = _) := r1
      have S2 := Sk.out w2 k2
      have S3 : ((w2.alloc (.cells #[.string ⟨x.toArray⟩, .int .i64 (r.code.length : Int)] 157)).cell? ⟨p, 0, none⟩ = some (.slice bc r.code.length cc) ∧ (w2.alloc (.cells #[.string ⟨x.toArray⟩, .int .i64 (r.code.length : Int)] 157)).cell? ⟨p, 1, none⟩ = some vl ∧ (w2.alloc (.cells #[.string ⟨x.toArray⟩, .int .i64 (r.code.length : Int)] 157)).cell? ⟨p, 2, none⟩ = some (.map (some m))) := by
        have ka := (Keeps.refl (fun _ => False) w2).alloc (.cells #[.string ⟨x.toArray⟩, .int .i64 (r.code.length : Int)] 157)
        exact ⟨ka.cell (fun f => f) S2.1, ka.cell (fun f => f) S2.2.1, ka.cell (fun f => f) S2.2.2⟩
      have H2 : Hid (StPost r x S base p w0 (.returned (.bool true)) (w3.setCell ⟨p, 1, none⟩ v') ∧ Keeps S w0 (w3.setCell ⟨p, 1, none⟩ v')) := ⟨r2, r3⟩
      have q1 := r4.2.1
      clear HR Sk C r1 r2 r3 S1 S1d Sd
      refine ⟨_, rfl, S2, ?_⟩
      simp only [Act.put, List.setIfInBounds_toArray, List.set_cons_zero, List.set_cons_succ]
      refine u_take (i := 12) (v := (.agg #[.string ⟨x.toArray⟩, .int .i64 (r.code.length : Int)])) 42 rfl rfl (by kernel_rfl) (by kernel_rfl) (by kernel_rfl) (by kernel_rfl) rfl (fun w' hw' => by obtain ⟨q0, q1, q2⟩ := hw'; go_simp) S2 ?_
      simp only [Act.put, List.setIfInBounds_toArray, List.set_cons_zero, List.set_cons_succ]
      refine u_val (i := 13) (v := .slice (some ⟨w2.heap.size, 0, none⟩) 1 1) (w' := w2.alloc (.cells #[.string ⟨x.toArray⟩, .int .i64 (r.code.length : Int)] 157)) (some 43) (by kernel_rfl) rfl rfl rfl (by go_simp) S3 ?_
      simp only [Act.put, List.setIfInBounds_toArray, List.set_cons_zero, List.set_cons_succ]
      refine u_val (i := 14) (v := v') (w' := w3) (some 44) (by kernel_rfl) rfl rfl rfl (run_append_op rfl rfl rfl HA.out) r4 ?_
      simp only [Act.put, List.setIfInBounds_toArray, List.set_cons_zero, List.set_cons_succ]
      refine u_val (i := 15) (v := .pointer (some ⟨p, 0, none⟩)) (w' := w3) (some 45) (by kernel_rfl) rfl rfl rfl (by go_simp) r4 ?_
      simp only [Act.put, List.setIfInBounds_toArray, List.set_cons_zero, List.set_cons_succ]
      refine u_val (i := 16) (v := .pointer (some ⟨p, 1, none⟩)) (w' := w3) (some 46) (by kernel_rfl) rfl rfl rfl (by go_simp) r4 ?_
      simp only [Act.put, List.setIfInBounds_toArray, List.set_cons_zero, List.set_cons_succ]
      obtain ⟨sb, sn, sc, rfl⟩ := hform
      refine u_last (w' := w3.setCell ⟨p, 1, none⟩ (.slice sb sn sc)) (by kernel_rfl) rfl rfl rfl (by go_simp) (by kernel_rfl) ?_
      clear S2 S3 HA r4 r5 q1
      go_wp2_with fail
      go_ret
      exact ⟨H2.out.1, H2.out.2⟩
end Go.Proofs.YtppejcfghlpbjaaGreatDoor


/- The record with a use more, with an instruction more. No statement of the seat is proved here. -/
namespace Go.Proofs.YtppejcfghlpbjaaGreatDoor
open Go.RowKit Go.Shelf

/-- A row of the record has grown, and is laid into it. -/
theorem RdIs.use {w w1 w2 : World} {base p m : Nat} {vc vl vu v' : Value} {tag : Nat → Nat} {r : Rd} {u : List UInt8 × Nat × Nat} (h : RdIs w base p m vc vl vu tag r) (k1 : Keeps (fun _ => False) w w1)
    (hrow : w2.ownsRow base 112 3 v' (r.uses.length + 1) (useV r.uses ++ [keyV u.1, .int .i64 (u.2.1 : Int), .int .i64 (u.2.2 : Int)])) (hg : Grew w1 w2 vu v') :
    ∃ tag', RdIs (w2.setCell ⟨p, 3, none⟩ v') base p m vc vl v' tag' { r with uses := r.uses ++ [u] } ∧ (∀ k, ROwn p m vc vl v' k → ROwn p m vc vl vu k ∨ w.heap.size ≤ k) ∧ Keeps (ROwn p m vc vl vu) w (w2.setCell ⟨p, 3, none⟩ v') := by
  have hp := lt_of_block h.box
  obtain ⟨es, cl, hmb, _⟩ := h.map.ex
  have hml := lt_of_block hmb
  have n1 : vu.ownBlock ≠ some p := fun e => by have := h.tu p e; rw [h.tp] at this; cases this
  have n2 : vu.ownBlock ≠ some m := fun e => by have := h.tu m e; rw [h.tm] at this; cases this
  have npm : p ≠ m := fun e => by have := h.tp; rw [e, h.tm] at this; cases this
  have k2 := hg.keeps
  have kk : Keeps (fun k => vu.ownBlock = some k) w w2 := (k1.mono (fun k _ e => e.elim)).trans k2
  have ks : Keeps (fun k => k = p) w2 (w2.setCell ⟨p, 3, none⟩ v') := (Keeps.refl (fun k => k = p) w2).setCell (p := ⟨p, 3, none⟩) (.inr rfl) v'
  have hv'p : v'.ownBlock ≠ some p := fun e => by
    rcases hg.own with q | q
    · exact n1 (q ▸ e)
    · have := q p e; have := k1.size; omega
  have hb2 : w2.heap[p]? = some (.cells #[vc, vl, .map (some m), vu] 82 (0, 0)) := (kk.block p hp n1).trans h.box
  have hm2 : MpAt w2 m r.labs := h.map.keeps kk n2
  have hnew : ∀ g, v'.ownBlock = some g → vu.ownBlock = some g ∨ w.heap.size ≤ g := fun g e => by
    rcases hg.own with q | q
    · exact .inl (q ▸ e)
    · have := q g e; have := k1.size; exact .inr (by omega)
  have hcode : Irs w2 base vc r.code := h.code.keeps kk (fun g e f => by have a := h.tc _ e; rw [h.tu _ f] at a; cases a)
  have hlabs : w2.ownsRow base 157 2 vl r.labs.length (labV r.labs) := own_keeps h.labs kk (fun g e f => by have a := h.tl _ e; rw [h.tu _ f] at a; cases a)
  refine ⟨fun k => if w.heap.size ≤ k then 4 else tag k, ⟨?_, ?_, ?_, ?_, ?_, ?_, ?_, ?_, ?_, ?_, h.wf, h.bp, h.bm, h.pm⟩, ?_, ?_⟩
  · have := block_set hb2 3 v'
    exact this
  · exact hcode.keeps ks (fun g e f => by subst f; have := h.tc _ e; rw [h.tp] at this; cases this)
  · exact own_keeps hlabs ks (fun g e f => by subst f; have := h.tl _ e; rw [h.tp] at this; cases this)
  · have := own_keeps hrow ks (fun g e f => by subst f; exact hv'p e)
    simpa [useV] using this
  · exact hm2.keeps ks (fun e => npm e.symm)
  · rw [if_neg (by omega)]; exact h.tp
  · rw [if_neg (by omega)]; exact h.tm
  · intro g e
    have := ownBlock_lt h.code.own e
    rw [if_neg (by omega)]; exact h.tc g e
  · intro g e
    have := ownBlock_lt h.labs e
    rw [if_neg (by omega)]; exact h.tl g e
  · intro g e
    split
    · rfl
    · rcases hnew g e with q | q
      · exact h.tu g q
      · omega
  · intro k hk
    rcases hk with e | e | e | e | e
    · exact .inl (.inl e)
    · exact .inl (.inr (.inl e))
    · exact .inl (.inr (.inr (.inl e)))
    · exact .inl (.inr (.inr (.inr (.inl e))))
    · rcases hnew k e with q | q
      · exact .inl (.inr (.inr (.inr (.inr q))))
      · exact .inr q
  · exact (kk.mono (fun k _ e => .inr (.inr (.inr (.inr e))))).trans (ks.mono (fun k _ e => .inl e))
/-- A row of the record has grown, and is laid into it. -/
theorem RdIs.ins {w w1 w2 : World} {base p m : Nat} {vc vl vu v' : Value} {tag : Nat → Nat} {r : Rd} {i : I5} (hi : i.wf) (h : RdIs w base p m vc vl vu tag r) (k1 : Keeps (fun _ => False) w w1)
    (hrow : Irs w2 base v' (r.code ++ [i])) (hg : Grew w1 w2 vc v') :
    ∃ tag', RdIs (w2.setCell ⟨p, 0, none⟩ v') base p m v' vl vu tag' { r with code := r.code ++ [i] } ∧ (∀ k, ROwn p m v' vl vu k → ROwn p m vc vl vu k ∨ w.heap.size ≤ k) ∧ Keeps (ROwn p m vc vl vu) w (w2.setCell ⟨p, 0, none⟩ v') := by
  have hp := lt_of_block h.box
  obtain ⟨es, cl, hmb, _⟩ := h.map.ex
  have hml := lt_of_block hmb
  have n1 : vc.ownBlock ≠ some p := fun e => by have := h.tc p e; rw [h.tp] at this; cases this
  have n2 : vc.ownBlock ≠ some m := fun e => by have := h.tc m e; rw [h.tm] at this; cases this
  have npm : p ≠ m := fun e => by have := h.tp; rw [e, h.tm] at this; cases this
  have k2 := hg.keeps
  have kk : Keeps (fun k => vc.ownBlock = some k) w w2 := (k1.mono (fun k _ e => e.elim)).trans k2
  have ks : Keeps (fun k => k = p) w2 (w2.setCell ⟨p, 0, none⟩ v') := (Keeps.refl (fun k => k = p) w2).setCell (p := ⟨p, 0, none⟩) (.inr rfl) v'
  have hv'p : v'.ownBlock ≠ some p := fun e => by
    rcases hg.own with q | q
    · exact n1 (q ▸ e)
    · have := q p e; have := k1.size; omega
  have hb2 : w2.heap[p]? = some (.cells #[vc, vl, .map (some m), vu] 82 (0, 0)) := (kk.block p hp n1).trans h.box
  have hm2 : MpAt w2 m r.labs := h.map.keeps kk n2
  have hnew : ∀ g, v'.ownBlock = some g → vc.ownBlock = some g ∨ w.heap.size ≤ g := fun g e => by
    rcases hg.own with q | q
    · exact .inl (q ▸ e)
    · have := q g e; have := k1.size; exact .inr (by omega)
  have hlabs : w2.ownsRow base 157 2 vl r.labs.length (labV r.labs) := own_keeps h.labs kk (fun g e f => by have a := h.tl _ e; rw [h.tc _ f] at a; cases a)
  have huses : w2.ownsRow base 112 3 vu r.uses.length (useV r.uses) := own_keeps h.uses kk (fun g e f => by have a := h.tu _ e; rw [h.tc _ f] at a; cases a)
  refine ⟨fun k => if w.heap.size ≤ k then 2 else tag k, ⟨?_, ?_, ?_, ?_, ?_, ?_, ?_, ?_, ?_, ?_, fun x hx => (List.mem_append.1 hx).elim (h.wf x) (fun e => by simp only [List.mem_singleton] at e; subst e; exact hi), h.bp, h.bm, h.pm⟩, ?_, ?_⟩
  · have := block_set hb2 0 v'
    exact this
  · exact hrow.keeps ks (fun g e f => by subst f; exact hv'p e)
  · exact own_keeps hlabs ks (fun g e f => by subst f; have := h.tl _ e; rw [h.tp] at this; cases this)
  · exact own_keeps huses ks (fun g e f => by subst f; have := h.tu _ e; rw [h.tp] at this; cases this)
  · exact hm2.keeps ks (fun e => npm e.symm)
  · rw [if_neg (by omega)]; exact h.tp
  · rw [if_neg (by omega)]; exact h.tm
  · intro g e
    split
    · rfl
    · rcases hnew g e with q | q
      · exact h.tc g q
      · omega
  · intro g e
    have := ownBlock_lt h.labs e
    rw [if_neg (by omega)]; exact h.tl g e
  · intro g e
    have := ownBlock_lt h.uses e
    rw [if_neg (by omega)]; exact h.tu g e
  · intro k hk
    rcases hk with e | e | e | e | e
    · exact .inl (.inl e)
    · exact .inl (.inr (.inl e))
    · rcases hnew k e with q | q
      · exact .inl (.inr (.inr (.inl q)))
      · exact .inr q
    · exact .inl (.inr (.inr (.inr (.inl e))))
    · exact .inl (.inr (.inr (.inr (.inr e))))
  · exact (kk.mono (fun k _ e => .inr (.inr (.inl e)))).trans (ks.mono (fun k _ e => .inl e))
end Go.Proofs.YtppejcfghlpbjaaGreatDoor


/- Walk of instruction (package asm). No statement of the seat is proved here. -/
namespace Go.Proofs.YtppejcfghlpbjaaGreatDoor
open Go.RowKit Go.Shelf

theorem bx156 : Builder.Extra Tryz.prog lays156_ren where
  sizeBuilder := by kernel_rfl
  liesBuilder := by kernel_rfl
  t5 := Tryz.underlying5
  a5 := Tryz.isAgg5
  z5 := Tryz.sizeOf5
  v5 := Tryz.zeroValue5
  infoByte := by kernel_rfl
  cellsByte := by kernel_rfl
  sizeByte := by kernel_rfl
  neB5 := by decide

theorem join_eq : ∀ ws : List (List UInt8), Lib.join ws [32] = joinB ws
  | [] => rfl
  | [x] => by rw [Lib.join_one]; simp [joinB]
  | x :: y :: t => by
    have ih := join_eq (y :: t)
    rw [Lib.join_cons] at ih ⊢
    simp only [joinB, Lib.joinTail, List.map_cons, List.flatten_cons, List.flatMap_cons] at ih ⊢
    rw [show (t.map (([32] : List UInt8) ++ ·)).flatten = t.flatMap (fun x => 32 :: x) by simp [List.flatMap]]
    simp
/-- Words of the call's own. -/
def Wds (w : World) (base : Nat) (v : Value) (ws : List (List UInt8)) : Prop := w.ownsRow base 9 1 v ws.length (ws.map keyV)
theorem Wds.cells {w : World} {base : Nat} {v : Value} {ws : List (List UInt8)} (h : Wds w base v ws) (hne : ws ≠ []) : ∃ g cap cur, v = .slice (some ⟨g, 0, none⟩) ws.length cap ∧ ws.length ≤ cap ∧ base ≤ g ∧ w.heap[g]? = some (.cells cur 9 (0, 0)) ∧ cur.size = cap ∧ (∀ j x, ws[j]? = some x → w.cell? ⟨g, j, none⟩ = some (.string ⟨x.toArray⟩)) := by
  rcases h.2 with ⟨_, h2⟩ | ⟨g, cap, cur, rfl, h1, h2, h3, h4, h5, h6⟩
  · exact absurd (List.length_eq_zero_iff.1 h2) hne
  · refine ⟨g, cap, cur, rfl, h3, h1, h2, by simpa using h5, fun j x hj => ?_⟩
    have hlt := (List.getElem?_eq_some_iff.1 hj).1
    rw [cell_of_block h2]
    have : (cur.toList.take (ws.length * 1))[j]? = some (keyV x) := by rw [h6]; simp [hj]
    rw [List.getElem?_take_of_lt (by omega)] at this
    simpa [keyV] using this
theorem join_any (ws : List (List UInt8)) (w : World) (g cap : Nat) (hg : g < w.heap.size) (hc : ∀ j x, ws[j]? = some x → w.cell? ⟨g, j, none⟩ = some (.string ⟨x.toArray⟩)) (hcap : ws.length ≤ cap) (hb : ws.length ≤ 140737488355328) (hl : (joinB ws).length < 4294967281) :
    Calls Tryz.prog 101 #[.slice (some ⟨g, 0, none⟩) ws.length cap, .string ⟨#[32]⟩] w fun e w' => e = .returned (.string ⟨(joinB ws).toArray⟩) ∧ Keeps (fun _ => False) w w' := by
  have e1 : ((ws.map fun x => (⟨x.toArray⟩ : ByteArray)).map (·.data.toList)) = ws := by simp [Function.comp_def]
  have h := Any.strings_Join lays156 bx156 g 0 cap (ws.map fun x => (⟨x.toArray⟩ : ByteArray)) ⟨#[32]⟩ w (fun j x hj => by
    rw [List.getElem?_map, Option.map_eq_some_iff] at hj
    obtain ⟨y, hy, rfl⟩ := hj
    rw [Nat.zero_add]; exact hc j y hy) hg (by simpa using hb) (by simpa using hcap) (by rw [e1]; show (Lib.join ws [32]).length ≤ _; rw [join_eq]; omega)
  rw [e1] at h
  simp only [List.length_map] at h
  refine h.mono fun e w' ⟨h1, h2⟩ => ⟨?_, keeps_below h2⟩
  rw [h1]
  show Ending.returned (.string ⟨(Lib.join ws [32]).toArray⟩) = _
  rw [join_eq]

theorem Keeps.transB {S T : Nat → Prop} {a b c : World} (h : Keeps S a b) (k : Keeps T b c) (hT : ∀ q, q < a.heap.size → T q → S q) : Keeps S a c :=
  ⟨k.os.trans h.os, k.tape.trans h.tape, k.output.trans h.output, Nat.le_trans h.size k.size, fun i hi hs => (k.block i (Nat.lt_of_lt_of_le hi h.size) (fun ht => hs (hT i hi ht))).trans (h.block i hi hs)⟩
/-- What instruction answers. -/
def InPost (r : Rd) (ws : List (List UInt8)) (n : Nat) (S : Nat → Prop) (base p : Nat) (w : World) (e : Ending) (w' : World) : Prop := match insR r ws n with
  | some r' => e = .returned (.bool true) ∧ RdAt w' (fun k => S k ∨ w.heap.size ≤ k) base p r'
  | none => e = .returned (.bool false)
theorem zeroed_noblank {ws : List (List UInt8)} (h : ∀ x ∈ ws, (32 : UInt8) ∉ x) : ∀ x ∈ zeroed ws, (32 : UInt8) ∉ x := by
  unfold zeroed
  split
  · intro x hx
    rcases List.mem_or_eq_of_mem_set hx with hx | rfl
    · exact h x hx
    · decide
  · exact h
theorem zeroed_ne {ws : List (List UInt8)} (h : ws ≠ []) : zeroed ws ≠ [] := by
  unfold zeroed
  split
  · simpa using h
  · exact h
theorem parse_wf {ws : List (List UInt8)} {i : I5} (h : parseW ws = some i) (hb : ∀ x ∈ ws, (32 : UInt8) ∉ x) : i.wf := by
  obtain ⟨h1, _, h3, h4⟩ := parseW_facts h hb
  obtain ⟨⟨a1, a2⟩, _, ⟨b1, b2⟩, ⟨c1, c2⟩, ⟨d1, d2⟩⟩ := formed_facts h1
  exact ⟨⟨by omega, by omega⟩, ⟨by omega, by omega⟩, ⟨by omega, by omega⟩, ⟨by omega, by omega⟩, h3, h4⟩

/-- The end of instruction's answer: the words are joined and read. -/
def TailAt (r : Rd) (ws : List (List UInt8)) (n : Nat) (S : Nat → Prop) (base p : Nat) (w0 : World) (gw : Nat) (w : World) : Prop :=
  RdAt w (fun k => S k ∨ w0.heap.size ≤ k) base p { r with uses := useR r ws n } ∧ Keeps (fun k => S k ∨ k = gw) w0 w
set_option maxRecDepth 100000 in
set_option maxHeartbeats 4000000 in
theorem tail_ins (r : Rd) (ws : List (List UInt8)) (n : Nat) (S : Nat → Prop) (base p : Nat) (w0 : World) (gw : Nat) (i : I5) (w w2 : World) (hT : TailAt r ws n S base p w0 gw w) (k2 : Keeps (fun _ => False) w w2) (hi : i.wf) (hp : parseW (zeroed ws) = some i) (hcb : (r.code.length + 1) * 40 ≤ 140737488355328) :
    ∃ bc cc, w2.cell? ⟨p, 0, none⟩ = some (.slice bc r.code.length cc) ∧ p < w2.heap.size ∧ ∀ w3 b, w3 = (w2.alloc (.cells b 45)) → ∃ v' w4 sb sn sc, v' = .slice sb sn sc ∧ (Builtin.append_ #[42, 42] 42 #[.slice bc r.code.length cc, .slice (some ⟨w3.drew.heap.size, 0, none⟩) 1 1]).run Tryz.prog (w3.drew.alloc (.cells #[.int .i64 i.op, .int .i64 i.a, .int .i64 i.b, .int .i64 i.c, .int .u64 i.n] 45)) = .ok v' w4 ∧
      w4.cell? ⟨p, 0, none⟩ = some (.slice bc r.code.length cc) ∧ w4.frozen? ⟨p, 0, none⟩ = false ∧ (∀ a v, w2.heap.size ≤ a.block → a.block < w3.heap.size → w3.cell? a = some v → w4.cell? a = some v) ∧
      InPost r ws n S base p w0 (.returned (.bool true)) (w4.setCell ⟨p, 0, none⟩ v') ∧ Keeps (fun k => S k ∨ k = gw) w0 (w4.setCell ⟨p, 0, none⟩ v') := by
  obtain ⟨⟨m, vc, vl, vu, tag, hI, hS⟩, hK⟩ := hT
  obtain ⟨bc, cc, rfl⟩ := hI.code.form
  have hI2 := hI.keeps k2 (fun _ _ f => f)
  refine ⟨bc, cc, cell_of_block hI2.box 0, lt_of_block hI2.box, fun w3 b hw3 => ?_⟩
  have k3 : Keeps (fun _ => False) w w3.drew := by rw [hw3]; exact (k2.alloc _).drew
  have hI3 := hI.keeps k3 (fun _ _ f => f)
  obtain ⟨v', w4, r1, r2, r3⟩ := hI3.code.push2 i hi hcb
  obtain ⟨tag', q1, q2, q3⟩ := hI.ins hi k3 r2 r3
  obtain ⟨sb, sn, sc, hform⟩ := own_form r2.own
  have n1 : (Value.slice bc r.code.length cc).ownBlock ≠ some p := fun e => by have := hI.tc p e; rw [hI.tp] at this; cases this
  have hb4 : w4.heap[p]? = some (.cells #[.slice bc r.code.length cc, vl, .map (some m), vu] 82 (0, 0)) := (r3.keeps.block p (lt_of_block hI3.box) n1).trans hI3.box
  refine ⟨v', w4, sb, sn, sc, hform, r1, cell_of_block hb4 0, frozen_of_block hb4 0, fun a v h1 h2 h3 => ?_, ?_, ?_⟩
  · refine r3.keeps.cell (fun e => ?_) h3
    have := ownBlock_lt hI2.code.own e
    omega
  · unfold InPost insR
    rw [hp]
    refine ⟨rfl, m, v', vl, vu, tag', q1, fun k hk => ?_⟩
    rcases q2 k hk with e | e
    · exact hS k e
    · have := hK.size; exact .inr (by omega)
  · refine hK.transB q3 (fun k hk e => ?_)
    rcases hS k e with q | q
    · exact .inl q
    · omega

/-- The use of a label is kept, and 0 laid into its place. -/
theorem use_step (r : Rd) (ws : List (List UInt8)) (n k : Nat) (S : Nat → Prop) (base p g cap : Nat) (cur : Array Value) (w w1 : World) (hw : Gl w) (hbb : 0 < base ∧ lays147_ren.g 1 < base) (hSb : ∀ q, S q → base ≤ q) (h : RdAt w S base p r) (k1 : Keeps (fun _ => False) w w1) (hk : ws.length = k + 1) (hu : usesB ws = true) (hap : ¬ S g) (hgb : base ≤ g)
    (hblk : w.heap[g]? = some (.cells cur 9 (0, 0))) (hcs : cur.size = cap) (hcap : ws.length ≤ cap) (hcell : ∀ j x, ws[j]? = some x → w.cell? ⟨g, j, none⟩ = some (.string ⟨x.toArray⟩)) (hub : (r.uses.length + 1) * 32 ≤ 140737488355328) :
    ∃ bc cc vu, (w1.drew.cell? ⟨p, 0, none⟩ = some (.slice bc r.code.length cc) ∧ w1.drew.cell? ⟨p, 3, none⟩ = some vu) ∧ ∃ v' w4 sb sn sc, v' = .slice sb sn sc ∧ (Builtin.append_ #[80, 80] 80 #[vu, .slice (some ⟨w1.drew.heap.size, 0, none⟩) 1 1]).run Tryz.prog (w1.drew.alloc (.cells #[.string ⟨(lastW ws).toArray⟩, .int .i64 (r.code.length : Int), .int .i64 (n : Int)] 112)) = .ok v' w4 ∧
      (w4.cell? ⟨p, 0, none⟩ = some (.slice bc r.code.length cc) ∧ w4.cell? ⟨p, 3, none⟩ = some vu) ∧ w4.frozen? ⟨p, 3, none⟩ = false ∧
      (w4.setCell ⟨p, 3, none⟩ v').cell? ⟨g, k, none⟩ = some (.string ⟨(lastW ws).toArray⟩) ∧ (w4.setCell ⟨p, 3, none⟩ v').frozen? ⟨g, k, none⟩ = false ∧
      TailAt r ws n S base p w g ((w4.setCell ⟨p, 3, none⟩ v').setCell ⟨g, k, none⟩ (.string ⟨#[48]⟩)) ∧ Gl ((w4.setCell ⟨p, 3, none⟩ v').setCell ⟨g, k, none⟩ (.string ⟨#[48]⟩)) ∧ g < ((w4.setCell ⟨p, 3, none⟩ v').setCell ⟨g, k, none⟩ (.string ⟨#[48]⟩)).heap.size ∧
      ∀ j x, (zeroed ws)[j]? = some x → ((w4.setCell ⟨p, 3, none⟩ v').setCell ⟨g, k, none⟩ (.string ⟨#[48]⟩)).cell? ⟨g, j, none⟩ = some (.string ⟨x.toArray⟩) := by
  obtain ⟨m, vc, vl, vu, tag, hI, hS⟩ := h
  obtain ⟨bc, cc, rfl⟩ := hI.code.form
  have kd : Keeps (fun _ => False) w w1.drew := k1.drew
  have hI1 := hI.keeps kd (fun _ _ f => f)
  have hglt := lt_of_block hblk
  obtain ⟨v', w4, r1, r2, r3⟩ := own_push1 (P := Tryz.prog) w1.drew base 80 80 112 _ 3 32 Tryz.underlying80 info_use rfl (by decide) vu _ _ hI1.uses [.string ⟨(lastW ws).toArray⟩, .int .i64 (r.code.length : Int), .int .i64 (n : Int)] rfl (by simp [Value.oneCell']) hub (by decide) hI1.code.base
  obtain ⟨tag', q1, q2, q3⟩ := hI.use (u := (lastW ws, r.code.length, n)) kd r2 r3
  obtain ⟨sb, sn, sc, hform⟩ := own_form r2
  have n1 : vu.ownBlock ≠ some p := fun e => by have := hI.tu p e; rw [hI.tp] at this; cases this
  have ng : vu.ownBlock ≠ some g := fun e => hap (hS g (.inr (.inr (.inr (.inr e)))))
  have hgp : g ≠ p := fun e => hap (hS g (.inl e))
  have hb4 : w4.heap[p]? = some (.cells #[.slice bc r.code.length cc, vl, .map (some m), vu] 82 (0, 0)) := (r3.keeps.block p (lt_of_block hI1.box) n1).trans hI1.box
  have hg5 : (w4.setCell ⟨p, 3, none⟩ v').heap[g]? = some (.cells cur 9 (0, 0)) := (q3.block g hglt (fun e => hap (hS g e))).trans hblk
  have kS : Keeps S w (w4.setCell ⟨p, 3, none⟩ v') := q3.mono (fun q _ e => hS q e)
  have ks : Keeps (fun q => q = g) (w4.setCell ⟨p, 3, none⟩ v') ((w4.setCell ⟨p, 3, none⟩ v').setCell ⟨g, k, none⟩ (.string ⟨#[48]⟩)) := (Keeps.refl (fun q => q = g) _).setCell (p := ⟨g, k, none⟩) (.inr rfl) _
  have kT : Keeps (fun q => S q ∨ q = g) w ((w4.setCell ⟨p, 3, none⟩ v').setCell ⟨g, k, none⟩ (.string ⟨#[48]⟩)) := (kS.mono (fun _ _ e => .inl e)).trans (ks.mono (fun _ _ e => .inr e))
  have hlastE : ws[k]? = some (lastW ws) := by
    unfold lastW
    rw [List.getLast?_eq_getElem?, hk]
    simp only [Nat.add_sub_cancel]
    rw [List.getElem?_eq_getElem (by omega)]; rfl
  refine ⟨bc, cc, vu, ⟨cell_of_block hI1.box 0, cell_of_block hI1.box 3⟩, v', w4, sb, sn, sc, hform, r1, ⟨cell_of_block hb4 0, cell_of_block hb4 3⟩, frozen_of_block hb4 3, ?_, frozen_of_block hg5 k, ⟨?_, kT⟩, ?_, ?_, ?_⟩
  · exact kS.cell (a := ⟨g, k, none⟩) hap (hcell k _ hlastE)
  · refine RdAt.keeps (S := fun q => S q ∨ w.heap.size ≤ q) (w := w4.setCell ⟨p, 3, none⟩ v') ⟨m, _, vl, v', tag', ?_, fun q hq => (q2 q hq).imp (hS q) id⟩ ks (fun q hq e => by
      subst e
      rcases hq with hq | hq
      · exact hap hq
      · omega)
    unfold useR
    rw [if_pos hu]
    exact q1
  · exact hw.keepsB kT base hbb (fun q hq => by
      rcases hq with hq | hq
      · exact hSb q hq
      · omega)
  · have := kT.size; omega
  · intro j x hj
    unfold zeroed at hj
    rw [if_pos hu, hk] at hj
    simp only [Nat.add_sub_cancel] at hj
    have hb6 := block_set hg5 k (.string ⟨#[48]⟩)
    rw [cell_of_block hb6]
    by_cases hjk : j = k
    · subst hjk
      rw [List.getElem?_set_self (by omega)] at hj
      cases hj
      rw [Array.getElem?_setIfInBounds_self_of_lt (by omega)]
    · rw [List.getElem?_set_ne (Ne.symm hjk)] at hj
      rw [Array.getElem?_setIfInBounds_ne (Ne.symm hjk), ← cell_of_block hblk]
      exact hcell j x hj

set_option maxRecDepth 100000 in
set_option maxHeartbeats 8000000 in
theorem instruction_any (ws : List (List UInt8)) (n : Nat) (w : World) (S : Nat → Prop) (base p : Nat) (r : Rd) (vw : Value) (hw : Gl w) (hbb : 0 < base ∧ lays147_ren.g 1 < base) (hSb : ∀ q, S q → base ≤ q) (h : RdAt w S base p r) (hws : Wds w base vw ws) (hne : ws ≠ []) (gw : Nat) (hgw : vw.ownBlock = some gw) (hap : ¬ S gw) (hnb : ∀ x ∈ ws, (32 : UInt8) ∉ x)
    (hlen : (joinB (zeroed ws)).length < 4294967281) (hub : (r.uses.length + 1) * 32 ≤ 140737488355328) (hcb : (r.code.length + 1) * 40 ≤ 140737488355328) (hwn : ws.length ≤ 4294967296) (hcl : r.code.length ≤ 4294967296) :
    Calls Tryz.prog 74 #[.pointer (some ⟨p, 0, none⟩), vw, .int .i64 n] w fun e w' => InPost r ws n S base p w e w' ∧ Keeps (fun k => S k ∨ k = gw) w w' := by
  have hmx : Tryz.prog.follows .mixedOrders = true := by kernel_rfl
  obtain ⟨g, cap, cur, rfl, hcap, hgb, hblk, hcs, hcell⟩ := hws.cells hne
  have hgg : g = gw := by simpa [Value.ownBlock] using hgw
  subst hgg
  have hglt := lt_of_block hblk
  obtain ⟨hd, hhd⟩ : ∃ hd, ws.head? = some hd := by
    cases ws with
    | nil => exact absurd rfl hne
    | cons a b => exact ⟨a, rfl⟩
  obtain ⟨k, hk⟩ : ∃ k, ws.length = k + 1 := ⟨ws.length - 1, by have := List.length_pos_iff.2 hne; omega⟩
  have hlastE : ws[k]? = some (lastW ws) := by
    unfold lastW
    rw [List.getLast?_eq_getElem?, hk]
    simp only [Nat.add_sub_cancel]
    rw [List.getElem?_eq_getElem (by omega)]; rfl
  have c0 := hcell 0 hd (by rw [← List.head?_eq_getElem?]; exact hhd)
  have ck := hcell k _ hlastE
  have HQ : Hid (parseL (joinB (zeroed ws)) = parseW (zeroed ws)) := parse_joinB (zeroed_ne hne) (zeroed_noblank hnb)
  have hzl : (zeroed ws).length = ws.length := by unfold zeroed; split <;> simp
  have TP := targetPart_any hd w hw.nms
  have IL := isLabel_any (lastW ws)
  have hUS : usesB ws = (decide (tpart hd = some k) && labB (lastW ws)) := by unfold usesB; rw [hhd, hk]; rfl
  have htp : ∀ b, decide (tpart hd = some k) = b → ((k : Int) == tpartI hd) = b := by
    intro b hb
    rw [← hb]
    unfold tpartI
    cases tpart hd with
    | none => simp
    | some q => simp only [Option.some.injEq]; rw [Bool.eq_iff_iff]; simp; omega
  have HH : Hid (RdAt w S base p r ∧ (∀ j x, ws[j]? = some x → w.cell? ⟨g, j, none⟩ = some (.string ⟨x.toArray⟩)) ∧ w.heap[g]? = some (.cells cur 9 (0, 0))) := ⟨h, hcell, hblk⟩
  have hki : (k : Int) ≤ 4294967296 := by omega
  rw [hk] at hcap hwn ⊢
  have hcapi : (k : Int) + 1 ≤ cap := by omega
  generalize hT1 : tpartI hd = tp at *
  clear h hcell hblk hws hlastE
  cases hd1 : decide (tpart hd = some k)
  · have e1 := htp false hd1
    have hus : usesB ws = false := by rw [hUS, hd1]; rfl
    clear htp hUS hd1 IL hT1 hhd
    go_enter Tryz.func74, Tryz.ntmps74
    go_wp2_with fail
    refine TP.mono ?_
    rintro e W ⟨rfl, kW⟩
    have HT : Hid (TailAt r ws n S base p w g W) := ⟨(by
      have := HH.out.1.keeps kW (fun _ _ f => f)
      unfold useR
      rw [if_neg (by simp [hus])]
      exact this.mono (fun q hq => .inl hq)), kW.mono (fun _ _ f => f.elim)⟩
    have hz : zeroed ws = ws := by unfold zeroed; rw [if_neg (by simp [hus])]
    have HJ : Calls Tryz.prog 101 #[.slice (some ⟨g, 0, none⟩) (k + 1) cap, .string ⟨#[32]⟩] W fun e w' => e = .returned (.string ⟨(joinB (zeroed ws)).toArray⟩) ∧ Keeps (fun _ => False) W w' := by
      have := join_any (zeroed ws) W g cap (Nat.lt_of_lt_of_le hglt kW.size) (fun j x hj => kW.cell (fun f => f) (HH.out.2.1 j x (by rw [← hz]; exact hj))) (by rw [hzl, hk]; exact hcap) (by rw [hzl]; omega) hlen
      rw [hzl, hk] at this
      exact this
    have HP : Hid (∀ w1, Keeps (fun _ => False) W w1 → Calls Tryz.prog 68 #[.string ⟨(joinB (zeroed ws)).toArray⟩] w1 fun e w' => PPost (joinB (zeroed ws)) e ∧ Keeps (fun _ => False) w1 w') := fun w1 kk => parse_any _ hlen w1 ((hw.keeps kW).keeps kk)
    clear HH TP c0 ck hz kW
    go_wp2_with fail
    refine HJ.mono ?_
    rintro e w1 ⟨rfl, k1⟩
    go_wp2_with fail
    refine (HP.out w1 k1).mono ?_
    rintro e w2 ⟨hPP, k2⟩
    have k12 := k1.trans k2
    unfold PPost at hPP
    rw [HQ.out] at hPP
    cases hq : parseW (zeroed ws) with
    | none =>
      rw [hq] at hPP
      subst hPP
      have hEnd : InPost r ws n S base p w (.returned (.bool false)) w2 := by
        unfold InPost insR
        rw [hq]
        rfl
      have hKK : Keeps (fun k => S k ∨ k = g) w (w2.alloc (.cells #[.int .i64 0, .int .i64 0, .int .i64 0, .int .i64 0, .int .u64 0] 45)) := (HT.out.2.transB k12 (fun _ _ f => f.elim)).alloc _
      have hEnd2 : InPost r ws n S base p w (.returned (.bool false)) (w2.alloc (.cells #[.int .i64 0, .int .i64 0, .int .i64 0, .int .i64 0, .int .u64 0] 45)) := by
        unfold InPost insR at hEnd ⊢
        rw [hq] at hEnd ⊢
        exact hEnd
      clear HJ HP HT k1 k2 k12 hEnd
      go_wp2_with fail
      go_ret
      exact ⟨hEnd2, hKK⟩
    | some i =>
      rw [hq] at hPP
      subst hPP
      obtain ⟨bc, cc, d0, dlt, dAll⟩ := tail_ins r ws n S base p w g i W w2 HT.out k12 (parse_wf hq (zeroed_noblank hnb)) hq hcb
      obtain ⟨op, ia, ib, ic, iN⟩ := i
      obtain ⟨w3, hw3⟩ : ∃ w3, w3 = w2.alloc (.cells #[.int .i64 op, .int .i64 ia, .int .i64 ib, .int .i64 ic, .int .u64 iN] 45) := ⟨_, rfl⟩
      obtain ⟨v', w4, sb, sn, sc, rfl, r1, r2, r3, r4, r5, r6⟩ := dAll w3 _ hw3
      have HA : Hid (_ = _) := r1
      obtain ⟨bi, hbi⟩ : ∃ bi, bi = w2.heap.size := ⟨_, rfl⟩
      have bb : w3.heap[bi]? = some (.cells #[.int .i64 op, .int .i64 ia, .int .i64 ib, .int .i64 ic, .int .u64 iN] 45 (0, 0)) := by rw [hw3, hbi]; exact alloc_block _ _
      have SW : ∀ X : World, Keeps (fun _ => False) w3 X → (X.cell? ⟨p, 0, none⟩ = some (.slice bc r.code.length cc) ∧ X.cell? ⟨bi, 0, none⟩ = some (.int .i64 op) ∧ X.cell? ⟨bi, 1, none⟩ = some (.int .i64 ia) ∧ X.cell? ⟨bi, 2, none⟩ = some (.int .i64 ib) ∧ X.cell? ⟨bi, 3, none⟩ = some (.int .i64 ic) ∧ X.cell? ⟨bi, 4, none⟩ = some (.int .u64 iN)) := fun X kX => by
        have c0 : w3.cell? ⟨p, 0, none⟩ = some (.slice bc r.code.length cc) := by rw [hw3]; exact ((Keeps.refl (fun _ => False) w2).alloc _).cell (fun f => f) d0
        exact ⟨kX.cell (fun f => f) c0, kX.cell (fun f => f) ((cell_of_block bb 0).trans rfl), kX.cell (fun f => f) ((cell_of_block bb 1).trans rfl), kX.cell (fun f => f) ((cell_of_block bb 2).trans rfl), kX.cell (fun f => f) ((cell_of_block bb 3).trans rfl), kX.cell (fun f => f) ((cell_of_block bb 4).trans rfl)⟩
      have S0 := SW w3.drew ((Keeps.refl _ w3).drew)
      have S1 := SW (w3.drew.alloc (.cells #[.int .i64 op, .int .i64 ia, .int .i64 ib, .int .i64 ic, .int .u64 iN] 45)) (((Keeps.refl _ w3).drew).alloc _)
      have S4 : (w4.cell? ⟨p, 0, none⟩ = some (.slice bc r.code.length cc) ∧ w4.cell? ⟨bi, 0, none⟩ = some (.int .i64 op) ∧ w4.cell? ⟨bi, 1, none⟩ = some (.int .i64 ia) ∧ w4.cell? ⟨bi, 2, none⟩ = some (.int .i64 ib) ∧ w4.cell? ⟨bi, 3, none⟩ = some (.int .i64 ic) ∧ w4.cell? ⟨bi, 4, none⟩ = some (.int .u64 iN)) := by
        have hlt3 : bi < w3.heap.size := lt_of_block bb
        have g := fun (k : Nat) v (hv : w3.cell? ⟨bi, k, none⟩ = some v) => r4 ⟨bi, k, none⟩ v (by show w2.heap.size ≤ bi; omega) hlt3 hv
        obtain ⟨z0, z1, z2, z3, z4, z5⟩ := SW w3 (Keeps.refl _ _)
        exact ⟨r2, g 0 _ z1, g 1 _ z2, g 2 _ z3, g 3 _ z4, g 4 _ z5⟩
      have HEnd : Hid (InPost r ws n S base p w (.returned (.bool true)) (w4.setCell ⟨p, 0, none⟩ (.slice sb sn sc)) ∧ Keeps (fun k => S k ∨ k = g) w (w4.setCell ⟨p, 0, none⟩ (.slice sb sn sc))) := ⟨r5, r6⟩
      have HW3 : Hid (w3 = w2.alloc (.cells #[.int .i64 op, .int .i64 ia, .int .i64 ib, .int .i64 ic, .int .u64 iN] 45)) := hw3
      have HBI : Hid (bi = w2.heap.size) := hbi
      clear dAll r1 r4 r5 r6 HJ HP HT k1 k2 k12 SW hq hw3 hbi bb
      go_wp2_with fail
      rw [← HBI.out, ← HW3.out]
      refine wp_until (S := fun W : World => W.cell? ⟨p, 0, none⟩ = some (.slice bc r.code.length cc) ∧ W.cell? ⟨bi, 0, none⟩ = some (.int .i64 op) ∧ W.cell? ⟨bi, 1, none⟩ = some (.int .i64 ia) ∧ W.cell? ⟨bi, 2, none⟩ = some (.int .i64 ib) ∧ W.cell? ⟨bi, 3, none⟩ = some (.int .i64 ic) ∧ W.cell? ⟨bi, 4, none⟩ = some (.int .u64 iN)) 10 11 rfl hmx ?_
      simp only [Array.replicate_succ, Array.replicate_zero, List.push_toArray, List.nil_append, List.cons_append]
      refine u_take (i := 0) (v := (.pointer (some ⟨p, 0, none⟩))) 56 rfl rfl (by kernel_rfl) (by kernel_rfl) (by kernel_rfl) (by kernel_rfl) rfl (fun w' hw' => by obtain ⟨q0, q1, q2, q3, q4, q5⟩ := hw'; go_simp) S0 ?_
      simp only [Act.put, List.setIfInBounds_toArray, List.set_cons_zero, List.set_cons_succ]
      refine u_take (i := 1) (v := (.pointer (some ⟨p, 0, none⟩))) 57 rfl rfl (by kernel_rfl) (by kernel_rfl) (by kernel_rfl) (by kernel_rfl) rfl (fun w' hw' => by obtain ⟨q0, q1, q2, q3, q4, q5⟩ := hw'; go_simp) S0 ?_
      simp only [Act.put, List.setIfInBounds_toArray, List.set_cons_zero, List.set_cons_succ]
      refine u_take (i := 2) (v := (.pointer (some ⟨p, 0, none⟩))) 58 rfl rfl (by kernel_rfl) (by kernel_rfl) (by kernel_rfl) (by kernel_rfl) rfl (fun w' hw' => by obtain ⟨q0, q1, q2, q3, q4, q5⟩ := hw'; go_simp) S0 ?_
      simp only [Act.put, List.setIfInBounds_toArray, List.set_cons_zero, List.set_cons_succ]
      refine u_take (i := 3) (v := (.pointer (some ⟨p, 0, none⟩))) 59 rfl rfl (by kernel_rfl) (by kernel_rfl) (by kernel_rfl) (by kernel_rfl) rfl (fun w' hw' => by obtain ⟨q0, q1, q2, q3, q4, q5⟩ := hw'; go_simp) S0 ?_
      simp only [Act.put, List.setIfInBounds_toArray, List.set_cons_zero, List.set_cons_succ]
      refine u_take (i := 4) (v := (.slice bc r.code.length cc)) 60 rfl rfl (by kernel_rfl) (by kernel_rfl) (by kernel_rfl) (by kernel_rfl) rfl (fun w' hw' => by obtain ⟨q0, q1, q2, q3, q4, q5⟩ := hw'; go_simp) S0 ?_
      simp only [Act.put, List.setIfInBounds_toArray, List.set_cons_zero, List.set_cons_succ]
      refine u_take (i := 5) (v := (.agg #[.int .i64 op, .int .i64 ia, .int .i64 ib, .int .i64 ic, .int .u64 iN])) 61 rfl rfl (by kernel_rfl) (by kernel_rfl) (by kernel_rfl) (by kernel_rfl) rfl (fun w' hw' => by obtain ⟨q0, q1, q2, q3, q4, q5⟩ := hw'; go_simp) S0 ?_
      simp only [Act.put, List.setIfInBounds_toArray, List.set_cons_zero, List.set_cons_succ]
      refine u_val (i := 6) (v := .slice (some ⟨w3.drew.heap.size, 0, none⟩) 1 1) (w' := w3.drew.alloc (.cells #[.int .i64 op, .int .i64 ia, .int .i64 ib, .int .i64 ic, .int .u64 iN] 45)) (some 62) (by kernel_rfl) rfl rfl rfl (by go_simp) S1 ?_
      simp only [Act.put, List.setIfInBounds_toArray, List.set_cons_zero, List.set_cons_succ]
      refine u_val (i := 7) (v := .slice sb sn sc) (w' := w4) (some 63) (by kernel_rfl) rfl rfl rfl (run_append_op rfl rfl rfl HA.out) S4 ?_
      simp only [Act.put, List.setIfInBounds_toArray, List.set_cons_zero, List.set_cons_succ]
      refine u_val (i := 8) (v := .pointer (some ⟨p, 0, none⟩)) (w' := w4) (some 64) (by kernel_rfl) rfl rfl rfl (by go_simp) S4 ?_
      simp only [Act.put, List.setIfInBounds_toArray, List.set_cons_zero, List.set_cons_succ]
      refine u_val (i := 9) (v := .pointer (some ⟨p, 0, none⟩)) (w' := w4) (some 65) (by kernel_rfl) rfl rfl rfl (by go_simp) S4 ?_
      simp only [Act.put, List.setIfInBounds_toArray, List.set_cons_zero, List.set_cons_succ]
      refine u_last (w' := w4.setCell ⟨p, 0, none⟩ (.slice sb sn sc)) (by kernel_rfl) rfl rfl rfl (by go_simp) (by kernel_rfl) ?_
      clear S0 S1 S4 HA r2 r3
      go_wp2_with fail
      go_ret
      exact ⟨HEnd.out.1, HEnd.out.2⟩
  · have e1 := htp true hd1
    cases hlb : labB (lastW ws)
    · have hus : usesB ws = false := by rw [hUS, hd1, hlb]; rfl
      rw [hlb] at IL
      clear htp hUS hd1 hT1 hhd
      go_enter Tryz.func74, Tryz.ntmps74
      go_wp2_with fail
      refine TP.mono ?_
      rintro e W ⟨rfl, kW⟩
      go_wp2_with fail
      refine (IL _ (hw.keeps kW).nms).mono ?_
      rintro e W' ⟨rfl, hWW⟩
      replace hWW := hWW.symm
      subst hWW
      have HT : Hid (TailAt r ws n S base p w g W) := ⟨(by
        have := HH.out.1.keeps kW (fun _ _ f => f)
        unfold useR
        rw [if_neg (by simp [hus])]
        exact this.mono (fun q hq => .inl hq)), kW.mono (fun _ _ f => f.elim)⟩
      have hz : zeroed ws = ws := by unfold zeroed; rw [if_neg (by simp [hus])]
      have HJ : Calls Tryz.prog 101 #[.slice (some ⟨g, 0, none⟩) (k + 1) cap, .string ⟨#[32]⟩] W fun e w' => e = .returned (.string ⟨(joinB (zeroed ws)).toArray⟩) ∧ Keeps (fun _ => False) W w' := by
        have := join_any (zeroed ws) W g cap (Nat.lt_of_lt_of_le hglt kW.size) (fun j x hj => kW.cell (fun f => f) (HH.out.2.1 j x (by rw [← hz]; exact hj))) (by rw [hzl, hk]; exact hcap) (by rw [hzl]; omega) hlen
        rw [hzl, hk] at this
        exact this
      have HP : Hid (∀ w1, Keeps (fun _ => False) W w1 → Calls Tryz.prog 68 #[.string ⟨(joinB (zeroed ws)).toArray⟩] w1 fun e w' => PPost (joinB (zeroed ws)) e ∧ Keeps (fun _ => False) w1 w') := fun w1 kk => parse_any _ hlen w1 ((hw.keeps kW).keeps kk)
      clear HH TP c0 ck hz kW
      go_wp2_with fail
      refine HJ.mono ?_
      rintro e w1 ⟨rfl, k1⟩
      go_wp2_with fail
      refine (HP.out w1 k1).mono ?_
      rintro e w2 ⟨hPP, k2⟩
      have k12 := k1.trans k2
      unfold PPost at hPP
      rw [HQ.out] at hPP
      cases hq : parseW (zeroed ws) with
      | none =>
        rw [hq] at hPP
        subst hPP
        have hEnd : InPost r ws n S base p w (.returned (.bool false)) w2 := by
          unfold InPost insR
          rw [hq]
          rfl
        have hKK : Keeps (fun k => S k ∨ k = g) w (w2.alloc (.cells #[.int .i64 0, .int .i64 0, .int .i64 0, .int .i64 0, .int .u64 0] 45)) := (HT.out.2.transB k12 (fun _ _ f => f.elim)).alloc _
        have hEnd2 : InPost r ws n S base p w (.returned (.bool false)) (w2.alloc (.cells #[.int .i64 0, .int .i64 0, .int .i64 0, .int .i64 0, .int .u64 0] 45)) := by
          unfold InPost insR at hEnd ⊢
          rw [hq] at hEnd ⊢
          exact hEnd
        clear HJ HP HT k1 k2 k12 hEnd
        go_wp2_with fail
        go_ret
        exact ⟨hEnd2, hKK⟩
      | some i =>
        rw [hq] at hPP
        subst hPP
        obtain ⟨bc, cc, d0, dlt, dAll⟩ := tail_ins r ws n S base p w g i W w2 HT.out k12 (parse_wf hq (zeroed_noblank hnb)) hq hcb
        obtain ⟨op, ia, ib, ic, iN⟩ := i
        obtain ⟨w3, hw3⟩ : ∃ w3, w3 = w2.alloc (.cells #[.int .i64 op, .int .i64 ia, .int .i64 ib, .int .i64 ic, .int .u64 iN] 45) := ⟨_, rfl⟩
        obtain ⟨v', w4, sb, sn, sc, rfl, r1, r2, r3, r4, r5, r6⟩ := dAll w3 _ hw3
        have HA : Hid (_ = _) := r1
        obtain ⟨bi, hbi⟩ : ∃ bi, bi = w2.heap.size := ⟨_, rfl⟩
        have bb : w3.heap[bi]? = some (.cells #[.int .i64 op, .int .i64 ia, .int .i64 ib, .int .i64 ic, .int .u64 iN] 45 (0, 0)) := by rw [hw3, hbi]; exact alloc_block _ _
        have SW : ∀ X : World, Keeps (fun _ => False) w3 X → (X.cell? ⟨p, 0, none⟩ = some (.slice bc r.code.length cc) ∧ X.cell? ⟨bi, 0, none⟩ = some (.int .i64 op) ∧ X.cell? ⟨bi, 1, none⟩ = some (.int .i64 ia) ∧ X.cell? ⟨bi, 2, none⟩ = some (.int .i64 ib) ∧ X.cell? ⟨bi, 3, none⟩ = some (.int .i64 ic) ∧ X.cell? ⟨bi, 4, none⟩ = some (.int .u64 iN)) := fun X kX => by
          have c0 : w3.cell? ⟨p, 0, none⟩ = some (.slice bc r.code.length cc) := by rw [hw3]; exact ((Keeps.refl (fun _ => False) w2).alloc _).cell (fun f => f) d0
          exact ⟨kX.cell (fun f => f) c0, kX.cell (fun f => f) ((cell_of_block bb 0).trans rfl), kX.cell (fun f => f) ((cell_of_block bb 1).trans rfl), kX.cell (fun f => f) ((cell_of_block bb 2).trans rfl), kX.cell (fun f => f) ((cell_of_block bb 3).trans rfl), kX.cell (fun f => f) ((cell_of_block bb 4).trans rfl)⟩
        have S0 := SW w3.drew ((Keeps.refl _ w3).drew)
        have S1 := SW (w3.drew.alloc (.cells #[.int .i64 op, .int .i64 ia, .int .i64 ib, .int .i64 ic, .int .u64 iN] 45)) (((Keeps.refl _ w3).drew).alloc _)
        have S4 : (w4.cell? ⟨p, 0, none⟩ = some (.slice bc r.code.length cc) ∧ w4.cell? ⟨bi, 0, none⟩ = some (.int .i64 op) ∧ w4.cell? ⟨bi, 1, none⟩ = some (.int .i64 ia) ∧ w4.cell? ⟨bi, 2, none⟩ = some (.int .i64 ib) ∧ w4.cell? ⟨bi, 3, none⟩ = some (.int .i64 ic) ∧ w4.cell? ⟨bi, 4, none⟩ = some (.int .u64 iN)) := by
          have hlt3 : bi < w3.heap.size := lt_of_block bb
          have g := fun (k : Nat) v (hv : w3.cell? ⟨bi, k, none⟩ = some v) => r4 ⟨bi, k, none⟩ v (by show w2.heap.size ≤ bi; omega) hlt3 hv
          obtain ⟨z0, z1, z2, z3, z4, z5⟩ := SW w3 (Keeps.refl _ _)
          exact ⟨r2, g 0 _ z1, g 1 _ z2, g 2 _ z3, g 3 _ z4, g 4 _ z5⟩
        have HEnd : Hid (InPost r ws n S base p w (.returned (.bool true)) (w4.setCell ⟨p, 0, none⟩ (.slice sb sn sc)) ∧ Keeps (fun k => S k ∨ k = g) w (w4.setCell ⟨p, 0, none⟩ (.slice sb sn sc))) := ⟨r5, r6⟩
        have HW3 : Hid (w3 = w2.alloc (.cells #[.int .i64 op, .int .i64 ia, .int .i64 ib, .int .i64 ic, .int .u64 iN] 45)) := hw3
        have HBI : Hid (bi = w2.heap.size) := hbi
        clear dAll r1 r4 r5 r6 HJ HP HT k1 k2 k12 SW hq hw3 hbi bb
        go_wp2_with fail
        rw [← HBI.out, ← HW3.out]
        refine wp_until (S := fun W : World => W.cell? ⟨p, 0, none⟩ = some (.slice bc r.code.length cc) ∧ W.cell? ⟨bi, 0, none⟩ = some (.int .i64 op) ∧ W.cell? ⟨bi, 1, none⟩ = some (.int .i64 ia) ∧ W.cell? ⟨bi, 2, none⟩ = some (.int .i64 ib) ∧ W.cell? ⟨bi, 3, none⟩ = some (.int .i64 ic) ∧ W.cell? ⟨bi, 4, none⟩ = some (.int .u64 iN)) 10 11 rfl hmx ?_
        simp only [Array.replicate_succ, Array.replicate_zero, List.push_toArray, List.nil_append, List.cons_append]
        refine u_take (i := 0) (v := (.pointer (some ⟨p, 0, none⟩))) 56 rfl rfl (by kernel_rfl) (by kernel_rfl) (by kernel_rfl) (by kernel_rfl) rfl (fun w' hw' => by obtain ⟨q0, q1, q2, q3, q4, q5⟩ := hw'; go_simp) S0 ?_
        simp only [Act.put, List.setIfInBounds_toArray, List.set_cons_zero, List.set_cons_succ]
        refine u_take (i := 1) (v := (.pointer (some ⟨p, 0, none⟩))) 57 rfl rfl (by kernel_rfl) (by kernel_rfl) (by kernel_rfl) (by kernel_rfl) rfl (fun w' hw' => by obtain ⟨q0, q1, q2, q3, q4, q5⟩ := hw'; go_simp) S0 ?_
        simp only [Act.put, List.setIfInBounds_toArray, List.set_cons_zero, List.set_cons_succ]
        refine u_take (i := 2) (v := (.pointer (some ⟨p, 0, none⟩))) 58 rfl rfl (by kernel_rfl) (by kernel_rfl) (by kernel_rfl) (by kernel_rfl) rfl (fun w' hw' => by obtain ⟨q0, q1, q2, q3, q4, q5⟩ := hw'; go_simp) S0 ?_
        simp only [Act.put, List.setIfInBounds_toArray, List.set_cons_zero, List.set_cons_succ]
        refine u_take (i := 3) (v := (.pointer (some ⟨p, 0, none⟩))) 59 rfl rfl (by kernel_rfl) (by kernel_rfl) (by kernel_rfl) (by kernel_rfl) rfl (fun w' hw' => by obtain ⟨q0, q1, q2, q3, q4, q5⟩ := hw'; go_simp) S0 ?_
        simp only [Act.put, List.setIfInBounds_toArray, List.set_cons_zero, List.set_cons_succ]
        refine u_take (i := 4) (v := (.slice bc r.code.length cc)) 60 rfl rfl (by kernel_rfl) (by kernel_rfl) (by kernel_rfl) (by kernel_rfl) rfl (fun w' hw' => by obtain ⟨q0, q1, q2, q3, q4, q5⟩ := hw'; go_simp) S0 ?_
        simp only [Act.put, List.setIfInBounds_toArray, List.set_cons_zero, List.set_cons_succ]
        refine u_take (i := 5) (v := (.agg #[.int .i64 op, .int .i64 ia, .int .i64 ib, .int .i64 ic, .int .u64 iN])) 61 rfl rfl (by kernel_rfl) (by kernel_rfl) (by kernel_rfl) (by kernel_rfl) rfl (fun w' hw' => by obtain ⟨q0, q1, q2, q3, q4, q5⟩ := hw'; go_simp) S0 ?_
        simp only [Act.put, List.setIfInBounds_toArray, List.set_cons_zero, List.set_cons_succ]
        refine u_val (i := 6) (v := .slice (some ⟨w3.drew.heap.size, 0, none⟩) 1 1) (w' := w3.drew.alloc (.cells #[.int .i64 op, .int .i64 ia, .int .i64 ib, .int .i64 ic, .int .u64 iN] 45)) (some 62) (by kernel_rfl) rfl rfl rfl (by go_simp) S1 ?_
        simp only [Act.put, List.setIfInBounds_toArray, List.set_cons_zero, List.set_cons_succ]
        refine u_val (i := 7) (v := .slice sb sn sc) (w' := w4) (some 63) (by kernel_rfl) rfl rfl rfl (run_append_op rfl rfl rfl HA.out) S4 ?_
        simp only [Act.put, List.setIfInBounds_toArray, List.set_cons_zero, List.set_cons_succ]
        refine u_val (i := 8) (v := .pointer (some ⟨p, 0, none⟩)) (w' := w4) (some 64) (by kernel_rfl) rfl rfl rfl (by go_simp) S4 ?_
        simp only [Act.put, List.setIfInBounds_toArray, List.set_cons_zero, List.set_cons_succ]
        refine u_val (i := 9) (v := .pointer (some ⟨p, 0, none⟩)) (w' := w4) (some 65) (by kernel_rfl) rfl rfl rfl (by go_simp) S4 ?_
        simp only [Act.put, List.setIfInBounds_toArray, List.set_cons_zero, List.set_cons_succ]
        refine u_last (w' := w4.setCell ⟨p, 0, none⟩ (.slice sb sn sc)) (by kernel_rfl) rfl rfl rfl (by go_simp) (by kernel_rfl) ?_
        clear S0 S1 S4 HA r2 r3
        go_wp2_with fail
        go_ret
        exact ⟨HEnd.out.1, HEnd.out.2⟩
    · have hus : usesB ws = true := by rw [hUS, hd1, hlb]; rfl
      rw [hlb] at IL
      clear htp hUS hd1 hT1 hhd
      go_enter Tryz.func74, Tryz.ntmps74
      go_wp2_with fail
      refine TP.mono ?_
      rintro e w1 ⟨rfl, k1⟩
      go_wp2_with fail
      refine (IL _ (hw.keeps k1).nms).mono ?_
      rintro e w1' ⟨rfl, hww⟩
      subst hww
      obtain ⟨bc, cc, vu, S0, v', w4, sb, sn, sc, rfl, r1, S4, r5, r6, r7, r8, r9, r10, r11⟩ := use_step r ws n k S base p g cap cur w w1' hw hbb hSb HH.out.1 k1 hk hus hap hgb HH.out.2.2 hcs (by rw [hk]; exact hcap) HH.out.2.1 hub
      have HA : Hid (_ = _) := r1
      have ka := (Keeps.refl (fun _ => False) w1'.drew).alloc (.cells #[.string ⟨(lastW ws).toArray⟩, .int .i64 (r.code.length : Int), .int .i64 (n : Int)] 112)
      have S1 : ((w1'.drew.alloc (.cells #[.string ⟨(lastW ws).toArray⟩, .int .i64 (r.code.length : Int), .int .i64 (n : Int)] 112)).cell? ⟨p, 0, none⟩ = some (.slice bc r.code.length cc) ∧ (w1'.drew.alloc (.cells #[.string ⟨(lastW ws).toArray⟩, .int .i64 (r.code.length : Int), .int .i64 (n : Int)] 112)).cell? ⟨p, 3, none⟩ = some vu) := ⟨ka.cell (fun f => f) S0.1, ka.cell (fun f => f) S0.2⟩
      obtain ⟨W, hW⟩ : ∃ W, (w4.setCell ⟨p, 3, none⟩ (.slice sb sn sc)).setCell ⟨g, k, none⟩ (.string ⟨#[48]⟩) = W := ⟨_, rfl⟩
      obtain ⟨w5, hw5⟩ : ∃ w5, w4.setCell ⟨p, 3, none⟩ (.slice sb sn sc) = w5 := ⟨_, rfl⟩
      rw [hW] at r8 r9 r10 r11
      rw [hw5] at hW r6 r7
      have HW5 : Hid (w4.setCell ⟨p, 3, none⟩ (.slice sb sn sc) = w5) := hw5
      have HWW : Hid (w5.setCell ⟨g, k, none⟩ (.string ⟨#[48]⟩) = W) := hW
      have hcl3 : (r.code.length : Int) ≤ 4294967296 := by omega
      have HJ := join_any (zeroed ws) W g cap r10 r11 (by rw [hzl, hk]; exact hcap) (by rw [hzl]; omega) hlen
      rw [hzl, hk] at HJ
      have HP : Hid (∀ w1, Keeps (fun _ => False) W w1 → Calls Tryz.prog 68 #[.string ⟨(joinB (zeroed ws)).toArray⟩] w1 fun e w' => PPost (joinB (zeroed ws)) e ∧ Keeps (fun _ => False) w1 w') := fun w1 kk => parse_any _ hlen w1 (r9.keeps kk)
      have HT : Hid (TailAt r ws n S base p w g W) := r8
      clear hw5 hW r1 r8 r9 r10 r11 ka HH IL TP c0 ck k1
      go_wp2_with fail
      refine wp_until (S := fun W : World => W.cell? ⟨p, 0, none⟩ = some (.slice bc r.code.length cc) ∧ W.cell? ⟨p, 3, none⟩ = some vu) 17 18 rfl hmx ?_
      simp only [Array.replicate_succ, Array.replicate_zero, List.push_toArray, List.nil_append, List.cons_append]
      refine u_take (i := 0) (v := (.pointer (some ⟨p, 0, none⟩))) 28 rfl rfl (by kernel_rfl) (by kernel_rfl) (by kernel_rfl) (by kernel_rfl) rfl (fun w' hw' => by obtain ⟨q0, q1⟩ := hw'; go_simp) S0 ?_
      simp only [Act.put, List.setIfInBounds_toArray, List.set_cons_zero, List.set_cons_succ]
      refine u_take (i := 1) (v := (.pointer (some ⟨p, 0, none⟩))) 29 rfl rfl (by kernel_rfl) (by kernel_rfl) (by kernel_rfl) (by kernel_rfl) rfl (fun w' hw' => by obtain ⟨q0, q1⟩ := hw'; go_simp) S0 ?_
      simp only [Act.put, List.setIfInBounds_toArray, List.set_cons_zero, List.set_cons_succ]
      refine u_take (i := 2) (v := (.pointer (some ⟨p, 0, none⟩))) 30 rfl rfl (by kernel_rfl) (by kernel_rfl) (by kernel_rfl) (by kernel_rfl) rfl (fun w' hw' => by obtain ⟨q0, q1⟩ := hw'; go_simp) S0 ?_
      simp only [Act.put, List.setIfInBounds_toArray, List.set_cons_zero, List.set_cons_succ]
      refine u_take (i := 3) (v := (.pointer (some ⟨p, 3, none⟩))) 31 rfl rfl (by kernel_rfl) (by kernel_rfl) (by kernel_rfl) (by kernel_rfl) rfl (fun w' hw' => by obtain ⟨q0, q1⟩ := hw'; go_simp) S0 ?_
      simp only [Act.put, List.setIfInBounds_toArray, List.set_cons_zero, List.set_cons_succ]
      refine u_take (i := 4) (v := vu) 32 rfl rfl (by kernel_rfl) (by kernel_rfl) (by kernel_rfl) (by kernel_rfl) rfl (fun w' hw' => by obtain ⟨q0, q1⟩ := hw'; go_simp) S0 ?_
      simp only [Act.put, List.setIfInBounds_toArray, List.set_cons_zero, List.set_cons_succ]
      refine u_take (i := 5) (v := (.string ⟨(lastW ws).toArray⟩)) 33 rfl rfl (by kernel_rfl) (by kernel_rfl) (by kernel_rfl) (by kernel_rfl) rfl (fun w' hw' => by obtain ⟨q0, q1⟩ := hw'; go_simp) S0 ?_
      simp only [Act.put, List.setIfInBounds_toArray, List.set_cons_zero, List.set_cons_succ]
      refine u_take (i := 6) (v := (.pointer (some ⟨p, 0, none⟩))) 34 rfl rfl (by kernel_rfl) (by kernel_rfl) (by kernel_rfl) (by kernel_rfl) rfl (fun w' hw' => by obtain ⟨q0, q1⟩ := hw'; go_simp) S0 ?_
      simp only [Act.put, List.setIfInBounds_toArray, List.set_cons_zero, List.set_cons_succ]
      refine u_take (i := 7) (v := (.pointer (some ⟨p, 0, none⟩))) 35 rfl rfl (by kernel_rfl) (by kernel_rfl) (by kernel_rfl) (by kernel_rfl) rfl (fun w' hw' => by obtain ⟨q0, q1⟩ := hw'; go_simp) S0 ?_
      simp only [Act.put, List.setIfInBounds_toArray, List.set_cons_zero, List.set_cons_succ]
      refine u_take (i := 8) (v := (.pointer (some ⟨p, 0, none⟩))) 36 rfl rfl (by kernel_rfl) (by kernel_rfl) (by kernel_rfl) (by kernel_rfl) rfl (fun w' hw' => by obtain ⟨q0, q1⟩ := hw'; go_simp) S0 ?_
      simp only [Act.put, List.setIfInBounds_toArray, List.set_cons_zero, List.set_cons_succ]
      refine u_take (i := 9) (v := (.slice bc r.code.length cc)) 37 rfl rfl (by kernel_rfl) (by kernel_rfl) (by kernel_rfl) (by kernel_rfl) rfl (fun w' hw' => by obtain ⟨q0, q1⟩ := hw'; go_simp) S0 ?_
      simp only [Act.put, List.setIfInBounds_toArray, List.set_cons_zero, List.set_cons_succ]
      refine u_take (i := 10) (v := (.int .i64 (r.code.length : Int))) 38 rfl rfl (by kernel_rfl) (by kernel_rfl) (by kernel_rfl) (by kernel_rfl) rfl (fun w' hw' => by obtain ⟨q0, q1⟩ := hw'; go_simp) S0 ?_
      simp only [Act.put, List.setIfInBounds_toArray, List.set_cons_zero, List.set_cons_succ]
      refine u_take (i := 11) (v := (.int .i64 (n : Int))) 39 rfl rfl (by kernel_rfl) (by kernel_rfl) (by kernel_rfl) (by kernel_rfl) rfl (fun w' hw' => by obtain ⟨q0, q1⟩ := hw'; go_simp) S0 ?_
      simp only [Act.put, List.setIfInBounds_toArray, List.set_cons_zero, List.set_cons_succ]
      refine u_take (i := 12) (v := (.agg #[.string ⟨(lastW ws).toArray⟩, .int .i64 (r.code.length : Int), .int .i64 (n : Int)])) 40 rfl rfl (by kernel_rfl) (by kernel_rfl) (by kernel_rfl) (by kernel_rfl) rfl (fun w' hw' => by obtain ⟨q0, q1⟩ := hw'; go_simp) S0 ?_
      simp only [Act.put, List.setIfInBounds_toArray, List.set_cons_zero, List.set_cons_succ]
      refine u_val (i := 13) (v := .slice (some ⟨w1'.drew.heap.size, 0, none⟩) 1 1) (w' := w1'.drew.alloc (.cells #[.string ⟨(lastW ws).toArray⟩, .int .i64 (r.code.length : Int), .int .i64 (n : Int)] 112)) (some 41) (by kernel_rfl) rfl rfl rfl (by go_simp) S1 ?_
      simp only [Act.put, List.setIfInBounds_toArray, List.set_cons_zero, List.set_cons_succ]
      refine u_val (i := 14) (v := .slice sb sn sc) (w' := w4) (some 42) (by kernel_rfl) rfl rfl rfl (run_append_op rfl rfl rfl HA.out) S4 ?_
      simp only [Act.put, List.setIfInBounds_toArray, List.set_cons_zero, List.set_cons_succ]
      refine u_val (i := 15) (v := .pointer (some ⟨p, 0, none⟩)) (w' := w4) (some 43) (by kernel_rfl) rfl rfl rfl (by go_simp) S4 ?_
      simp only [Act.put, List.setIfInBounds_toArray, List.set_cons_zero, List.set_cons_succ]
      refine u_val (i := 16) (v := .pointer (some ⟨p, 3, none⟩)) (w' := w4) (some 44) (by kernel_rfl) rfl rfl rfl (by go_simp) S4 ?_
      simp only [Act.put, List.setIfInBounds_toArray, List.set_cons_zero, List.set_cons_succ]
      have s43 := S4.2
      refine u_last (w' := w4.setCell ⟨p, 3, none⟩ (.slice sb sn sc)) (by kernel_rfl) rfl rfl rfl (by go_simp) (by kernel_rfl) ?_
      rw [HW5.out]
      clear S0 S1 S4 HA r5 s43 HW5
      go_wp2_with fail
      rw [HWW.out]
      clear HWW
      go_wp2_with fail
      refine HJ.mono ?_
      rintro e w1 ⟨rfl, k1⟩
      go_wp2_with fail
      refine (HP.out w1 k1).mono ?_
      rintro e w2 ⟨hPP, k2⟩
      have k12 := k1.trans k2
      unfold PPost at hPP
      rw [HQ.out] at hPP
      cases hq : parseW (zeroed ws) with
      | none =>
        rw [hq] at hPP
        subst hPP
        have hEnd : InPost r ws n S base p w (.returned (.bool false)) w2 := by
          unfold InPost insR
          rw [hq]
          rfl
        have hKK : Keeps (fun k => S k ∨ k = g) w (w2.alloc (.cells #[.int .i64 0, .int .i64 0, .int .i64 0, .int .i64 0, .int .u64 0] 45)) := (HT.out.2.transB k12 (fun _ _ f => f.elim)).alloc _
        have hEnd2 : InPost r ws n S base p w (.returned (.bool false)) (w2.alloc (.cells #[.int .i64 0, .int .i64 0, .int .i64 0, .int .i64 0, .int .u64 0] 45)) := by
          unfold InPost insR at hEnd ⊢
          rw [hq] at hEnd ⊢
          exact hEnd
        clear HJ HP HT k1 k2 k12 hEnd
        go_wp2_with fail
        go_ret
        exact ⟨hEnd2, hKK⟩
      | some i =>
        rw [hq] at hPP
        subst hPP
        obtain ⟨bc, cc, d0, dlt, dAll⟩ := tail_ins r ws n S base p w g i W w2 HT.out k12 (parse_wf hq (zeroed_noblank hnb)) hq hcb
        obtain ⟨op, ia, ib, ic, iN⟩ := i
        obtain ⟨w3, hw3⟩ : ∃ w3, w3 = w2.alloc (.cells #[.int .i64 op, .int .i64 ia, .int .i64 ib, .int .i64 ic, .int .u64 iN] 45) := ⟨_, rfl⟩
        obtain ⟨v', w4, sb, sn, sc, rfl, r1, r2, r3, r4, r5, r6⟩ := dAll w3 _ hw3
        have HA : Hid (_ = _) := r1
        obtain ⟨bi, hbi⟩ : ∃ bi, bi = w2.heap.size := ⟨_, rfl⟩
        have bb : w3.heap[bi]? = some (.cells #[.int .i64 op, .int .i64 ia, .int .i64 ib, .int .i64 ic, .int .u64 iN] 45 (0, 0)) := by rw [hw3, hbi]; exact alloc_block _ _
        have SW : ∀ X : World, Keeps (fun _ => False) w3 X → (X.cell? ⟨p, 0, none⟩ = some (.slice bc r.code.length cc) ∧ X.cell? ⟨bi, 0, none⟩ = some (.int .i64 op) ∧ X.cell? ⟨bi, 1, none⟩ = some (.int .i64 ia) ∧ X.cell? ⟨bi, 2, none⟩ = some (.int .i64 ib) ∧ X.cell? ⟨bi, 3, none⟩ = some (.int .i64 ic) ∧ X.cell? ⟨bi, 4, none⟩ = some (.int .u64 iN)) := fun X kX => by
          have c0 : w3.cell? ⟨p, 0, none⟩ = some (.slice bc r.code.length cc) := by rw [hw3]; exact ((Keeps.refl (fun _ => False) w2).alloc _).cell (fun f => f) d0
          exact ⟨kX.cell (fun f => f) c0, kX.cell (fun f => f) ((cell_of_block bb 0).trans rfl), kX.cell (fun f => f) ((cell_of_block bb 1).trans rfl), kX.cell (fun f => f) ((cell_of_block bb 2).trans rfl), kX.cell (fun f => f) ((cell_of_block bb 3).trans rfl), kX.cell (fun f => f) ((cell_of_block bb 4).trans rfl)⟩
        have S0 := SW w3.drew ((Keeps.refl _ w3).drew)
        have S1 := SW (w3.drew.alloc (.cells #[.int .i64 op, .int .i64 ia, .int .i64 ib, .int .i64 ic, .int .u64 iN] 45)) (((Keeps.refl _ w3).drew).alloc _)
        have S4 : (w4.cell? ⟨p, 0, none⟩ = some (.slice bc r.code.length cc) ∧ w4.cell? ⟨bi, 0, none⟩ = some (.int .i64 op) ∧ w4.cell? ⟨bi, 1, none⟩ = some (.int .i64 ia) ∧ w4.cell? ⟨bi, 2, none⟩ = some (.int .i64 ib) ∧ w4.cell? ⟨bi, 3, none⟩ = some (.int .i64 ic) ∧ w4.cell? ⟨bi, 4, none⟩ = some (.int .u64 iN)) := by
          have hlt3 : bi < w3.heap.size := lt_of_block bb
          have g := fun (k : Nat) v (hv : w3.cell? ⟨bi, k, none⟩ = some v) => r4 ⟨bi, k, none⟩ v (by show w2.heap.size ≤ bi; omega) hlt3 hv
          obtain ⟨z0, z1, z2, z3, z4, z5⟩ := SW w3 (Keeps.refl _ _)
          exact ⟨r2, g 0 _ z1, g 1 _ z2, g 2 _ z3, g 3 _ z4, g 4 _ z5⟩
        have HEnd : Hid (InPost r ws n S base p w (.returned (.bool true)) (w4.setCell ⟨p, 0, none⟩ (.slice sb sn sc)) ∧ Keeps (fun k => S k ∨ k = g) w (w4.setCell ⟨p, 0, none⟩ (.slice sb sn sc))) := ⟨r5, r6⟩
        have HW3 : Hid (w3 = w2.alloc (.cells #[.int .i64 op, .int .i64 ia, .int .i64 ib, .int .i64 ic, .int .u64 iN] 45)) := hw3
        have HBI : Hid (bi = w2.heap.size) := hbi
        clear dAll r1 r4 r5 r6 HJ HP HT k1 k2 k12 SW hq hw3 hbi bb
        go_wp2_with fail
        rw [← HBI.out, ← HW3.out]
        refine wp_until (S := fun W : World => W.cell? ⟨p, 0, none⟩ = some (.slice bc r.code.length cc) ∧ W.cell? ⟨bi, 0, none⟩ = some (.int .i64 op) ∧ W.cell? ⟨bi, 1, none⟩ = some (.int .i64 ia) ∧ W.cell? ⟨bi, 2, none⟩ = some (.int .i64 ib) ∧ W.cell? ⟨bi, 3, none⟩ = some (.int .i64 ic) ∧ W.cell? ⟨bi, 4, none⟩ = some (.int .u64 iN)) 10 11 rfl hmx ?_
        simp only [Array.replicate_succ, Array.replicate_zero, List.push_toArray, List.nil_append, List.cons_append]
        refine u_take (i := 0) (v := (.pointer (some ⟨p, 0, none⟩))) 56 rfl rfl (by kernel_rfl) (by kernel_rfl) (by kernel_rfl) (by kernel_rfl) rfl (fun w' hw' => by obtain ⟨q0, q1, q2, q3, q4, q5⟩ := hw'; go_simp) S0 ?_
        simp only [Act.put, List.setIfInBounds_toArray, List.set_cons_zero, List.set_cons_succ]
        refine u_take (i := 1) (v := (.pointer (some ⟨p, 0, none⟩))) 57 rfl rfl (by kernel_rfl) (by kernel_rfl) (by kernel_rfl) (by kernel_rfl) rfl (fun w' hw' => by obtain ⟨q0, q1, q2, q3, q4, q5⟩ := hw'; go_simp) S0 ?_
        simp only [Act.put, List.setIfInBounds_toArray, List.set_cons_zero, List.set_cons_succ]
        refine u_take (i := 2) (v := (.pointer (some ⟨p, 0, none⟩))) 58 rfl rfl (by kernel_rfl) (by kernel_rfl) (by kernel_rfl) (by kernel_rfl) rfl (fun w' hw' => by obtain ⟨q0, q1, q2, q3, q4, q5⟩ := hw'; go_simp) S0 ?_
        simp only [Act.put, List.setIfInBounds_toArray, List.set_cons_zero, List.set_cons_succ]
        refine u_take (i := 3) (v := (.pointer (some ⟨p, 0, none⟩))) 59 rfl rfl (by kernel_rfl) (by kernel_rfl) (by kernel_rfl) (by kernel_rfl) rfl (fun w' hw' => by obtain ⟨q0, q1, q2, q3, q4, q5⟩ := hw'; go_simp) S0 ?_
        simp only [Act.put, List.setIfInBounds_toArray, List.set_cons_zero, List.set_cons_succ]
        refine u_take (i := 4) (v := (.slice bc r.code.length cc)) 60 rfl rfl (by kernel_rfl) (by kernel_rfl) (by kernel_rfl) (by kernel_rfl) rfl (fun w' hw' => by obtain ⟨q0, q1, q2, q3, q4, q5⟩ := hw'; go_simp) S0 ?_
        simp only [Act.put, List.setIfInBounds_toArray, List.set_cons_zero, List.set_cons_succ]
        refine u_take (i := 5) (v := (.agg #[.int .i64 op, .int .i64 ia, .int .i64 ib, .int .i64 ic, .int .u64 iN])) 61 rfl rfl (by kernel_rfl) (by kernel_rfl) (by kernel_rfl) (by kernel_rfl) rfl (fun w' hw' => by obtain ⟨q0, q1, q2, q3, q4, q5⟩ := hw'; go_simp) S0 ?_
        simp only [Act.put, List.setIfInBounds_toArray, List.set_cons_zero, List.set_cons_succ]
        refine u_val (i := 6) (v := .slice (some ⟨w3.drew.heap.size, 0, none⟩) 1 1) (w' := w3.drew.alloc (.cells #[.int .i64 op, .int .i64 ia, .int .i64 ib, .int .i64 ic, .int .u64 iN] 45)) (some 62) (by kernel_rfl) rfl rfl rfl (by go_simp) S1 ?_
        simp only [Act.put, List.setIfInBounds_toArray, List.set_cons_zero, List.set_cons_succ]
        refine u_val (i := 7) (v := .slice sb sn sc) (w' := w4) (some 63) (by kernel_rfl) rfl rfl rfl (run_append_op rfl rfl rfl HA.out) S4 ?_
        simp only [Act.put, List.setIfInBounds_toArray, List.set_cons_zero, List.set_cons_succ]
        refine u_val (i := 8) (v := .pointer (some ⟨p, 0, none⟩)) (w' := w4) (some 64) (by kernel_rfl) rfl rfl rfl (by go_simp) S4 ?_
        simp only [Act.put, List.setIfInBounds_toArray, List.set_cons_zero, List.set_cons_succ]
        refine u_val (i := 9) (v := .pointer (some ⟨p, 0, none⟩)) (w' := w4) (some 65) (by kernel_rfl) rfl rfl rfl (by go_simp) S4 ?_
        simp only [Act.put, List.setIfInBounds_toArray, List.set_cons_zero, List.set_cons_succ]
        refine u_last (w' := w4.setCell ⟨p, 0, none⟩ (.slice sb sn sc)) (by kernel_rfl) rfl rfl rfl (by go_simp) (by kernel_rfl) ?_
        clear S0 S1 S4 HA r2 r3
        go_wp2_with fail
        go_ret
        exact ⟨HEnd.out.1, HEnd.out.2⟩
end Go.Proofs.YtppejcfghlpbjaaGreatDoor


/- A scope with several labels. No statement of the seat is proved here. -/
namespace Go.Proofs.YtppejcfghlpbjaaGreatDoor
open Go.RowKit Go.Shelf

/-- By a goto to a label: what is asked there; else as Q. -/
def jumps (J : Nat → Act → World → Prop) (Q : Exit → Act → World → Prop) : Exit → Act → World → Prop
  | .goto l, a, w => J l a w
  | e, a, w => Q e a w

section
variable {P : Program} {a : Act} {w : World} {Q : Exit → Act → World → Prop}
/-- A scope in which the run jumps to labels: what holds at each of them, and a measure that every pass lowers. -/
theorem wp_scope_many {c : Code} (J : Nat → Act → World → Prop) (μ : Nat → Act → World → Nat) (rest : Nat → Code) (hf : ∀ l a w, J l a w → findLabel c l = some (rest l))
    (first : c.wp P (jumps J Q) a w)
    (pass : ∀ l a w, J l a w → (rest l).wp P (jumps (fun l' a' w' => J l' a' w' ∧ μ l' a' w' < μ l a w) Q) a w) : (Code.scope c).wp P Q a w := by
  intro b k cs
  have hg : ∀ l a w, J l a w → gotoIn l (.inScope c :: k) = some (.code (rest l) :: .inScope c :: k) := fun l a w h => by simp [gotoIn, hf l a w h]
  have key : ∀ n l a w, μ l a w = n → J l a w → ∃ e a' w', Q e a' w' ∧ Arrives P (lone (b.at a (.code (rest l) :: .inScope c :: k)) cs w) b k cs e a' w' := by
    intro n
    induction n using Nat.strongRecOn with
    | _ n ih =>
      intro l a w hn hJ
      obtain ⟨e, a₁, w₁, hq, harr⟩ := pass l a w hJ b (.inScope c :: k) cs
      cases e with
      | normal => exact ⟨.normal, a₁, w₁, hq, Steps.trans harr (.one step_inScope)⟩
      | exit id => exact ⟨.exit id, a₁, w₁, hq, fun k' hk => harr k' (by simp [exitTo, hk])⟩
      | goto l' =>
        obtain ⟨hJ', hlt⟩ := hq
        obtain ⟨e₂, a₂, w₂, hq₂, harr₂⟩ := ih _ (by omega) l' a₁ w₁ rfl hJ'
        exact ⟨e₂, a₂, w₂, hq₂, .of_steps (harr _ (hg l' a₁ w₁ hJ')) harr₂⟩
      | ret => exact ⟨_, a₁, w₁, hq, harr⟩
      | panic ch => exact ⟨_, a₁, w₁, hq, harr⟩
      | outgrown => exact ⟨_, a₁, w₁, hq, harr⟩
  obtain ⟨e, a₁, w₁, hq, harr⟩ := first b (.inScope c :: k) cs
  cases e with
  | normal => exact ⟨.normal, a₁, w₁, hq, .head step_scope (Steps.trans harr (.one step_inScope))⟩
  | exit id => exact ⟨.exit id, a₁, w₁, hq, fun k' hk => .head step_scope (harr k' (by simp [exitTo, hk]))⟩
  | goto l' =>
    obtain ⟨e₂, a₂, w₂, hq₂, harr₂⟩ := key _ l' a₁ w₁ rfl hq
    exact ⟨e₂, a₂, w₂, hq₂, .of_steps (.head step_scope (harr _ (hg l' a₁ w₁ hq))) harr₂⟩
  | ret => exact ⟨_, a₁, w₁, hq, .of_steps (.one step_scope) harr⟩
  | panic ch => exact ⟨_, a₁, w₁, hq, .of_steps (.one step_scope) harr⟩
  | outgrown => exact ⟨_, a₁, w₁, hq, .of_steps (.one step_scope) harr⟩
/-- Code that runs on to a label: what holds there is all that is asked. -/
theorem fall4 {A B C D R : Code} {l : Nat} {J : Act → World → Prop} (h : ∀ K : Code, Hid (∀ a w, J a w → K.wp P Q a w) → (A.seq (B.seq (C.seq (D.seq ((Code.label l).seq K))))).wp P Q a w) (hR : ∀ a w, J a w → R.wp P Q a w) :
    (A.seq (B.seq (C.seq (D.seq ((Code.label l).seq R))))).wp P Q a w := h R hR
theorem fall2 {A B R : Code} {l : Nat} {J : Act → World → Prop} (h : ∀ K : Code, Hid (∀ a w, J a w → K.wp P Q a w) → (A.seq (B.seq ((Code.label l).seq K))).wp P Q a w) (hR : ∀ a w, J a w → R.wp P Q a w) :
    (A.seq (B.seq ((Code.label l).seq R))).wp P Q a w := h R hR
/-- A measure is lowered by more than enough. -/
theorem jumps_mono {J : Nat → Act → World → Prop} {μ : Nat → Act → World → Nat} {n m : Nat} (hnm : n ≤ m) {c : Code} (h : c.wp P (jumps (fun l' a' w' => J l' a' w' ∧ μ l' a' w' < n) Q) a w) : c.wp P (jumps (fun l' a' w' => J l' a' w' ∧ μ l' a' w' < m) Q) a w :=
  Code.wp_mono (fun e a w h => by
    cases e with
    | goto l => exact ⟨h.1, Nat.lt_of_lt_of_le h.2 hnm⟩
    | normal => exact h
    | exit id => exact h
    | ret => exact h
    | panic ch => exact h
    | outgrown => exact h) h
theorem jumps_weak {J : Nat → Act → World → Prop} {μ : Nat → Act → World → Nat} {n : Nat} {c : Code} (h : c.wp P (jumps (fun l' a' w' => J l' a' w' ∧ μ l' a' w' < n) Q) a w) : c.wp P (jumps J Q) a w :=
  Code.wp_mono (fun e a w h => by
    cases e with
    | goto l => exact h.1
    | normal => exact h
    | exit id => exact h
    | ret => exact h
    | panic ch => exact h
    | outgrown => exact h) h
end
section
variable {P : Program} {a : Act} {w : World} {Q : Exit → Act → World → Prop}
/-- The scope of line: three labels, one behind the other. -/
theorem scope_line {A B C D E K2 K1 c : Code} {Y Z V : Code} (J : Nat → Act → World → Prop) (μ : Nat → Act → World → Nat)
    (hc : c = A.seq (B.seq (C.seq ((Code.label 0).seq (D.seq (E.seq ((Code.label 2).seq K2))))))) (hk : K2 = Y.seq (Z.seq (V.seq ((Code.label 1).seq K1))))
    (hf0 : findLabel c 0 = some (Code.skip.seq (D.seq (E.seq ((Code.label 2).seq K2))))) (hf1 : findLabel c 1 = some (Code.skip.seq K1)) (hf2 : findLabel c 2 = some (Code.skip.seq K2))
    (hJ : ∀ l a w, J l a w → l = 0 ∨ l = 1 ∨ l = 2)
    (hfirst : ∀ K : Code, Hid (∀ a w, J 0 a w → K.wp P (jumps J Q) a w) → (A.seq (B.seq (C.seq ((Code.label 0).seq K)))).wp P (jumps J Q) a w)
    (h0 : ∀ a w, J 0 a w → ∀ K : Code, Hid (∀ a' w', J 2 a' w' → μ 2 a' w' ≤ μ 0 a w → K.wp P (jumps (fun l' a' w' => J l' a' w' ∧ μ l' a' w' < μ 0 a w) Q) a' w') → (D.seq (E.seq ((Code.label 2).seq K))).wp P (jumps (fun l' a' w' => J l' a' w' ∧ μ l' a' w' < μ 0 a w) Q) a w)
    (h2 : ∀ a w, J 2 a w → (Y.seq (Z.seq (V.seq ((Code.label 1).seq K1)))).wp P (jumps (fun l' a' w' => J l' a' w' ∧ μ l' a' w' < μ 2 a w) Q) a w)
    (h1 : ∀ a w, J 1 a w → K1.wp P (jumps (fun l' a' w' => J l' a' w' ∧ μ l' a' w' < μ 1 a w) Q) a w) : (Code.scope c).wp P Q a w := by
  have h2' : ∀ a w, J 2 a w → K2.wp P (jumps (fun l' a' w' => J l' a' w' ∧ μ l' a' w' < μ 2 a w) Q) a w := fun a w h => by rw [hk]; exact h2 a w h
  have h0' : ∀ a w, J 0 a w → (D.seq (E.seq ((Code.label 2).seq K2))).wp P (jumps (fun l' a' w' => J l' a' w' ∧ μ l' a' w' < μ 0 a w) Q) a w := fun a w h => h0 a w h K2 (fun a' w' hj hle => jumps_mono hle (h2' a' w' hj))
  refine wp_scope_many J μ (fun l => (findLabel c l).getD Code.skip) (fun l a w h => ?_) ?_ (fun l a w h => ?_)
  · rcases hJ l a w h with rfl | rfl | rfl
    · rw [hf0]; rfl
    · rw [hf1]; rfl
    · rw [hf2]; rfl
  · rw [hc]
    exact hfirst _ (fun a w h => jumps_weak (h0' a w h))
  · rcases hJ l a w h with rfl | rfl | rfl
    · rw [hf0]; exact wp_seq (wp_skip (h0' a w h))
    · rw [hf1]; exact wp_seq (wp_skip (h1 a w h))
    · rw [hf2]; exact wp_seq (wp_skip (h2' a w h))
end
theorem own_mono {w : World} {b0 base size : Nat} {e : TypeId} {v : Value} {n : Nat} {xs : List Value} (h : w.ownsRow base e size v n xs) (hb : b0 ≤ base) : w.ownsRow b0 e size v n xs := by
  refine ⟨h.1, ?_⟩
  rcases h.2 with q | ⟨g, cap, cur, q1, q2, q3⟩
  · exact .inl q
  · exact .inr ⟨g, cap, cur, q1, Nat.le_trans hb q2, q3⟩
/-- The record's blocks are there. -/
theorem RdIs.lt {w : World} {base p m : Nat} {vc vl vu : Value} {tag : Nat → Nat} {r : Rd} (h : RdIs w base p m vc vl vu tag r) {k : Nat} (hk : ROwn p m vc vl vu k) : k < w.heap.size := by
  rcases hk with e | e | e | e | e
  · subst e; exact lt_of_block h.box
  · subst e; obtain ⟨es, cl, hm, _⟩ := h.map.ex; exact lt_of_block hm
  · exact ownBlock_lt h.code.own e
  · exact ownBlock_lt h.labs e
  · exact ownBlock_lt h.uses e
theorem RdAt.below {w : World} {S : Nat → Prop} {base p : Nat} {r : Rd} (h : RdAt w S base p r) : RdAt w (fun k => S k ∧ k < w.heap.size) base p r := by
  obtain ⟨m, vc, vl, vu, tag, h1, h2⟩ := h
  exact ⟨m, vc, vl, vu, tag, h1, fun k hk => ⟨h2 k hk, h1.lt hk⟩⟩
theorem RdAt.base_le {w : World} {S : Nat → Prop} {base p : Nat} {r : Rd} (h : RdAt w S base p r) : base ≤ w.heap.size := by
  obtain ⟨m, vc, vl, vu, tag, h1, h2⟩ := h
  exact h1.code.base

/-- The words of a word and what stands behind it. -/
def tk (wd l : List UInt8) : List (List UInt8) := if wd = [] then [] else wd :: toks l
theorem tk_next (l : List UInt8) : toks l = tk (nextW l).1 (nextW l).2 := by
  unfold tk
  split
  · rename_i h; exact toks_nil h
  · rename_i h; exact toks_cons h
/-- The end of a line: an instruction of all words, or none. -/
def finR (r : Rd) (n : Nat) (T : List (List UInt8)) : Option Rd := if T = [] then some r else insR r T n
theorem fin_line {r : Rd} {n : Nat} {wd l : List UInt8} (h : wd.getLast? ≠ some 58) : lineR r n (tk wd l) = finR r n (tk wd l) := by
  unfold tk
  split
  · rfl
  · rw [lineR, if_neg h]; rfl
def flatL (ws : List (List UInt8)) : Nat := (ws.flatMap fun x => 32 :: x).length
theorem flatL_app (ws : List (List UInt8)) (x : List UInt8) : flatL (ws ++ [x]) = flatL ws + x.length + 1 := by simp [flatL]; omega
theorem flatL_cons (x : List UInt8) (ws : List (List UInt8)) : flatL (x :: ws) = x.length + 1 + flatL ws := by simp [flatL]; omega
theorem flatL_len : ∀ ws : List (List UInt8), ws.length ≤ flatL ws
  | [] => by simp
  | x :: t => by have := flatL_len t; rw [flatL_cons, List.length_cons]; omega
theorem flatL_set : ∀ (ws : List (List UInt8)) (k : Nat), flatL (ws.set k [48]) ≤ flatL ws + 1
  | [], k => by simp
  | x :: t, 0 => by rw [List.set_cons_zero, flatL_cons, flatL_cons, List.length_singleton]; omega
  | x :: t, k + 1 => by have := flatL_set t k; rw [List.set_cons_succ, flatL_cons, flatL_cons]; omega
theorem joinB_flat (ws : List (List UInt8)) : (joinB ws).length ≤ flatL ws := by
  cases ws with
  | nil => simp [joinB]
  | cons h t => rw [flatL_cons]; simp [joinB, flatL]
theorem joinB_zeroed (ws : List (List UInt8)) : (joinB (zeroed ws)).length ≤ flatL ws + 1 := by
  have h1 := joinB_flat (zeroed ws)
  have h2 : flatL (zeroed ws) ≤ flatL ws + 1 := by
    unfold zeroed
    split
    · exact flatL_set ws (ws.length - 1)
    · omega
  omega
end Go.Proofs.YtppejcfghlpbjaaGreatDoor
