/-
  No statement of the seat is proved here. (Several texts in one: OpE, OpF, OrA.)
-/
import Derived.Test.YthmiainhaebjiaaGreatDoorM06OpC
import Derived.DeepKeys3

/- Walks of strike, numbers (layer 16). No statement of the seat is proved here. -/
namespace Go.Proofs.YthmiainhaebjiaaGreatDoor
open Go.RowKit Go.Shelf

theorem hmxp : Tryz.prog.follows .mixedOrders = true := by kernel_rfl
def strD (D : List Int) (b e : Nat) : List Int := (D.set b ((D[b]?).getD 0 + 1)).set e (((D.set b ((D[b]?).getD 0 + 1))[e]?).getD 0 - 1)
theorem strD_len (D : List Int) (b e : Nat) : (strD D b e).length = D.length := by simp [strD]
theorem NR.cell {w : World} {base g n cap : Nat} {D : List Int} (h : NR w base (.slice (some ⟨g, 0, none⟩) n cap) D) (b : Nat) (hb : b < D.length) : w.cell? ⟨g, b, none⟩ = some (.int .i64 (D[b])) ∧ w.frozen? ⟨g, b, none⟩ = false ∧ n = D.length := by
  obtain ⟨g', off, hg, hc⟩ := (h.els nC_len).at b hb
  have hn : n = D.length := by obtain ⟨b', cp, e⟩ := h.form; injection e
  obtain ⟨g2, cap2, cur2, hv2, hg2, hb2, hs2⟩ := h.at (by omega)
  have e1 : g = g2 := by injection hv2 with q; injection q with q; injection q
  subst e1
  have hc := hc 0 _ rfl
  rcases h.own.2 with ⟨q, _⟩ | ⟨g3, cap3, cur3, q1, q2, q3, q4, q5, q6, q7⟩
  · cases q
  · have e2 : g = g3 := by injection q1 with q; injection q with q; injection q
    subst e2
    refine ⟨?_, frozen_of_block q3 _, hn⟩
    have hlt : b < cur3.size := by have : D.length * 1 ≤ cur3.size := by rw [q6]; omega
                                   omega
    rw [cell_of_block q3, ← Array.getElem?_toList, ← List.getElem?_take_of_lt (show b < D.length * 1 by omega), q7, flat_nC]
    simp [hb]
set_option maxRecDepth 100000 in
set_option maxHeartbeats 8000000 in
theorem strike_any (base sb fr g n cap : Nat) (D : List Int) (b e : Nat) (x y : Int) (hb : b < D.length) (he : e < D.length) (hx : D[b] = x) (hy : ((D.set b (x + 1))[e]?).getD 0 = y) (hbx : -4611686018427387904 < x ∧ x < 4611686018427387904) (hby : -4611686018427387904 < y ∧ y < 4611686018427387904) (hl : D.length ≤ 1300000) (_hf : fr ≤ 1300000) (w : World) (h : SpAt w base sb (fr : Int) (.slice (some ⟨g, 0, none⟩) n cap) D) :
    Calls Tryz.prog 51 #[.pointer (some ⟨sb, 0, none⟩), .int .i64 ((fr : Int) + (b : Int)), .int .i64 ((fr : Int) + (e : Int))] w fun ex w' => ex = .returned (.tuple #[]) ∧ SpAt w' base sb (fr : Int) (.slice (some ⟨g, 0, none⟩) n cap) (strD D b e) ∧ Keeps (fun q => q = g) w w' := by
  obtain ⟨c1, f1, hn⟩ := NR.cell h.row b hb
  rw [hx] at c1
  have hgs : ¬ g = sb := h.ap g rfl
  have hsg : ¬ sb = g := fun q => hgs q.symm
  have s0 : w.cell? ⟨sb, 0, none⟩ = some (.int .i64 (fr : Int)) := by rw [cell_of_block h.blk]; rfl
  have s1 : w.cell? ⟨sb, 1, none⟩ = some (.slice (some ⟨g, 0, none⟩) n cap) := by rw [cell_of_block h.blk]; rfl
  have r1 := h.row.set nC_len b 0 (x + 1) (.int .i64 (x + 1)) hb (by decide) rfl
  rw [Nat.mul_one, Nat.add_zero] at r1
  obtain ⟨c2, f2, -⟩ := NR.cell r1 e (by simpa using he)
  have hy2 : (D.set b (x + 1))[e]'(by simpa using he) = y := by rw [List.getElem?_eq_getElem (by simpa using he)] at hy; exact hy
  rw [hy2] at c2
  have r2 := r1.set nC_len e 0 (y - 1) (.int .i64 (y - 1)) (by simpa using he) (by decide) rfl
  rw [Nat.mul_one, Nat.add_zero] at r2
  have k1 := (Keeps.refl (fun q => q = g) w).setCell (p := ⟨g, b, none⟩) (.inr rfl) (.int .i64 (x + 1))
  have k2 := k1.setCell (p := ⟨g, e, none⟩) (.inr rfl) (.int .i64 (y - 1))
  have hD : strD D b e = (D.set b (x + 1)).set e (y - 1) := by
    unfold strD
    rw [List.getElem?_eq_getElem hb, hx]
    simp only [Option.getD_some]
    rw [hy]
  have HF0 : (∀ w' : World, w'.heap = ((w.setCell ⟨g, b, none⟩ (.int .i64 (x + 1))).setCell ⟨g, e, none⟩ (.int .i64 (y - 1))).heap → SpAt w' base sb (fr : Int) (.slice (some ⟨g, 0, none⟩) n cap) (strD D b e)) := fun w' hw => by
    rw [hD]
    refine ⟨by rw [hw]; exact (k2.block sb (lt_of_block h.blk) (fun q => hsg q)).trans h.blk, ⟨?_, by rw [hw]; exact r2.base⟩, h.ap, h.lo⟩
    have := r2.own
    unfold World.ownsRow at this ⊢
    rw [hw]
    exact this
  have wb : IntKind.i64.wrap ((fr : Int) + (b : Int) - (fr : Int)) = (b : Int) := by rw [IntKind.wrap_i64]; omega
  have we : IntKind.i64.wrap ((fr : Int) + (e : Int) - (fr : Int)) = (e : Int) := by rw [IntKind.wrap_i64]; omega
  have wx : IntKind.i64.wrap (x + 1) = x + 1 := by rw [IntKind.wrap_i64]; omega
  have wy : IntKind.i64.wrap (y - 1) = y - 1 := by rw [IntKind.wrap_i64]; omega
  have hb1 : (b : Int) < (n : Int) := by omega
  have he1 : (e : Int) < (n : Int) := by omega
  have hb0 : (0 : Int) ≤ (b : Int) := by omega
  have he0 : (0 : Int) ≤ (e : Int) := by omega
  have S0 : w.drew.cell? ⟨sb, 0, none⟩ = some (.int .i64 (fr : Int)) ∧ w.drew.cell? ⟨sb, 1, none⟩ = some (.slice (some ⟨g, 0, none⟩) n cap) ∧ w.drew.cell? ⟨g, b, none⟩ = some (.int .i64 x) := ⟨s0, s1, c1⟩
  have S1 : (w.drew.setCell ⟨g, b, none⟩ (.int .i64 (x + 1))).drew.cell? ⟨sb, 0, none⟩ = some (.int .i64 (fr : Int)) ∧ (w.drew.setCell ⟨g, b, none⟩ (.int .i64 (x + 1))).drew.cell? ⟨sb, 1, none⟩ = some (.slice (some ⟨g, 0, none⟩) n cap) ∧ (w.drew.setCell ⟨g, b, none⟩ (.int .i64 (x + 1))).drew.cell? ⟨g, e, none⟩ = some (.int .i64 y) := ⟨cell_keep k1 s0 hsg, cell_keep k1 s1 hsg, c2⟩
  have F1 : w.drew.frozen? ⟨g, b, none⟩ = false := f1
  have F2 : (w.drew.setCell ⟨g, b, none⟩ (.int .i64 (x + 1))).drew.frozen? ⟨g, e, none⟩ = false := f2
  clear f1 f2 c1 c2 s0 s1 r1 r2 hy hy2 hx hb he hbx hby hD hn hl _hf
  have KF : Hid (Keeps (fun q => q = g) w ((w.drew.setCell ⟨g, b, none⟩ (.int .i64 (x + 1))).drew.setCell ⟨g, e, none⟩ (.int .i64 (y - 1)))) := ((((Keeps.refl (fun q => q = g) w).drew).setCell (p := ⟨g, b, none⟩) (.inr rfl) (.int .i64 (x + 1))).drew).setCell (p := ⟨g, e, none⟩) (.inr rfl) (.int .i64 (y - 1))
  have HF : Hid (SpAt ((w.drew.setCell ⟨g, b, none⟩ (.int .i64 (x + 1))).drew.setCell ⟨g, e, none⟩ (.int .i64 (y - 1))) base sb (fr : Int) (.slice (some ⟨g, 0, none⟩) n cap) (strD D b e)) := HF0 _ rfl
  clear k1 k2 HF0
  go_enter Tryz.func51, Tryz.ntmps51
  go_wp2_with fail
  refine wp_until (S := (fun W : World => W.cell? ⟨sb, 0, none⟩ = some (.int .i64 (fr : Int)) ∧ W.cell? ⟨sb, 1, none⟩ = some (.slice (some ⟨g, 0, none⟩) n cap) ∧ W.cell? ⟨g, b, none⟩ = some (.int .i64 x))) 14 15 rfl hmxp ?_
  simp only [Array.replicate_succ, Array.replicate_zero, List.push_toArray, List.nil_append, List.cons_append]
  refine u_take (i := 0) (v := (.pointer (some ⟨sb, 0, none⟩))) 6 rfl rfl (by kernel_rfl) (by kernel_rfl) (by kernel_rfl) (by kernel_rfl) rfl (fun w' hw' => by obtain ⟨q0, q1, q2⟩ := hw'; go_simp) S0 ?_
  simp only [Act.put, List.setIfInBounds_toArray, List.set_cons_zero, List.set_cons_succ]
  refine u_take (i := 1) (v := (.pointer (some ⟨sb, 0, none⟩))) 7 rfl rfl (by kernel_rfl) (by kernel_rfl) (by kernel_rfl) (by kernel_rfl) rfl (fun w' hw' => by obtain ⟨q0, q1, q2⟩ := hw'; go_simp) S0 ?_
  simp only [Act.put, List.setIfInBounds_toArray, List.set_cons_zero, List.set_cons_succ]
  refine u_take (i := 2) (v := (.pointer (some ⟨sb, 1, none⟩))) 8 rfl rfl (by kernel_rfl) (by kernel_rfl) (by kernel_rfl) (by kernel_rfl) rfl (fun w' hw' => by obtain ⟨q0, q1, q2⟩ := hw'; go_simp) S0 ?_
  simp only [Act.put, List.setIfInBounds_toArray, List.set_cons_zero, List.set_cons_succ]
  refine u_take (i := 3) (v := (.slice (some ⟨g, 0, none⟩) n cap)) 9 rfl rfl (by kernel_rfl) (by kernel_rfl) (by kernel_rfl) (by kernel_rfl) rfl (fun w' hw' => by obtain ⟨q0, q1, q2⟩ := hw'; go_simp) S0 ?_
  simp only [Act.put, List.setIfInBounds_toArray, List.set_cons_zero, List.set_cons_succ]
  refine u_take (i := 4) (v := (.int .i64 ((fr : Int) + (b : Int)))) 10 rfl rfl (by kernel_rfl) (by kernel_rfl) (by kernel_rfl) (by kernel_rfl) rfl (fun w' hw' => by obtain ⟨q0, q1, q2⟩ := hw'; go_simp) S0 ?_
  simp only [Act.put, List.setIfInBounds_toArray, List.set_cons_zero, List.set_cons_succ]
  refine u_take (i := 5) (v := (.pointer (some ⟨sb, 0, none⟩))) 11 rfl rfl (by kernel_rfl) (by kernel_rfl) (by kernel_rfl) (by kernel_rfl) rfl (fun w' hw' => by obtain ⟨q0, q1, q2⟩ := hw'; go_simp) S0 ?_
  simp only [Act.put, List.setIfInBounds_toArray, List.set_cons_zero, List.set_cons_succ]
  refine u_take (i := 6) (v := (.pointer (some ⟨sb, 0, none⟩))) 12 rfl rfl (by kernel_rfl) (by kernel_rfl) (by kernel_rfl) (by kernel_rfl) rfl (fun w' hw' => by obtain ⟨q0, q1, q2⟩ := hw'; go_simp) S0 ?_
  simp only [Act.put, List.setIfInBounds_toArray, List.set_cons_zero, List.set_cons_succ]
  refine u_take (i := 7) (v := (.pointer (some ⟨sb, 0, none⟩))) 13 rfl rfl (by kernel_rfl) (by kernel_rfl) (by kernel_rfl) (by kernel_rfl) rfl (fun w' hw' => by obtain ⟨q0, q1, q2⟩ := hw'; go_simp) S0 ?_
  simp only [Act.put, List.setIfInBounds_toArray, List.set_cons_zero, List.set_cons_succ]
  refine u_take (i := 8) (v := (.int .i64 (fr : Int))) 14 rfl rfl (by kernel_rfl) (by kernel_rfl) (by kernel_rfl) (by kernel_rfl) rfl (fun w' hw' => by obtain ⟨q0, q1, q2⟩ := hw'; go_simp) S0 ?_
  simp only [Act.put, List.setIfInBounds_toArray, List.set_cons_zero, List.set_cons_succ]
  refine u_take (i := 9) (v := (.int .i64 (b : Int))) 15 rfl rfl (by kernel_rfl) (by kernel_rfl) (by kernel_rfl) (by kernel_rfl) rfl (fun w' hw' => by obtain ⟨q0, q1, q2⟩ := hw'; go_simp) S0 ?_
  simp only [Act.put, List.setIfInBounds_toArray, List.set_cons_zero, List.set_cons_succ]
  refine u_take (i := 10) (v := (.pointer (some ⟨g, b, none⟩))) 16 rfl rfl (by kernel_rfl) (by kernel_rfl) (by kernel_rfl) (by kernel_rfl) rfl (fun w' hw' => by obtain ⟨q0, q1, q2⟩ := hw'; go_simp) S0 ?_
  simp only [Act.put, List.setIfInBounds_toArray, List.set_cons_zero, List.set_cons_succ]
  refine u_take (i := 11) (v := (.int .i64 x)) 17 rfl rfl (by kernel_rfl) (by kernel_rfl) (by kernel_rfl) (by kernel_rfl) rfl (fun w' hw' => by obtain ⟨q0, q1, q2⟩ := hw'; go_simp) S0 ?_
  simp only [Act.put, List.setIfInBounds_toArray, List.set_cons_zero, List.set_cons_succ]
  refine u_take (i := 12) (v := (.int .i64 (x + 1))) 18 rfl rfl (by kernel_rfl) (by kernel_rfl) (by kernel_rfl) (by kernel_rfl) rfl (fun w' hw' => by obtain ⟨q0, q1, q2⟩ := hw'; go_simp) S0 ?_
  simp only [Act.put, List.setIfInBounds_toArray, List.set_cons_zero, List.set_cons_succ]
  refine u_take (i := 13) (v := (.pointer (some ⟨g, b, none⟩))) 19 rfl rfl (by kernel_rfl) (by kernel_rfl) (by kernel_rfl) (by kernel_rfl) rfl (fun w' hw' => by obtain ⟨q0, q1, q2⟩ := hw'; go_simp) S0 ?_
  simp only [Act.put, List.setIfInBounds_toArray, List.set_cons_zero, List.set_cons_succ]
  refine u_last (w' := w.drew.setCell ⟨g, b, none⟩ (.int .i64 (x + 1))) (by kernel_rfl) rfl rfl rfl (by go_simp) (by kernel_rfl) ?_
  clear S0 F1
  generalize w.drew.setCell ⟨g, b, none⟩ (.int .i64 (x + 1)) = Z at *
  go_wp2_with fail
  refine wp_until (S := (fun W : World => W.cell? ⟨sb, 0, none⟩ = some (.int .i64 (fr : Int)) ∧ W.cell? ⟨sb, 1, none⟩ = some (.slice (some ⟨g, 0, none⟩) n cap) ∧ W.cell? ⟨g, e, none⟩ = some (.int .i64 y))) 14 15 rfl hmxp ?_
  simp only [Array.replicate_succ, Array.replicate_zero, List.push_toArray, List.nil_append, List.cons_append]
  refine u_take (i := 0) (v := (.pointer (some ⟨sb, 0, none⟩))) 20 rfl rfl (by kernel_rfl) (by kernel_rfl) (by kernel_rfl) (by kernel_rfl) rfl (fun w' hw' => by obtain ⟨q0, q1, q2⟩ := hw'; go_simp) S1 ?_
  simp only [Act.put, List.setIfInBounds_toArray, List.set_cons_zero, List.set_cons_succ]
  refine u_take (i := 1) (v := (.pointer (some ⟨sb, 0, none⟩))) 21 rfl rfl (by kernel_rfl) (by kernel_rfl) (by kernel_rfl) (by kernel_rfl) rfl (fun w' hw' => by obtain ⟨q0, q1, q2⟩ := hw'; go_simp) S1 ?_
  simp only [Act.put, List.setIfInBounds_toArray, List.set_cons_zero, List.set_cons_succ]
  refine u_take (i := 2) (v := (.pointer (some ⟨sb, 1, none⟩))) 22 rfl rfl (by kernel_rfl) (by kernel_rfl) (by kernel_rfl) (by kernel_rfl) rfl (fun w' hw' => by obtain ⟨q0, q1, q2⟩ := hw'; go_simp) S1 ?_
  simp only [Act.put, List.setIfInBounds_toArray, List.set_cons_zero, List.set_cons_succ]
  refine u_take (i := 3) (v := (.slice (some ⟨g, 0, none⟩) n cap)) 23 rfl rfl (by kernel_rfl) (by kernel_rfl) (by kernel_rfl) (by kernel_rfl) rfl (fun w' hw' => by obtain ⟨q0, q1, q2⟩ := hw'; go_simp) S1 ?_
  simp only [Act.put, List.setIfInBounds_toArray, List.set_cons_zero, List.set_cons_succ]
  refine u_take (i := 4) (v := (.int .i64 ((fr : Int) + (e : Int)))) 24 rfl rfl (by kernel_rfl) (by kernel_rfl) (by kernel_rfl) (by kernel_rfl) rfl (fun w' hw' => by obtain ⟨q0, q1, q2⟩ := hw'; go_simp) S1 ?_
  simp only [Act.put, List.setIfInBounds_toArray, List.set_cons_zero, List.set_cons_succ]
  refine u_take (i := 5) (v := (.pointer (some ⟨sb, 0, none⟩))) 25 rfl rfl (by kernel_rfl) (by kernel_rfl) (by kernel_rfl) (by kernel_rfl) rfl (fun w' hw' => by obtain ⟨q0, q1, q2⟩ := hw'; go_simp) S1 ?_
  simp only [Act.put, List.setIfInBounds_toArray, List.set_cons_zero, List.set_cons_succ]
  refine u_take (i := 6) (v := (.pointer (some ⟨sb, 0, none⟩))) 26 rfl rfl (by kernel_rfl) (by kernel_rfl) (by kernel_rfl) (by kernel_rfl) rfl (fun w' hw' => by obtain ⟨q0, q1, q2⟩ := hw'; go_simp) S1 ?_
  simp only [Act.put, List.setIfInBounds_toArray, List.set_cons_zero, List.set_cons_succ]
  refine u_take (i := 7) (v := (.pointer (some ⟨sb, 0, none⟩))) 27 rfl rfl (by kernel_rfl) (by kernel_rfl) (by kernel_rfl) (by kernel_rfl) rfl (fun w' hw' => by obtain ⟨q0, q1, q2⟩ := hw'; go_simp) S1 ?_
  simp only [Act.put, List.setIfInBounds_toArray, List.set_cons_zero, List.set_cons_succ]
  refine u_take (i := 8) (v := (.int .i64 (fr : Int))) 28 rfl rfl (by kernel_rfl) (by kernel_rfl) (by kernel_rfl) (by kernel_rfl) rfl (fun w' hw' => by obtain ⟨q0, q1, q2⟩ := hw'; go_simp) S1 ?_
  simp only [Act.put, List.setIfInBounds_toArray, List.set_cons_zero, List.set_cons_succ]
  refine u_take (i := 9) (v := (.int .i64 (e : Int))) 29 rfl rfl (by kernel_rfl) (by kernel_rfl) (by kernel_rfl) (by kernel_rfl) rfl (fun w' hw' => by obtain ⟨q0, q1, q2⟩ := hw'; go_simp) S1 ?_
  simp only [Act.put, List.setIfInBounds_toArray, List.set_cons_zero, List.set_cons_succ]
  refine u_take (i := 10) (v := (.pointer (some ⟨g, e, none⟩))) 30 rfl rfl (by kernel_rfl) (by kernel_rfl) (by kernel_rfl) (by kernel_rfl) rfl (fun w' hw' => by obtain ⟨q0, q1, q2⟩ := hw'; go_simp) S1 ?_
  simp only [Act.put, List.setIfInBounds_toArray, List.set_cons_zero, List.set_cons_succ]
  refine u_take (i := 11) (v := (.int .i64 y)) 31 rfl rfl (by kernel_rfl) (by kernel_rfl) (by kernel_rfl) (by kernel_rfl) rfl (fun w' hw' => by obtain ⟨q0, q1, q2⟩ := hw'; go_simp) S1 ?_
  simp only [Act.put, List.setIfInBounds_toArray, List.set_cons_zero, List.set_cons_succ]
  refine u_take (i := 12) (v := (.int .i64 (y - 1))) 32 rfl rfl (by kernel_rfl) (by kernel_rfl) (by kernel_rfl) (by kernel_rfl) rfl (fun w' hw' => by obtain ⟨q0, q1, q2⟩ := hw'; go_simp) S1 ?_
  simp only [Act.put, List.setIfInBounds_toArray, List.set_cons_zero, List.set_cons_succ]
  refine u_take (i := 13) (v := (.pointer (some ⟨g, e, none⟩))) 33 rfl rfl (by kernel_rfl) (by kernel_rfl) (by kernel_rfl) (by kernel_rfl) rfl (fun w' hw' => by obtain ⟨q0, q1, q2⟩ := hw'; go_simp) S1 ?_
  simp only [Act.put, List.setIfInBounds_toArray, List.set_cons_zero, List.set_cons_succ]
  refine u_last (w' := Z.drew.setCell ⟨g, e, none⟩ (.int .i64 (y - 1))) (by kernel_rfl) rfl rfl rfl (by go_simp) (by kernel_rfl) ?_
  go_wp2_with fail
  go_end0
  exact ⟨rfl, HF.out, KF.out⟩
end Go.Proofs.YthmiainhaebjiaaGreatDoor


/- Walks of numbers, seen (layer 16). No statement of the seat is proved here. -/
namespace Go.Proofs.YthmiainhaebjiaaGreatDoor
open Go.RowKit Go.Shelf

def preL (D : List Int) (k : Nat) : Int := (D.take k).sum
theorem preL_succ (D : List Int) (k : Nat) (h : k < D.length) : preL D (k + 1) = preL D k + D[k] := by
  unfold preL; rw [List.take_succ_eq_append_getElem h, List.sum_append]; simp
theorem run_uptoT {t e : TypeId} {z : Value} {sz by_ : Nat} (hu : Tryz.prog.underlying t = some (.slice e)) (hin : (Tryz.prog.info? e).map (fun i => (i.zero, i.size, i.bytes)) = some (some z, sz, by_)) (W : World) (a : Option Addr) (n c m : Nat) (hm : m ≤ c) : (Instr.slice t (.slice a n c) none (some (.int .i64 m)) none).run Tryz.prog W = .ok (.slice a m c) W := by
  obtain ⟨i0, hi, hz0, hz1, hz2⟩ := info_parts hin
  have h1 : (0 : Int) ≤ m := by omega
  have h2 : (m : Int) ≤ c := by omega
  have h3 : (if c = 0 then a else a.map (·.add (0 * sz))) = a := by
    split
    · rfl
    · cases a with
      | none => rfl
      | some a => simp [Addr.add]
  simp [Instr.slice, run_underlying hu, Instr.sliceBounds, run_sliceBound, sizeOf, typeInfo, hi, h2]
  simpa using h3
set_option maxRecDepth 100000 in
set_option maxHeartbeats 8000000 in
theorem numbers_any (base sb fr : Nat) (v : Value) (D : List Int) (n : Nat) (hn : D.length = n + 1) (hl : n ≤ 1300000) (hf : fr ≤ 1300000) (hD : ∀ k, k < D.length → 0 ≤ preL D (k + 1) ∧ preL D (k + 1) ≤ 1300000) (w : World) (h : SpAt w base sb (fr : Int) v D) :
    Calls Tryz.prog 52 #[.pointer (some ⟨sb, 0, none⟩)] w fun ex w' => ∃ u, ex = .returned u ∧ NR w' w.heap.size u (numsD D fr n) ∧ Keeps (fun _ => False) w w' := by
  obtain ⟨g, cap, cur, rfl, hbg, hb2, hs2⟩ := h.row.at (by omega)
  have hcap : n + 1 ≤ cap := by
    rcases h.row.own.2 with ⟨q, _⟩ | ⟨g', cap', cur', q1, _, _, q4, _⟩
    · cases q
    · rw [hn] at q1 q4; injection q1 with _ _ q; omega
  have HC : Hid (∀ X, Keeps (fun _ => False) w X → ∀ k, k < D.length → X.cell? ⟨g, k, none⟩ = some (.int .i64 ((D[k]?).getD 0))) := fun X k j hj => by
    rw [cell_keep k (NR.cell h.row j hj).1 (fun f => f), List.getElem?_eq_getElem hj]; rfl
  rw [hn] at h
  have s0 : w.cell? ⟨sb, 0, none⟩ = some (.int .i64 (fr : Int)) := by rw [cell_of_block h.blk]; rfl
  have s1 : w.cell? ⟨sb, 1, none⟩ = some (.slice (some ⟨g, 0, none⟩) (n + 1) cap) := by rw [cell_of_block h.blk]; rfl
  have HS : Hid (∀ X, Keeps (fun _ => False) w X → X.cell? ⟨sb, 0, none⟩ = some (.int .i64 (fr : Int))) := fun X k => cell_keep k s0 (fun f => f)
  have hS0 : w.cell? ⟨sb, 1, none⟩ = some (.slice (some ⟨g, 0, none⟩) (n + 1) cap) := s1
  have hw1 : IntKind.i64.wrap (((n + 1 : Nat) : Int) - 1) = (n : Int) := by rw [IntKind.wrap_i64]; omega
  have hsl : ∀ W : World, (Instr.slice 34 (.slice (some ⟨g, 0, none⟩) (n + 1) cap) none (some (.int .i64 (n : Int))) none).run Tryz.prog W = .ok (.slice (some ⟨g, 0, none⟩) n cap) W := fun W => run_uptoT Tryz.underlying34 info_nC W _ _ _ _ (by omega)
  have O0 := OwnR.nil nC 1 3 w.drew
  clear h hb2 hs2 s1 s0 cur
  obtain ⟨N, hN⟩ : ∃ N : Nat, N = n + 1 := ⟨_, rfl⟩
  rw [← hN] at hS0 hw1 hsl
  have HN : Hid (N = n + 1) := hN
  clear hN
  have hc0 : ¬ cap = 0 := by omega
  have hnc : (n : Int) ≤ (cap : Int) := by omega
  have hn0 : (0 : Int) ≤ (n : Int) := by omega
  go_enter Tryz.func52, Tryz.ntmps52
  go_wp2_with fail
  go_region_held3 (fun W : World => W.cell? ⟨sb, 1, none⟩ = some (.slice (some ⟨g, 0, none⟩) N cap)) (first | assumption | (exact hS0) | go_keep) (fail)
  go_wp2_with fail
  have hsd : w.drew.heap.size = w.heap.size := rfl
  rw [hsd] at O0
  have KD : Keeps (fun _ => False) w w.drew := (Keeps.refl _ w).drew
  have HD : Hid (∀ k, k < D.length → 0 ≤ preL D (k + 1) ∧ preL D (k + 1) ≤ 1300000) := hD
  clear hD hsl hS0 hsd
  go_loopw [3, 4, 19] (fun u3 u4 u19 wr => ∃ (k : Nat), u4 = .int .i64 (preL D k) ∧ u19 = .int .i64 k ∧ k ≤ n ∧ NR wr w.heap.size u3 (numsD D fr k) ∧ Keeps (fun _ => False) w wr) (fun _ _ u _ => n - (intOf u).toNat)
  case atStart => exact ⟨0, by simp [preL], rfl, Nat.zero_le _, O0, KD⟩
  case round =>
    clear O0 KD
    obtain ⟨k, rfl, rfl, hk, hO, kr⟩ := hrel
    have hlen : (numsD D fr k).length ≤ k := by
      unfold numsD
      rw [List.length_map]
      exact Nat.le_trans (List.length_filter_le _ _) (by simp)
    by_cases hlt : k < n
    · have hki : (k : Int) < n := by omega
      have hk0 : (0 : Int) ≤ k := by omega
      have hkD : k < D.length := by omega
      have c1 := HC.out wr kr k hkD
      have s0 := HS.out wr kr
      rw [List.getElem?_eq_getElem hkD, Option.getD_some] at c1
      have hps := preL_succ D k hkD
      have hns := numsD_succ D fr k
      rw [show preD D k = preL D (k + 1) from rfl] at hns
      have hb := HD.out k hkD
      have hws : IntKind.i64.wrap (preL D k + D[k]) = preL D (k + 1) := by rw [IntKind.wrap_i64]; omega
      have hwf : IntKind.i64.wrap ((fr : Int) + (k : Int)) = (fr : Int) + (k : Int) := by rw [IntKind.wrap_i64]; omega
      generalize hpz : preL D (k + 1) = pz at *
      generalize hpk : preL D k = pk at *
      generalize hdk : D[k]'hkD = dk at *
      have HP : Hid (preL D (k + 1) = pz) := hpz
      clear hpz hpk hdk hps hb
      by_cases hz : pz = 0
      · rw [if_pos hz] at hns
        subst hz
        obtain ⟨v', w3, r1, r2, r3⟩ := hO.push nC_len nC_one (by decide) Tryz.underlying34 info_nC rfl (by decide) (ty := 34) ((fr : Int) + (k : Int)) (cs := #[.int .i64 ((fr : Int) + (k : Int))]) rfl (by omega)
        rw [← hns] at r2
        have K3 := OwnR.kept r3 kr hO
        obtain ⟨ub, uc, rfl⟩ := hO.form
        obtain ⟨ya, yn, rfl⟩ := r2.form
        have HA : Hid (_ = _) := r1
        have HF : Hid (NR w3 w.heap.size _ (numsD D fr (k + 1)) ∧ Keeps (fun _ => False) w w3) := ⟨r2, K3⟩
        generalize (numsD D fr k).length = m1 at *
        generalize (numsD D fr (k + 1)).length = m2 at *
        clear r1 r2 r3 hO hns K3 hlen
        go_wp2_with (at_builtin; refine wpList_append_run rfl _ _ 34 rfl rfl rfl HA.out ?_)
        go_roundw
        · exact ⟨k + 1, by rw [HP.out], by simp, by omega, HF.out⟩
        · simp [intOf]; omega
      · rw [if_neg hz] at hns
        have hzb : (pz == 0) = false := by rw [beq_eq_false_iff_ne]; exact hz
        have HF : Hid (NR wr w.heap.size u3 (numsD D fr (k + 1))) := by rw [hns]; exact hO
        obtain ⟨ub, uc, rfl⟩ := hO.form
        clear hO hns
        go_wp2_with fail
        go_roundw
        · exact ⟨k + 1, by rw [HP.out], by simp, by omega, HF.out, kr⟩
        · simp [intOf]; omega
    · obtain rfl : k = n := by omega
      have HF : Hid (NR wr w.heap.size u3 (numsD D fr k)) := hO
      obtain ⟨ub, uc, rfl⟩ := hO.form
      clear hO
      go_wp2_with fail
      go_ret
      exact ⟨_, rfl, HF.out, kr⟩
/-- Cells with their words. -/
@[reducible] def clC (p : Int × Int) : List Value := [.int .u64 p.1, .int .u64 p.2]
theorem cl_len (p : Int × Int) : (clC p).length = 2 := rfl
theorem cl_ne (p : Int × Int) : clC p ≠ [] := by simp
theorem cl_one (p : Int × Int) : ∀ u ∈ clC p, u.oneCell' = true := by
  intro u hu
  simp at hu
  rcases hu with rfl | rfl <;> rfl
theorem info_cl : (Tryz.prog.info? 28).map (fun i => (i.zero, i.size, i.bytes)) = some (some (.agg #[.int .u64 0, .int .u64 0]), 2, 16) := by kernel_rfl
abbrev CR (w : World) (base : Nat) (v : Value) (L : List (Int × Int)) : Prop := OwnR clC 2 28 w base v L
set_option maxRecDepth 100000 in
set_option maxHeartbeats 8000000 in
theorem seen_any (x : Bx) (hl : x.p.rs.length ≤ 1100000) (w : World) (h : ElsAt enC 3 w x.r.v x.p.rs) : Calls Tryz.prog 54 #[.agg x.cb.toArray] w fun ex w' => ∃ u, ex = .returned u ∧ CR w' w.heap.size u x.p.rs ∧ Keeps (fun _ => False) w w' := by
  obtain ⟨⟨pth, pkd, pfi, pla, pnu, pwr, per, prs, pws, psi, plk⟩, ⟨ra, rn, rc⟩, ⟨sa, sn, sc⟩⟩ := x
  dsimp only [Sl.v] at h hl ⊢
  change Calls Tryz.prog 54 #[.agg #[.int .i64 pth, .int .i64 pkd, .int .i64 pfi, .int .i64 pla, .int .u64 pnu, .bool pwr, .int .i64 per, .slice ra rn rc, .slice sa sn sc]] w _
  obtain ⟨a, cap, hv, hcap⟩ := h.shape
  injection hv with e1 e2 e3
  subst e1 e2 e3
  have HV : Hid (∀ X, Keeps (fun _ => False) w X → ElsAt enC 3 X (.slice ra prs.length rc) prs) := fun X k => h.keeps en_ne k
  have k0 := (Keeps.refl (fun _ => False) w).alloc (.cells #[.int .i64 pth, .int .i64 pkd, .int .i64 pfi, .int .i64 pla, .int .u64 pnu, .bool pwr, .int .i64 per, .slice ra prs.length rc, .slice sa sn sc] 73)
  clear h
  have O0 := (OwnR.nilB clC 2 28 _ w.heap.size k0.size)
  have hc0 : prs.length ≤ 1100000 := hl
  go_enter Tryz.func54, Tryz.ntmps54
  go_wp2_with fail
  go_loopw [3, 9] (fun u3 u wr => ∃ (k : Nat), u = .int .i64 k ∧ k ≤ prs.length ∧ CR wr w.heap.size u3 (prs.take k) ∧ Keeps (fun _ => False) w wr) (fun _ u _ => prs.length - (intOf u).toNat)
  case atStart => exact ⟨0, rfl, Nat.zero_le _, O0, k0⟩
  case round =>
    clear O0 k0
    obtain ⟨k, rfl, hk, hO, kr⟩ := hrel
    by_cases hlt : k < prs.length
    · have hki : (k : Int) < prs.length := by omega
      have hk0 : (0 : Int) ≤ k := by omega
      obtain ⟨g, off, rfl, hc⟩ := (HV.out wr kr).at k hlt
      have htk : prs.take (k + 1) = prs.take k ++ [prs[k]] := List.take_succ_eq_append_getElem hlt
      have hub : (prs.take k).length = k := by simp; omega
      generalize hx : prs[k]'hlt = x at *
      clear hx
      obtain ⟨ad, wd⟩ := x
      have y0 := hc 0 _ rfl
      have y1 := hc 1 _ rfl
      have y2 := hc 2 _ rfl
      dsimp only at y0 y1 y2
      simp only [Nat.add_zero] at y0
      have kA := (Keeps.refl (fun _ => False) wr).alloc (.cells #[.int .u64 ad, .int .u64 wd, .bool false] 75)
      obtain ⟨v', w3, r1, r2, r3⟩ := (hO.keeps kA (fun _ _ f => f)).push cl_len cl_one (by decide) Tryz.underlying24 info_cl rfl (by decide) (ty := 24) (ad, wd) (cs := #[.int .u64 ad, .int .u64 wd]) rfl (by rw [hub]; omega)
      rw [← htk] at r2
      rw [show (wr.alloc (.cells #[.int .u64 ad, .int .u64 wd, .bool false] 75)).heap.size = wr.heap.size + 1 by simp] at r1
      have K3 := OwnR.kept (Grew.ahead kA r3) kr (hO)
      obtain ⟨ub, uc, rfl⟩ := hO.form
      rw [hub] at r1 ⊢
      obtain ⟨⟨ya, yn, yc⟩, rfl, -⟩ := sl_of r2
      have HA : Hid (_ = _) := r1
      have HF : Hid (CR w3 w.heap.size (.slice ya yn yc) (prs.take (k + 1)) ∧ Keeps (fun _ => False) w w3) := ⟨r2, K3⟩
      clear hc r1 r2 r3 kA hO htk hub K3
      go_wp2_with (at_builtin; refine wpList_append_run rfl _ _ 24 rfl rfl rfl HA.out ?_)
      go_roundw
      · exact ⟨k + 1, by simp, by omega, HF.out⟩
      · simp [intOf]; omega
    · obtain rfl : k = prs.length := by omega
      have HF : Hid (CR wr w.heap.size u3 prs) := by rw [List.take_length] at hO; exact hO
      obtain ⟨ub, uc, rfl⟩ := hO.form
      clear hO
      go_wp2_with fail
      go_ret
      exact ⟨_, rfl, HF.out, kr⟩
end Go.Proofs.YthmiainhaebjiaaGreatDoor


/- A map that has cells for its keys, and nothing for its words: a set. No statement of the seat is proved here. -/
namespace Go.Proofs.YthmiainhaebjiaaGreatDoor
open Go.RowKit Go.Shelf

@[reducible] def ceV (p : Int × Int) : Value := .agg #[.int .u64 p.1, .int .u64 p.2]
theorem ceV_inj {p q : Int × Int} (h : ceV p = ceV q) : p = q := by
  obtain ⟨a, b⟩ := p
  obtain ⟨c, d⟩ := q
  simp [ceV] at h
  simp [h]
theorem eq_cellO (p q : Int × Int) (w : World) : (Op.equal 28 (ceV p) (ceV q)).run Tryz.prog w = .ok (decide (p = q)) w := by
  have u5 := Tryz.underlying26
  have a5 := Tryz.isAgg26
  have z5 := Tryz.sizeOf26
  have hS : Tryz.prog.underlying 28 = some (.struct (Tryz.prog.fieldsOf 28)) := by kernel_rfl
  unfold Op.equal
  rw [show Op.maxDepth = 9999 + 1 from rfl, run_equalIn_agg w 9999 28 _ _ hS (by kernel_rfl)]
  simp only [Program.fieldsOf, Tryz.underlying28]
  go_simp
  obtain ⟨a, b⟩ := p
  obtain ⟨c, d⟩ := q
  by_cases h1 : a = c <;> by_cases h2 : b = d <;> simp [h1, h2]
theorem askC (k : Int × Int) (w : World) : ∀ (l : List MapEntry) (L : List (Int × Int)) (i : Nat), l.map (fun x => (x.key, x.val)) = L.map (fun p => (ceV p, .agg #[])) →
    ((Instr.findAsking 28 (ceV k) l i).run Tryz.prog w = .ok none w ∧ k ∉ L) ∨ ∃ j, (Instr.findAsking 28 (ceV k) l i).run Tryz.prog w = .ok (some (i + j, .agg #[])) w ∧ L[j]? = some k
  | [], [], i, _ => .inl ⟨rfl, by simp⟩
  | [], q :: L, i, h => by simp at h
  | e :: l, [], i, h => by simp at h
  | e :: l, q :: L, i, h => by
    simp only [List.map_cons, List.cons.injEq, Prod.mk.injEq] at h
    obtain ⟨⟨hk, hv⟩, hr⟩ := h
    have heq := eq_cellO k q w
    by_cases hq : k = q
    · refine .inr ⟨0, ?_, by simp [hq]⟩
      rw [Instr.findAsking, hk]
      simp only [Sem.run_bind, heq, Result.andThen_ok]
      simp [hq, hv]
    · have hstep : (Instr.findAsking 28 (ceV k) (e :: l) i).run Tryz.prog w = (Instr.findAsking 28 (ceV k) l (i + 1)).run Tryz.prog w := by
        rw [Instr.findAsking, hk]
        simp only [Sem.run_bind, heq, Result.andThen_ok]
        simp [hq]
      rw [hstep]
      rcases askC k w l L (i + 1) hr with ⟨h1, h2⟩ | ⟨j, h1, h2⟩
      · exact .inl ⟨h1, by simp [hq, h2]⟩
      · exact .inr ⟨j + 1, by rw [h1, Nat.add_assoc, Nat.add_comm 1 j], by simpa using h2⟩
theorem findC (k : Int × Int) (w : World) (l : List MapEntry) (L : List (Int × Int)) (h : l.map (fun x => (x.key, x.val)) = L.map (fun p => (ceV p, .agg #[]))) :
    ((Instr.findKey 28 (ceV k) l).run Tryz.prog w = .ok none w ∧ k ∉ L) ∨ ∃ j, (Instr.findKey 28 (ceV k) l).run Tryz.prog w = .ok (some (j, .agg #[])) w ∧ L[j]? = some k := by
  rw [run_findKey_eq w (by rw [Tryz.underlying28])]
  rcases askC k w l L 0 h with h1 | ⟨j, h1, h2⟩
  · exact .inl h1
  · exact .inr ⟨j, by rw [h1, Nat.zero_add], h2⟩
theorem checkU (x : Int) (w : World) (em : Bool) (n : Nat) : (Instr.checkKey em (n + 1) 26 (.int .u64 x)).run Tryz.prog w = .ok () w := by
  simp [Instr.checkKey, run_underlying Tryz.underlying26]
theorem checkC (k : Int × Int) (w : World) (em : Bool) : (Instr.checkKey em 10000 28 (ceV k)).run Tryz.prog w = .ok () w := by
  have a5 := Tryz.isAgg26
  have z5 := Tryz.sizeOf26
  have c1 := fun x => checkU x w em 9998
  rw [show (10000 : Nat) = 9999 + 1 from rfl, Instr.checkKey]
  simp only [Sem.run_bind, run_underlying Tryz.underlying28, Result.andThen_ok]
  go_simp
/-- A set of cells, as it lies. -/
structure MapC (w : World) (b : Nat) (L : List (Int × Int)) : Prop where
  ex : ∃ (es : Array MapEntry) (clock : Nat), w.heap[b]? = some (.map es clock) ∧ es.toList.map (fun x => (x.key, x.val)) = L.map (fun p => (ceV p, .agg #[]))
theorem MapC.keeps {w w' : World} {S : Nat → Prop} {b : Nat} {L : List (Int × Int)} (h : MapC w b L) (k : Keeps S w w') (hs : ¬ S b) : MapC w' b L := by
  obtain ⟨es, clock, h1, h2⟩ := h.ex
  exact ⟨es, clock, (k.block b (lt_of_block h1) hs).trans h1, h2⟩
theorem MapC.lt {w : World} {b : Nat} {L : List (Int × Int)} (h : MapC w b L) : b < w.heap.size := by
  obtain ⟨es, clock, h1, h2⟩ := h.ex
  exact lt_of_block h1
theorem MapC.look {w : World} {b : Nat} {L : List (Int × Int)} (h : MapC w b L) (k : Int × Int) : (Instr.lookup 115 (.map (some b)) (ceV k) true).run Tryz.prog w = .ok (.tuple #[.agg #[], .bool (decide (k ∈ L))]) w := by
  obtain ⟨es, clock, h1, h2⟩ := h.ex
  have hgo := MapKept.run_getObj_map (P := Tryz.prog) h1
  have hck := fun e => checkC k w e
  have hzv := Tryz.zeroValue118
  rcases findC k w es.toList L h2 with ⟨f1, f2⟩ | ⟨j, f1, f2⟩
  · have hd : decide (k ∈ L) = false := by simp [f2]
    rw [hd]
    simp [Instr.lookup, run_underlying Tryz.underlying115, hgo, hck, f1, Result.andThen, go_sem]
  · have hd : decide (k ∈ L) = true := by simp [List.mem_of_getElem? f2]
    rw [hd]
    simp [Instr.lookup, run_underlying Tryz.underlying115, hgo, hck, f1, Result.andThen]
/-- A cell more. -/
theorem MapC.put {w : World} {b : Nat} {L : List (Int × Int)} (h : MapC w b L) (k : Int × Int) :
    ∃ w', (Instr.mapUpdate 115 (.map (some b)) (ceV k) (.agg #[])).run Tryz.prog w = .ok () w' ∧ MapC w' b (if k ∈ L then L else L ++ [k]) ∧ Keeps (fun q => q = b) w w' := by
  obtain ⟨es, clock, h1, h2⟩ := h.ex
  have hgo := MapKept.run_getObj_map (P := Tryz.prog) h1
  have hck := fun e => checkC k w e
  rcases findC k w es.toList L h2 with ⟨f1, f2⟩ | ⟨j, f1, f2⟩
  · have hso := MapKept.run_setObj_map (P := Tryz.prog) (.map (es.push { key := ceV k, val := .agg #[], born := clock }) (clock + 1)) h1
    refine ⟨{ w with heap := w.heap.setIfInBounds b (.map (es.push { key := ceV k, val := .agg #[], born := clock }) (clock + 1)) }, ?_, ⟨_, _, (MapKept.heap_set h1).1, ?_⟩, ?_⟩
    · simp [Instr.mapUpdate, run_underlying Tryz.underlying115, hgo, hck, f1, hso, Result.andThen]
    · rw [if_neg f2]
      simp [h2]
    · exact ⟨rfl, rfl, rfl, by simp, fun q hq hs => (MapKept.heap_set h1).2 q hs⟩
  · have hjl : j < es.size := by
      have h3 := congrArg List.length h2
      have h4 := (List.getElem?_eq_some_iff.1 f2).1
      simp at h3
      omega
    have hej : es[j]? = some es[j] := Array.getElem?_eq_getElem hjl
    have hkey : es[j].key = ceV k ∧ es[j].val = .agg #[] := by
      have h3 := congrArg (fun l : List (Value × Value) => l[j]?) h2
      simp only [List.getElem?_map, f2, Array.getElem?_toList, hej, Option.map_some, Option.some.injEq, Prod.mk.injEq] at h3
      exact h3
    have hsb : Instr.sameBits 10000 (ceV k) (ceV k) = true := by
      rw [show (10000 : Nat) = 9999 + 1 from rfl, Instr.sameBits]
      simp [Instr.sameBits]
    have hso := MapKept.run_setObj_map (P := Tryz.prog) (.map (es.modify j fun e => { e with key := ceV k, val := .agg #[] }) clock) h1
    refine ⟨{ w with heap := w.heap.setIfInBounds b (.map (es.modify j fun e => { e with key := ceV k, val := .agg #[] }) clock) }, ?_, ⟨_, _, (MapKept.heap_set h1).1, ?_⟩, ?_⟩
    · simp [Instr.mapUpdate, run_underlying Tryz.underlying115, hgo, hck, f1, hso, Result.andThen, hej, hkey.1, Instr.keyThatStays, hsb]
    · rw [if_pos (List.mem_of_getElem? f2), ← h2]
      apply List.ext_getElem?
      intro i
      simp only [List.getElem?_map, Array.getElem?_toList, Array.getElem?_modify]
      by_cases hi : j = i
      · subst hi
        simp [hej, hkey.1, hkey.2]
      · simp [hi]
    · exact ⟨rfl, rfl, rfl, by simp, fun q hq hs => (MapKept.heap_set h1).2 q hs⟩
end Go.Proofs.YthmiainhaebjiaaGreatDoor
