
/- Walks of SameSpans of equals. No statement of the seat is proved here. -/
import Derived.Test.YtljapgoeomedkaaDoorDcJ
import Derived.Test.YtljapgoeomedkaaDoorDbE
namespace Go.Proofs.YtljapgoeomedkaaDoor
open Go.RowKit Go.Shelf

set_option maxRecDepth 100000 in
set_option maxHeartbeats 20000000 in
theorem samespans_any (va vb : Value) (A B : List Spn) (hAB : A.map Spn.pure = B.map Spn.pure) (hA : A.length ≤ 1048576) (hl : ∀ s ∈ A, s.e.length ≤ 1048576 ∧ s.a.length ≤ 1048576) (ba bb : Nat) (w : World) (ha : Sps w ba va A) (hb : Sps w bb vb B) : Calls Tryd.prog 20 #[va, vb] w fun e w' => e = .returned (.bool true) ∧ Keeps (fun _ => False) w w' := by
  have hlen : B.length = A.length := by simpa using (congrArg List.length hAB).symm
  have hmx : Tryd.prog.follows .mixedOrders = true := by kernel_rfl
  have HS : Hid (∀ X, Keeps (fun _ => False) w X → Sps X ba va A ∧ Sps X bb vb B) := fun X k => ⟨ha.keeps k, hb.keeps k⟩
  obtain ⟨ab, ac, rfl⟩ := ha.form
  obtain ⟨bo, bc, rfl⟩ := hb.form
  rw [hlen] at HS ⊢
  clear ha hb
  go_enter Tryd.func20, Tryd.ntmps20
  go_wp2_with fail
  go_loopw [5] (fun m wr => ∃ k : Nat, m = .int .i64 k ∧ k ≤ A.length ∧ Hid (Keeps (fun _ => False) w wr)) (fun m _ => A.length - (intOf m).toNat)
  case atStart => exact ⟨0, rfl, Nat.zero_le _, Keeps.refl _ _⟩
  case round =>
    obtain ⟨k, rfl, hk, hq⟩ := hrel
    by_cases hkl : k < A.length
    · have hki : (k : Int) < A.length := by omega
      have hkb : k < B.length := by omega
      obtain ⟨hSA, hSB⟩ := HS.out wr hq.out
      obtain ⟨ag, rfl, -, a0, a1, a2⟩ := hSA.at k hkl
      obtain ⟨bg, rfl, -, b0, b1, b2⟩ := hSB.at k hkb
      have hm := List.getElem_mem hkl
      have hp : Spn.pure (A[k]) = Spn.pure (B[k]) := by
        have h1 : (A.map Spn.pure)[k]? = (B.map Spn.pure)[k]? := by rw [hAB]
        rw [List.getElem?_map, List.getElem?_map, List.getElem?_eq_getElem hkl, List.getElem?_eq_getElem hkb] at h1
        simpa using h1
      have eA := hSA.each _ hm
      have eB := hSB.each _ (List.getElem_mem hkb)
      have hll := hl _ hm
      generalize A[k] = x at *
      generalize B[k] = y at *
      obtain ⟨xb, xe, xa, xv, xw⟩ := x
      obtain ⟨yb, ye, ya, yv, yw⟩ := y
      simp only [Spn.pure, Prod.mk.injEq] at hp
      obtain ⟨rfl, rfl, rfl⟩ := hp
      dsimp only at a0 a1 a2 b0 b1 b2 eA eB hll
      have HE : Hid (∀ X, Keeps (fun _ => False) wr X → Calls Tryd.prog 25 #[xv, yv] X fun e w' => e = .returned (.bool true) ∧ Keeps (fun _ => False) X w') := fun X kX => sameints_any _ _ _ hll.1 X (eA.1.keeps kX (fun _ _ f => f)).num (eB.1.keeps kX (fun _ _ f => f)).num
      have HF : Hid (∀ X, Keeps (fun _ => False) wr X → Calls Tryd.prog 25 #[xw, yw] X fun e w' => e = .returned (.bool true) ∧ Keeps (fun _ => False) X w') := fun X kX => sameints_any _ _ _ hll.2 X (eA.2.keeps kX (fun _ _ f => f)).num (eB.2.keeps kX (fun _ _ f => f)).num
      have S0 : (fun X : World => X.cell? ⟨ag, k * 3, none⟩ = some (.int .i64 (xb : Int)) ∧ X.cell? ⟨ag, k * 3 + 1, none⟩ = some xv ∧ X.cell? ⟨ag, k * 3 + 2, none⟩ = some xw ∧ X.cell? ⟨bg, k * 3, none⟩ = some (.int .i64 (xb : Int)) ∧ X.cell? ⟨bg, k * 3 + 1, none⟩ = some yv ∧ X.cell? ⟨bg, k * 3 + 2, none⟩ = some yw) wr.drew := ⟨a0, a1, a2, b0, b1, b2⟩
      have HX : Hid (∀ X, Keeps (fun _ => False) wr.drew X → (fun X : World => X.cell? ⟨ag, k * 3, none⟩ = some (.int .i64 (xb : Int)) ∧ X.cell? ⟨ag, k * 3 + 1, none⟩ = some xv ∧ X.cell? ⟨ag, k * 3 + 2, none⟩ = some xw ∧ X.cell? ⟨bg, k * 3, none⟩ = some (.int .i64 (xb : Int)) ∧ X.cell? ⟨bg, k * 3 + 1, none⟩ = some yv ∧ X.cell? ⟨bg, k * 3 + 2, none⟩ = some yw) X) := fun X kX => ⟨cell_keeps2 kX a0, cell_keeps2 kX a1, cell_keeps2 kX a2, cell_keeps2 kX b0, cell_keeps2 kX b1, cell_keeps2 kX b2⟩
      have KD : Keeps (fun _ => False) wr wr.drew := (Keeps.refl _ _).drewN 1
      obtain ⟨x1, x2, x3, rfl⟩ : ∃ b n c, xv = .slice b n c := by
        obtain ⟨b, c, h⟩ := eA.1.form
        exact ⟨_, _, _, h⟩
      obtain ⟨x4, x5, x6, rfl⟩ : ∃ b n c, xw = .slice b n c := by
        obtain ⟨b, c, h⟩ := eA.2.form
        exact ⟨_, _, _, h⟩
      obtain ⟨y1, y2, y3, rfl⟩ : ∃ b n c, yv = .slice b n c := by
        obtain ⟨b, c, h⟩ := eB.1.form
        exact ⟨_, _, _, h⟩
      obtain ⟨y4, y5, y6, rfl⟩ : ∃ b n c, yw = .slice b n c := by
        obtain ⟨b, c, h⟩ := eB.2.form
        exact ⟨_, _, _, h⟩
      clear hSA hSB hm eA eB hll a0 a1 a2 b0 b1 b2
      go_wp2_with fail
      refine wp_held_end (S := (fun X : World => X.cell? ⟨ag, k * 3, none⟩ = some (.int .i64 (xb : Int)) ∧ X.cell? ⟨ag, k * 3 + 1, none⟩ = some (.slice x1 x2 x3) ∧ X.cell? ⟨ag, k * 3 + 2, none⟩ = some (.slice x4 x5 x6) ∧ X.cell? ⟨bg, k * 3, none⟩ = some (.int .i64 (xb : Int)) ∧ X.cell? ⟨bg, k * 3 + 1, none⟩ = some (.slice y1 y2 y3) ∧ X.cell? ⟨bg, k * 3 + 2, none⟩ = some (.slice y4 y5 y6))) 39 rfl hmx ?_
      generalize wr.drew = wd at *
      simp only [Array.replicate_succ, Array.replicate_zero, List.push_toArray, List.nil_append, List.cons_append]
      refine held_take (i := 0) (v := .slice (some ⟨ag, 0, none⟩) A.length ac) 17 rfl rfl (by kernel_rfl) (by kernel_rfl) (by kernel_rfl) rfl (fun w' hw' => by obtain ⟨z0, z1, z2, z3, z4, z5⟩ := hw'; go_simp) S0 ?_
      simp only [Act.put, List.setIfInBounds_toArray, List.set_cons_zero, List.set_cons_succ]
      refine held_take (i := 1) (v := .int .i64 (k : Int)) 18 rfl rfl (by kernel_rfl) (by kernel_rfl) (by kernel_rfl) rfl (fun w' hw' => by obtain ⟨z0, z1, z2, z3, z4, z5⟩ := hw'; go_simp) S0 ?_
      simp only [Act.put, List.setIfInBounds_toArray, List.set_cons_zero, List.set_cons_succ]
      refine held_take (i := 2) (v := .pointer (some ⟨ag, k * 3, none⟩)) 19 rfl rfl (by kernel_rfl) (by kernel_rfl) (by kernel_rfl) rfl (fun w' hw' => by obtain ⟨z0, z1, z2, z3, z4, z5⟩ := hw'; go_simp) S0 ?_
      simp only [Act.put, List.setIfInBounds_toArray, List.set_cons_zero, List.set_cons_succ]
      refine held_take (i := 3) (v := .pointer (some ⟨ag, k * 3, none⟩)) 20 rfl rfl (by kernel_rfl) (by kernel_rfl) (by kernel_rfl) rfl (fun w' hw' => by obtain ⟨z0, z1, z2, z3, z4, z5⟩ := hw'; go_simp) S0 ?_
      simp only [Act.put, List.setIfInBounds_toArray, List.set_cons_zero, List.set_cons_succ]
      refine held_take (i := 4) (v := .int .i64 (xb : Int)) 21 rfl rfl (by kernel_rfl) (by kernel_rfl) (by kernel_rfl) rfl (fun w' hw' => by obtain ⟨z0, z1, z2, z3, z4, z5⟩ := hw'; go_simp) S0 ?_
      simp only [Act.put, List.setIfInBounds_toArray, List.set_cons_zero, List.set_cons_succ]
      refine held_take (i := 5) (v := .slice (some ⟨bg, 0, none⟩) A.length bc) 22 rfl rfl (by kernel_rfl) (by kernel_rfl) (by kernel_rfl) rfl (fun w' hw' => by obtain ⟨z0, z1, z2, z3, z4, z5⟩ := hw'; go_simp) S0 ?_
      simp only [Act.put, List.setIfInBounds_toArray, List.set_cons_zero, List.set_cons_succ]
      refine held_take (i := 6) (v := .int .i64 (k : Int)) 23 rfl rfl (by kernel_rfl) (by kernel_rfl) (by kernel_rfl) rfl (fun w' hw' => by obtain ⟨z0, z1, z2, z3, z4, z5⟩ := hw'; go_simp) S0 ?_
      simp only [Act.put, List.setIfInBounds_toArray, List.set_cons_zero, List.set_cons_succ]
      refine held_take (i := 7) (v := .pointer (some ⟨bg, k * 3, none⟩)) 24 rfl rfl (by kernel_rfl) (by kernel_rfl) (by kernel_rfl) rfl (fun w' hw' => by obtain ⟨z0, z1, z2, z3, z4, z5⟩ := hw'; go_simp) S0 ?_
      simp only [Act.put, List.setIfInBounds_toArray, List.set_cons_zero, List.set_cons_succ]
      refine held_take (i := 8) (v := .pointer (some ⟨bg, k * 3, none⟩)) 25 rfl rfl (by kernel_rfl) (by kernel_rfl) (by kernel_rfl) rfl (fun w' hw' => by obtain ⟨z0, z1, z2, z3, z4, z5⟩ := hw'; go_simp) S0 ?_
      simp only [Act.put, List.setIfInBounds_toArray, List.set_cons_zero, List.set_cons_succ]
      refine held_take (i := 9) (v := .int .i64 (xb : Int)) 26 rfl rfl (by kernel_rfl) (by kernel_rfl) (by kernel_rfl) rfl (fun w' hw' => by obtain ⟨z0, z1, z2, z3, z4, z5⟩ := hw'; go_simp) S0 ?_
      simp only [Act.put, List.setIfInBounds_toArray, List.set_cons_zero, List.set_cons_succ]
      refine held_take (i := 10) (v := .bool false) 27 rfl rfl (by kernel_rfl) (by kernel_rfl) (by kernel_rfl) rfl (fun w' hw' => by obtain ⟨z0, z1, z2, z3, z4, z5⟩ := hw'; go_simp) S0 ?_
      simp only [Act.put, List.setIfInBounds_toArray, List.set_cons_zero, List.set_cons_succ]
      refine held_take (i := 11) (v := .bool false) 28 rfl rfl (by kernel_rfl) (by kernel_rfl) (by kernel_rfl) rfl (fun w' hw' => by obtain ⟨z0, z1, z2, z3, z4, z5⟩ := hw'; go_simp) S0 ?_
      simp only [Act.put, List.setIfInBounds_toArray, List.set_cons_zero, List.set_cons_succ]
      refine held_take (i := 12) (v := .slice (some ⟨ag, 0, none⟩) A.length ac) 29 rfl rfl (by kernel_rfl) (by kernel_rfl) (by kernel_rfl) rfl (fun w' hw' => by obtain ⟨z0, z1, z2, z3, z4, z5⟩ := hw'; go_simp) S0 ?_
      simp only [Act.put, List.setIfInBounds_toArray, List.set_cons_zero, List.set_cons_succ]
      refine held_take (i := 13) (v := .int .i64 (k : Int)) 30 rfl rfl (by kernel_rfl) (by kernel_rfl) (by kernel_rfl) rfl (fun w' hw' => by obtain ⟨z0, z1, z2, z3, z4, z5⟩ := hw'; go_simp) S0 ?_
      simp only [Act.put, List.setIfInBounds_toArray, List.set_cons_zero, List.set_cons_succ]
      refine held_take (i := 14) (v := .pointer (some ⟨ag, k * 3, none⟩)) 31 rfl rfl (by kernel_rfl) (by kernel_rfl) (by kernel_rfl) rfl (fun w' hw' => by obtain ⟨z0, z1, z2, z3, z4, z5⟩ := hw'; go_simp) S0 ?_
      simp only [Act.put, List.setIfInBounds_toArray, List.set_cons_zero, List.set_cons_succ]
      refine held_take (i := 15) (v := .pointer (some ⟨ag, k * 3 + 1, none⟩)) 32 rfl rfl (by kernel_rfl) (by kernel_rfl) (by kernel_rfl) rfl (fun w' hw' => by obtain ⟨z0, z1, z2, z3, z4, z5⟩ := hw'; go_simp) S0 ?_
      simp only [Act.put, List.setIfInBounds_toArray, List.set_cons_zero, List.set_cons_succ]
      refine held_take (i := 16) (v := .slice x1 x2 x3) 33 rfl rfl (by kernel_rfl) (by kernel_rfl) (by kernel_rfl) rfl (fun w' hw' => by obtain ⟨z0, z1, z2, z3, z4, z5⟩ := hw'; go_simp) S0 ?_
      simp only [Act.put, List.setIfInBounds_toArray, List.set_cons_zero, List.set_cons_succ]
      refine held_take (i := 17) (v := .slice (some ⟨bg, 0, none⟩) A.length bc) 34 rfl rfl (by kernel_rfl) (by kernel_rfl) (by kernel_rfl) rfl (fun w' hw' => by obtain ⟨z0, z1, z2, z3, z4, z5⟩ := hw'; go_simp) S0 ?_
      simp only [Act.put, List.setIfInBounds_toArray, List.set_cons_zero, List.set_cons_succ]
      refine held_take (i := 18) (v := .int .i64 (k : Int)) 35 rfl rfl (by kernel_rfl) (by kernel_rfl) (by kernel_rfl) rfl (fun w' hw' => by obtain ⟨z0, z1, z2, z3, z4, z5⟩ := hw'; go_simp) S0 ?_
      simp only [Act.put, List.setIfInBounds_toArray, List.set_cons_zero, List.set_cons_succ]
      refine held_take (i := 19) (v := .pointer (some ⟨bg, k * 3, none⟩)) 36 rfl rfl (by kernel_rfl) (by kernel_rfl) (by kernel_rfl) rfl (fun w' hw' => by obtain ⟨z0, z1, z2, z3, z4, z5⟩ := hw'; go_simp) S0 ?_
      simp only [Act.put, List.setIfInBounds_toArray, List.set_cons_zero, List.set_cons_succ]
      refine held_take (i := 20) (v := .pointer (some ⟨bg, k * 3 + 1, none⟩)) 37 rfl rfl (by kernel_rfl) (by kernel_rfl) (by kernel_rfl) rfl (fun w' hw' => by obtain ⟨z0, z1, z2, z3, z4, z5⟩ := hw'; go_simp) S0 ?_
      simp only [Act.put, List.setIfInBounds_toArray, List.set_cons_zero, List.set_cons_succ]
      refine held_take (i := 21) (v := .slice y1 y2 y3) 38 rfl rfl (by kernel_rfl) (by kernel_rfl) (by kernel_rfl) rfl (fun w' hw' => by obtain ⟨z0, z1, z2, z3, z4, z5⟩ := hw'; go_simp) S0 ?_
      simp only [Act.put, List.setIfInBounds_toArray, List.set_cons_zero, List.set_cons_succ]
      refine held_call (i := 22) 39 (by kernel_rfl) rfl rfl rfl (by go_simp) ((HE.out _ KD).mono ?_)
      rintro e V1 ⟨rfl, kv1⟩
      have S1 := HX.out V1 kv1
      refine ⟨_, rfl, S1, ?_⟩
      simp only [Act.put, List.setIfInBounds_toArray, List.set_cons_zero, List.set_cons_succ]
      refine held_val (i := 23) (v := .bool false) (w' := V1) (some 40) (by kernel_rfl) rfl rfl rfl (by go_simp) S1 ?_
      simp only [Act.put, List.setIfInBounds_toArray, List.set_cons_zero, List.set_cons_succ]
      refine held_val (i := 24) (v := .bool false) (w' := V1) (some 41) (by kernel_rfl) rfl rfl rfl (by go_simp) S1 ?_
      simp only [Act.put, List.setIfInBounds_toArray, List.set_cons_zero, List.set_cons_succ]
      refine held_val (i := 25) (v := .bool false) (w' := V1) (some 42) (by kernel_rfl) rfl rfl rfl (by go_simp) S1 ?_
      simp only [Act.put, List.setIfInBounds_toArray, List.set_cons_zero, List.set_cons_succ]
      refine held_take (i := 26) (v := .slice (some ⟨ag, 0, none⟩) A.length ac) 43 rfl rfl (by kernel_rfl) (by kernel_rfl) (by kernel_rfl) rfl (fun w' hw' => by obtain ⟨z0, z1, z2, z3, z4, z5⟩ := hw'; go_simp) S1 ?_
      simp only [Act.put, List.setIfInBounds_toArray, List.set_cons_zero, List.set_cons_succ]
      refine held_take (i := 27) (v := .int .i64 (k : Int)) 44 rfl rfl (by kernel_rfl) (by kernel_rfl) (by kernel_rfl) rfl (fun w' hw' => by obtain ⟨z0, z1, z2, z3, z4, z5⟩ := hw'; go_simp) S1 ?_
      simp only [Act.put, List.setIfInBounds_toArray, List.set_cons_zero, List.set_cons_succ]
      refine held_take (i := 28) (v := .pointer (some ⟨ag, k * 3, none⟩)) 45 rfl rfl (by kernel_rfl) (by kernel_rfl) (by kernel_rfl) rfl (fun w' hw' => by obtain ⟨z0, z1, z2, z3, z4, z5⟩ := hw'; go_simp) S1 ?_
      simp only [Act.put, List.setIfInBounds_toArray, List.set_cons_zero, List.set_cons_succ]
      refine held_take (i := 29) (v := .pointer (some ⟨ag, k * 3 + 2, none⟩)) 46 rfl rfl (by kernel_rfl) (by kernel_rfl) (by kernel_rfl) rfl (fun w' hw' => by obtain ⟨z0, z1, z2, z3, z4, z5⟩ := hw'; go_simp) S1 ?_
      simp only [Act.put, List.setIfInBounds_toArray, List.set_cons_zero, List.set_cons_succ]
      refine held_take (i := 30) (v := .slice x4 x5 x6) 47 rfl rfl (by kernel_rfl) (by kernel_rfl) (by kernel_rfl) rfl (fun w' hw' => by obtain ⟨z0, z1, z2, z3, z4, z5⟩ := hw'; go_simp) S1 ?_
      simp only [Act.put, List.setIfInBounds_toArray, List.set_cons_zero, List.set_cons_succ]
      refine held_take (i := 31) (v := .slice (some ⟨bg, 0, none⟩) A.length bc) 48 rfl rfl (by kernel_rfl) (by kernel_rfl) (by kernel_rfl) rfl (fun w' hw' => by obtain ⟨z0, z1, z2, z3, z4, z5⟩ := hw'; go_simp) S1 ?_
      simp only [Act.put, List.setIfInBounds_toArray, List.set_cons_zero, List.set_cons_succ]
      refine held_take (i := 32) (v := .int .i64 (k : Int)) 49 rfl rfl (by kernel_rfl) (by kernel_rfl) (by kernel_rfl) rfl (fun w' hw' => by obtain ⟨z0, z1, z2, z3, z4, z5⟩ := hw'; go_simp) S1 ?_
      simp only [Act.put, List.setIfInBounds_toArray, List.set_cons_zero, List.set_cons_succ]
      refine held_take (i := 33) (v := .pointer (some ⟨bg, k * 3, none⟩)) 50 rfl rfl (by kernel_rfl) (by kernel_rfl) (by kernel_rfl) rfl (fun w' hw' => by obtain ⟨z0, z1, z2, z3, z4, z5⟩ := hw'; go_simp) S1 ?_
      simp only [Act.put, List.setIfInBounds_toArray, List.set_cons_zero, List.set_cons_succ]
      refine held_take (i := 34) (v := .pointer (some ⟨bg, k * 3 + 2, none⟩)) 51 rfl rfl (by kernel_rfl) (by kernel_rfl) (by kernel_rfl) rfl (fun w' hw' => by obtain ⟨z0, z1, z2, z3, z4, z5⟩ := hw'; go_simp) S1 ?_
      simp only [Act.put, List.setIfInBounds_toArray, List.set_cons_zero, List.set_cons_succ]
      refine held_take (i := 35) (v := .slice y4 y5 y6) 52 rfl rfl (by kernel_rfl) (by kernel_rfl) (by kernel_rfl) rfl (fun w' hw' => by obtain ⟨z0, z1, z2, z3, z4, z5⟩ := hw'; go_simp) S1 ?_
      simp only [Act.put, List.setIfInBounds_toArray, List.set_cons_zero, List.set_cons_succ]
      refine held_call (i := 36) 53 (by kernel_rfl) rfl rfl rfl (by go_simp) ((HF.out _ (KD.trans kv1)).mono ?_)
      rintro e V2 ⟨rfl, kv2⟩
      have S2 := HX.out V2 (kv1.trans kv2)
      refine ⟨_, rfl, S2, ?_⟩
      simp only [Act.put, List.setIfInBounds_toArray, List.set_cons_zero, List.set_cons_succ]
      refine held_val (i := 37) (v := .bool false) (w' := V2) (some 54) (by kernel_rfl) rfl rfl rfl (by go_simp) S2 ?_
      simp only [Act.put, List.setIfInBounds_toArray, List.set_cons_zero, List.set_cons_succ]
      refine held_val (i := 38) (v := .bool false) (w' := V2) (some 55) (by kernel_rfl) rfl rfl rfl (by go_simp) S2 ?_
      simp only [Act.put, List.setIfInBounds_toArray, List.set_cons_zero, List.set_cons_succ]
      refine held_end (by kernel_rfl) ?_ _
      clear HE HF HX S0 S1 S2
      have KV := ((hq.out.trans KD).trans kv1).trans kv2
      clear KD kv1 kv2
      go_wp2_with fail
      go_roundw
      · exact ⟨k + 1, by simp, by omega, KV⟩
      · simp [intOf]; omega
    · have hki : ¬ (k : Int) < A.length := by omega
      obtain rfl : k = A.length := by omega
      go_wp2_with fail
      go_ret
      exact ⟨rfl, hq.out⟩
end Go.Proofs.YtljapgoeomedkaaDoor
