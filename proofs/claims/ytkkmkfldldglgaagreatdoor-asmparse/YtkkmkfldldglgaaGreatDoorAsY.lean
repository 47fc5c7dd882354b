
/- Walks of the document's line, Line (package parleyref09). No statement of the seat is proved here. -/
import Derived.Test.YtkkmkfldldglgaaGreatDoorAsX
namespace Go.Proofs.YtkkmkfldldglgaaGreatDoor
open Go.RowKit Go.Shelf

/-- An instruction's text with a text in the place of its number. -/
def lineL (i : I5) (t : List UInt8) : List UInt8 := (nms[i.op.toNat]?).getD [] ++ blanked (regL i) ++ (if numB i.op then 32 :: t else [])
theorem line_text {i : I5} (h : formedB i = true) : lineL i (Lib.decDigits i.n.toNat) = textL i := by
  unfold lineL textL
  rw [numL_eq h]
  cases numB i.op <;> simp [blanked]

set_option maxRecDepth 100000 in
set_option maxHeartbeats 4000000 in
theorem rline_any (i : I5) (hf : formedB i = true) (t : List UInt8) (ht : t.length ≤ 1048576) (w : World) :
    Calls Tryz.prog 51 #[.agg i.cells, .string ⟨t.toArray⟩] w fun e w' => e = .returned (.string ⟨(lineL i t).toArray⟩) ∧ Keeps (fun _ => False) w w' := by
  have hmx : Tryz.prog.follows .mixedOrders = true := by kernel_rfl
  obtain ⟨⟨h0, h1⟩, -, ⟨ha0, ha1⟩, ⟨hb0, hb1⟩, ⟨hc0, hc1⟩⟩ := formed_facts hf
  have FM := rform_any i.op
  have hm3 := regsN_le3 i.op
  have hnm : ((nms[i.op.toNat]?).getD []).length ≤ 10 := by
    have : ∀ l ∈ nms, l.length ≤ 10 := by decide
    cases h : nms[i.op.toNat]? with
    | none => simp
    | some l => exact this l (List.mem_of_getElem? h)
  unfold lineL regL
  obtain ⟨op, a, b, c, n⟩ := i
  dsimp only at *
  obtain ⟨p, rfl⟩ : ∃ p : Nat, op = p := ⟨op.toNat, by omega⟩
  have hna := namesA_at p (by omega)
  unfold nm at hna
  rw [show ((p : Int)).toNat = p by omega] at hnm ⊢
  generalize (nms[p]?).getD [] = NM at *
  generalize regsN (p : Int) = m at *
  generalize numB (p : Int) = nb at *
  generalize tgtB (p : Int) = tb at *
  clear hf
  have hp18 : (p : Int) < 18 := by omega
  obtain ⟨a, rfl⟩ : ∃ x : Nat, a = x := ⟨a.toNat, by omega⟩
  obtain ⟨b, rfl⟩ : ∃ x : Nat, b = x := ⟨b.toNat, by omega⟩
  obtain ⟨c, rfl⟩ : ∃ x : Nat, c = x := ⟨c.toNat, by omega⟩
  obtain ⟨M, hM⟩ : ∃ M : Int, M = m := ⟨_, rfl⟩
  rw [← hM] at FM
  have HM : Hid (M = m) := hM
  clear hM
  have NA := rnames_any
  obtain ⟨w0, hw0⟩ : ∃ w0, w0 = w.alloc (.cells #[.int .i64 (p : Int), .int .i64 (a : Int), .int .i64 (b : Int), .int .i64 (c : Int), .int .u64 n] 37) := ⟨_, rfl⟩
  have hk0 : Keeps (fun _ => False) w w0 := by rw [hw0]; exact (Keeps.refl (fun _ => False) w).alloc _
  have hb0 : w0.heap[w.heap.size]? = some (.cells #[.int .i64 (p : Int), .int .i64 (a : Int), .int .i64 (b : Int), .int .i64 (c : Int), .int .u64 n] 37 (0, 0)) := by rw [hw0]; exact alloc_block _ _
  obtain ⟨z, hz⟩ : ∃ z, z = w.heap.size := ⟨_, rfl⟩
  rw [← hz] at hb0
  have HZ : Hid (z = w.heap.size) := hz
  have HW0 : Hid (w0 = w.alloc (.cells #[.int .i64 (p : Int), .int .i64 (a : Int), .int .i64 (b : Int), .int .i64 (c : Int), .int .u64 n] 37)) := hw0
  clear hz hw0
  obtain ⟨c0, c1, c2, c3, c4⟩ := cells5' hb0
  change Calls Tryz.prog 51 #[.agg #[.int .i64 (p : Int), .int .i64 (a : Int), .int .i64 (b : Int), .int .i64 (c : Int), .int .u64 n], .string ⟨t.toArray⟩] w _
  go_enter Tryz.func51, Tryz.ntmps51
  go_wp2_with fail
  rw [← HW0.out, ← HZ.out]
  refine (FM _).mono ?_
  rintro e w1 ⟨rfl, rfl⟩
  clear FM
  go_wp2_with fail
  have S0 : w1.drew.cell? ⟨z, 0, none⟩ = some (.int .i64 (p : Int)) := c0
  have kd : Keeps (fun _ => False) w w1.drew := hk0.drewN 1
  have hbd : w1.drew.heap[z]? = some (.cells #[.int .i64 (p : Int), .int .i64 (a : Int), .int .i64 (b : Int), .int .i64 (c : Int), .int .u64 n] 37 (0, 0)) := hb0
  refine wp_held_end (S := fun W => W.cell? ⟨z, 0, none⟩ = some (.int .i64 (p : Int))) 6 rfl hmx ?_
  generalize w1.drew = wd at *
  simp only [Array.replicate_succ, Array.replicate_zero, List.push_toArray, List.nil_append, List.cons_append]
  refine held_take (i := 1) (v := .pointer (some ⟨z, 0, none⟩)) 19 rfl rfl (by kernel_rfl) (by kernel_rfl) (by kernel_rfl) rfl (fun w' hw' => by go_simp) S0 ?_
  simp only [Act.put, List.setIfInBounds_toArray, List.set_cons_zero, List.set_cons_succ]
  refine held_take (i := 2) (v := .int .i64 (p : Int)) 20 rfl rfl (by kernel_rfl) (by kernel_rfl) (by kernel_rfl) rfl (fun w' hw' => by go_simp) S0 ?_
  simp only [Act.put, List.setIfInBounds_toArray, List.set_cons_zero, List.set_cons_succ]
  refine held_call (i := 0) 18 (by kernel_rfl) rfl rfl rfl (by go_simp) ((NA _).mono ?_)
  rintro e w2 ⟨rfl, hw2⟩
  have k2 : Keeps (fun _ => False) wd w2 := by rw [hw2]; exact (Keeps.refl (fun _ => False) wd).alloc _
  have hbn : w2.heap[wd.heap.size]? = some (.cells namesA 9 (0, 0)) := by rw [hw2]; exact alloc_block _ _
  have hb2 := (k2.block _ (lt_of_block hbd) (fun f => f)).trans hbd
  have S2 : w2.cell? ⟨z, 0, none⟩ = some (.int .i64 (p : Int)) := cell_of_block hb2 0
  have hcn : w2.cell? ⟨wd.heap.size, p, none⟩ = some (.string ⟨NM.toArray⟩) := (cell_of_block hbn p).trans hna
  refine ⟨_, rfl, S2, ?_⟩
  simp only [Act.put, List.setIfInBounds_toArray, List.set_cons_zero, List.set_cons_succ]
  clear hw2
  generalize wd.heap.size = zn at *
  refine held_val (i := 3) (v := .pointer (some ⟨zn, p, none⟩)) (w' := w2) (some 21) (by kernel_rfl) rfl rfl rfl (by go_simp) S2 ?_
  simp only [Act.put, List.setIfInBounds_toArray, List.set_cons_zero, List.set_cons_succ]
  refine held_val (i := 4) (v := .string ⟨NM.toArray⟩) (w' := w2) (some 22) (by kernel_rfl) rfl rfl rfl (by go_simp) S2 ?_
  simp only [Act.put, List.setIfInBounds_toArray, List.set_cons_zero, List.set_cons_succ]
  refine held_val (i := 5) (v := .string ⟨NM.toArray⟩) (w' := w2) (some 8) (by kernel_rfl) rfl rfl rfl (by go_simp) S2 ?_
  simp only [Act.put, List.setIfInBounds_toArray, List.set_cons_zero, List.set_cons_succ]
  refine held_end (by kernel_rfl) ?_ _
  have kw2 := kd.trans k2
  clear hcn hbn hna hbd hb0 S0 S2 kd k2 NA hk0 c0 c1 c2 c3 c4
  obtain ⟨c0, c1, c2, c3, c4⟩ := cells5' hb2
  obtain ⟨W, hW⟩ : ∃ W, W = w2.alloc (.cells #[.int .i64 (a : Int), .int .i64 (b : Int), .int .i64 (c : Int)] 127) := ⟨_, rfl⟩
  have kW : Keeps (fun _ => False) w W := by rw [hW]; exact kw2.alloc _
  have hba : W.heap[w2.heap.size]? = some (.cells #[.int .i64 (a : Int), .int .i64 (b : Int), .int .i64 (c : Int)] 127 (0, 0)) := by rw [hW]; exact alloc_block _ _
  have HWW : Hid (W = w2.alloc (.cells #[.int .i64 (a : Int), .int .i64 (b : Int), .int .i64 (c : Int)] 127)) := hW
  clear hW
  have DG := fun (x : Nat) (h : x < 8) (X : World) => rdigits_any x (by omega) X
  go_wp2_with fail
  rw [← HWW.out]
  have HC : Hid (∀ X, Keeps (fun _ => False) W X → X.cell? ⟨w2.heap.size, 0, none⟩ = some (.int .i64 (a : Int)) ∧ X.cell? ⟨w2.heap.size, 1, none⟩ = some (.int .i64 (b : Int)) ∧ X.cell? ⟨w2.heap.size, 2, none⟩ = some (.int .i64 (c : Int))) := fun X kX => by
    have := (kX.block _ (lt_of_block hba) (fun f => f)).trans hba
    exact ⟨cell_of_block this 0, cell_of_block this 1, cell_of_block this 2⟩
  have k00 : Keeps (fun _ => False) W W := Keeps.refl _ _
  generalize w2.heap.size = z2 at *
  clear c0 c1 c2 c3 c4 hb2 hba kw2 HWW
  go_loopw [8, 10] (fun v v2 wr => ∃ (k : Nat) (X : List UInt8), v = .string ⟨X.toArray⟩ ∧ v2 = .int .i64 k ∧ k ≤ m ∧ Keeps (fun _ => False) W wr ∧ Hid (X = NM ++ blanked ([(a : Int), b, c].take k) ∧ X.length ≤ 10 + 30 * k)) (fun _ v _ => m - (intOf v).toNat)
  case atStart => exact ⟨0, NM, rfl, rfl, Nat.zero_le _, k00, ⟨by simp [blanked], by omega⟩⟩
  case round =>
    obtain ⟨k, X, rfl, rfl, hkm, kX, hh⟩ := hrel
    obtain ⟨hX, hXl⟩ := hh.out
    obtain ⟨q0, q1, q2⟩ := HC.out wr kX
    by_cases hlt : k < m
    · rcases (by omega : k = 0 ∨ k = 1 ∨ k = 2) with rfl | rfl | rfl
      · have f1 : 0 < M := by rw [HM.out]; omega
        have D := DG a (by omega) wr
        have hDl : (Lib.decDigits a).length ≤ 20 := by rw [Lib.decDigits_length]; exact Lib.nDigits_le20 a (by omega)
        have s1 := str_app X [32]
        have s2 := str_app (X ++ [32]) (Lib.decDigits a)
        have gw : IntKind.u64.wrap (a : Int) = a := by simp [IntKind.wrap, IntKind.signed, IntKind.bits]; omega
        have t1 : ¬ 9223372036854775807 < X.length + 1 := by omega
        have t2 : ¬ 9223372036854775807 < (X ++ [32]).length + (Lib.decDigits a).length := by simp only [List.length_append, List.length_cons, List.length_nil]; omega
        clear hX DG
        go_wp2_with (go_at_call 33; refine D.mono ?_; rintro e w5 ⟨rfl, k5⟩)
        have kk := kX.trans k5
        go_roundw
        · obtain ⟨hX, _⟩ := hh.out
          refine ⟨0 + 1, X ++ [32] ++ Lib.decDigits a, ?_, rfl, by omega, kk, ⟨?_, by simp; omega⟩⟩
          · first | rfl | simp
          · rw [hX]; simp [blanked]
        · simp [intOf]; omega
      · have f1 : 1 < M := by rw [HM.out]; omega
        have D := DG b (by omega) wr
        have hDl : (Lib.decDigits b).length ≤ 20 := by rw [Lib.decDigits_length]; exact Lib.nDigits_le20 b (by omega)
        have s1 := str_app X [32]
        have s2 := str_app (X ++ [32]) (Lib.decDigits b)
        have gw : IntKind.u64.wrap (b : Int) = b := by simp [IntKind.wrap, IntKind.signed, IntKind.bits]; omega
        have t1 : ¬ 9223372036854775807 < X.length + 1 := by omega
        have t2 : ¬ 9223372036854775807 < (X ++ [32]).length + (Lib.decDigits b).length := by simp only [List.length_append, List.length_cons, List.length_nil]; omega
        clear hX DG
        go_wp2_with (go_at_call 33; refine D.mono ?_; rintro e w5 ⟨rfl, k5⟩)
        have kk := kX.trans k5
        go_roundw
        · obtain ⟨hX, _⟩ := hh.out
          refine ⟨1 + 1, X ++ [32] ++ Lib.decDigits b, ?_, rfl, by omega, kk, ⟨?_, by simp; omega⟩⟩
          · first | rfl | simp
          · rw [hX]; simp [blanked]
        · simp [intOf]; omega
      · have f1 : 2 < M := by rw [HM.out]; omega
        have D := DG c (by omega) wr
        have hDl : (Lib.decDigits c).length ≤ 20 := by rw [Lib.decDigits_length]; exact Lib.nDigits_le20 c (by omega)
        have s1 := str_app X [32]
        have s2 := str_app (X ++ [32]) (Lib.decDigits c)
        have gw : IntKind.u64.wrap (c : Int) = c := by simp [IntKind.wrap, IntKind.signed, IntKind.bits]; omega
        have t1 : ¬ 9223372036854775807 < X.length + 1 := by omega
        have t2 : ¬ 9223372036854775807 < (X ++ [32]).length + (Lib.decDigits c).length := by simp only [List.length_append, List.length_cons, List.length_nil]; omega
        clear hX DG
        go_wp2_with (go_at_call 33; refine D.mono ?_; rintro e w5 ⟨rfl, k5⟩)
        have kk := kX.trans k5
        go_roundw
        · obtain ⟨hX, _⟩ := hh.out
          refine ⟨2 + 1, X ++ [32] ++ Lib.decDigits c, ?_, rfl, by omega, kk, ⟨?_, by simp; omega⟩⟩
          · first | rfl | simp
          · rw [hX]; simp [blanked]
        · simp [intOf]; omega
    · obtain rfl : k = m := by omega
      have f1 : ¬ (k : Int) < M := by rw [HM.out]; omega
      have kk := kW.trans kX
      cases nb
      · clear hh DG
        go_wp2_with fail
        go_ret
        refine ⟨?_, kk⟩
        first | (simp; done) | (rw [hX]; simp)
      · have s1 := str_app X [32]
        have s2 := str_app (X ++ [32]) t
        have t1 : ¬ 9223372036854775807 < X.length + 1 := by omega
        have t2 : ¬ 9223372036854775807 < (X ++ [32]).length + t.length := by simp only [List.length_append, List.length_cons, List.length_nil]; omega
        have hX' : Hid (X ++ 32 :: t = NM ++ (blanked ([(a : Int), b, c].take k) ++ 32 :: t)) := by unfold Hid; rw [hX]; simp
        clear DG hX hh
        go_wp2_with fail
        go_ret
        refine ⟨?_, kk⟩
        rw [← hX'.out]
        rfl
set_option maxRecDepth 100000 in
set_option maxHeartbeats 4000000 in
theorem rLine_any (i : I5) (hf : formedB i = true) (hn0 : 0 ≤ i.n) (hn : i.n < 18446744073709551616) (w : World) :
    Calls Tryz.prog 48 #[.agg i.cells] w fun e w' => e = .returned (.string ⟨(textL i).toArray⟩) ∧ Keeps (fun _ => False) w w' := by
  have hlt := line_text hf
  have hdl : (Lib.decDigits i.n.toNat).length ≤ 20 := by rw [Lib.decDigits_length]; exact Lib.nDigits_le20 _ (by omega)
  have LN := rline_any i hf (Lib.decDigits i.n.toNat) (by omega)
  rw [hlt] at LN
  have DG := rdigits_any i.n.toNat (by omega)
  rw [show ((i.n.toNat : Nat) : Int) = i.n by omega] at DG
  generalize textL i = T at *
  generalize Lib.decDigits i.n.toNat = D at *
  obtain ⟨op, a, b, c, n⟩ := i
  dsimp only at *
  have hmx : Tryz.prog.follows .mixedOrders = true := by kernel_rfl
  obtain ⟨w0, hw0⟩ : ∃ w0, w0 = w.alloc (.cells #[.int .i64 op, .int .i64 a, .int .i64 b, .int .i64 c, .int .u64 n] 37) := ⟨_, rfl⟩
  have hk0 : Keeps (fun _ => False) w w0 := by rw [hw0]; exact (Keeps.refl (fun _ => False) w).alloc _
  have hb0 : w0.heap[w.heap.size]? = some (.cells #[.int .i64 op, .int .i64 a, .int .i64 b, .int .i64 c, .int .u64 n] 37 (0, 0)) := by rw [hw0]; exact alloc_block _ _
  obtain ⟨z, hz⟩ : ∃ z, z = w.heap.size := ⟨_, rfl⟩
  rw [← hz] at hb0
  have HZ : Hid (z = w.heap.size) := hz
  have HW0 : Hid (w0 = w.alloc (.cells #[.int .i64 op, .int .i64 a, .int .i64 b, .int .i64 c, .int .u64 n] 37)) := hw0
  clear hz hw0 hlt
  have HS : Hid (∀ X, Keeps (fun _ => False) w0 X → X.cell? ⟨z, 0, none⟩ = some (.int .i64 op) ∧ X.cell? ⟨z, 1, none⟩ = some (.int .i64 a) ∧ X.cell? ⟨z, 2, none⟩ = some (.int .i64 b) ∧ X.cell? ⟨z, 3, none⟩ = some (.int .i64 c) ∧ X.cell? ⟨z, 4, none⟩ = some (.int .u64 n)) := fun X kX => cells5' ((kX.block _ (lt_of_block hb0) (fun f => f)).trans hb0)
  change Calls Tryz.prog 48 #[.agg #[.int .i64 op, .int .i64 a, .int .i64 b, .int .i64 c, .int .u64 n]] w _
  have LN' : ∀ X, Calls Tryz.prog 51 #[.agg #[.int .i64 op, .int .i64 a, .int .i64 b, .int .i64 c, .int .u64 n], .string ⟨D.toArray⟩] X fun e w' => e = .returned (.string ⟨T.toArray⟩) ∧ Keeps (fun _ => False) X w' := LN
  clear LN hf hb0
  go_enter Tryz.func48, Tryz.ntmps48
  go_wp2_with fail
  rw [← HW0.out, ← HZ.out]
  have kd0 : Keeps (fun _ => False) w0 w0.drew := (Keeps.refl _ w0).drewN 1
  have S0 := HS.out _ kd0
  refine wp_held_end (S := fun X => X.cell? ⟨z, 0, none⟩ = some (.int .i64 op) ∧ X.cell? ⟨z, 1, none⟩ = some (.int .i64 a) ∧ X.cell? ⟨z, 2, none⟩ = some (.int .i64 b) ∧ X.cell? ⟨z, 3, none⟩ = some (.int .i64 c) ∧ X.cell? ⟨z, 4, none⟩ = some (.int .u64 n)) 6 rfl hmx ?_
  generalize w0.drew = wd at *
  simp only [Array.replicate_succ, Array.replicate_zero, List.push_toArray, List.nil_append, List.cons_append]
  refine held_take (i := 0) (v := .agg #[.int .i64 op, .int .i64 a, .int .i64 b, .int .i64 c, .int .u64 n]) 3 rfl rfl (by kernel_rfl) (by kernel_rfl) (by kernel_rfl) rfl (fun w' hw' => by obtain ⟨y0, y1, y2, y3, y4⟩ := hw'; go_simp) S0 ?_
  simp only [Act.put, List.setIfInBounds_toArray, List.set_cons_zero, List.set_cons_succ]
  refine held_take (i := 1) (v := .pointer (some ⟨z, 4, none⟩)) 4 rfl rfl (by kernel_rfl) (by kernel_rfl) (by kernel_rfl) rfl (fun w' hw' => by obtain ⟨y0, y1, y2, y3, y4⟩ := hw'; go_simp) S0 ?_
  simp only [Act.put, List.setIfInBounds_toArray, List.set_cons_zero, List.set_cons_succ]
  refine held_take (i := 2) (v := .int .u64 n) 5 rfl rfl (by kernel_rfl) (by kernel_rfl) (by kernel_rfl) rfl (fun w' hw' => by obtain ⟨y0, y1, y2, y3, y4⟩ := hw'; go_simp) S0 ?_
  simp only [Act.put, List.setIfInBounds_toArray, List.set_cons_zero, List.set_cons_succ]
  refine held_call (i := 3) 6 (by kernel_rfl) rfl rfl rfl (by go_simp) ((DG _).mono ?_)
  rintro e w1 ⟨rfl, k1⟩
  refine ⟨_, rfl, HS.out _ (kd0.trans k1), ?_⟩
  simp only [Act.put, List.setIfInBounds_toArray, List.set_cons_zero, List.set_cons_succ]
  refine held_call (i := 4) 7 (by kernel_rfl) rfl rfl rfl (by go_simp) ((LN' _).mono ?_)
  rintro e w2 ⟨rfl, k2⟩
  have kk := hk0.trans ((kd0.trans k1).trans k2)
  refine ⟨_, rfl, HS.out _ ((kd0.trans k1).trans k2), ?_⟩
  simp only [Act.put, List.setIfInBounds_toArray, List.set_cons_zero, List.set_cons_succ]
  refine held_val (i := 5) (v := .string ⟨T.toArray⟩) (w' := w2) (some 2) (by kernel_rfl) rfl rfl rfl (by go_simp) (HS.out _ ((kd0.trans k1).trans k2)) ?_
  simp only [Act.put, List.setIfInBounds_toArray, List.set_cons_zero, List.set_cons_succ]
  refine held_end (by kernel_rfl) ?_ _
  go_wp2_with fail
  go_ret
  exact ⟨rfl, kk⟩
end Go.Proofs.YtkkmkfldldglgaaGreatDoor
