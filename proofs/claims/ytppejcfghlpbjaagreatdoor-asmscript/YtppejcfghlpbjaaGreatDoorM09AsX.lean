/-
  No statement of the seat is proved here. (Several texts in one: AsX, AsY, AsZ, AuA.)
-/
import Derived.Test.YtppejcfghlpbjaaGreatDoorM08AsW

/- Walks of the document's Formed, line, Line (package parleyref09). No statement of the seat is proved here. -/
namespace Go.Proofs.YtppejcfghlpbjaaGreatDoor
open Go.RowKit Go.Shelf

theorem cells5' {w : World} {b : Nat} {x0 x1 x2 x3 x4 : Value} {t : TypeId} (h : w.heap[b]? = some (.cells #[x0, x1, x2, x3, x4] t (0, 0))) : w.cell? ⟨b, 0, none⟩ = some x0 ∧ w.cell? ⟨b, 1, none⟩ = some x1 ∧ w.cell? ⟨b, 2, none⟩ = some x2 ∧ w.cell? ⟨b, 3, none⟩ = some x3 ∧ w.cell? ⟨b, 4, none⟩ = some x4 :=
  ⟨cell_of_block h 0, cell_of_block h 1, cell_of_block h 2, cell_of_block h 3, cell_of_block h 4⟩
theorem regsN_le3 (op : Int) : regsN op ≤ 3 := by
  by_cases h : 1 ≤ op ∧ op ≤ 17
  · exact (regsN_le h.1 h.2).1
  · by_cases h0 : op ≤ 0
    · have : op.toNat = 0 := by omega
      simp [regsN, this]
    · have : 18 ≤ op.toNat := by omega
      simp [regsN, List.getElem?_eq_none, this]

set_option maxRecDepth 100000 in
set_option maxHeartbeats 4000000 in
theorem rformed_any (i : I5) (w : World) : Calls Tryz.prog 39 #[.agg i.cells] w fun e w' => e = .returned (.bool (formedB i)) ∧ Keeps (fun _ => False) w w' := by
  obtain ⟨op, a, b, c, n⟩ := i
  have FM := rform_any op
  by_cases ho : 1 ≤ op ∧ op ≤ 17
  · have hres : Hid (formedB ⟨op, a, b, c, n⟩ = (okR (regsN op) 0 a && okR (regsN op) 1 b && okR (regsN op) 2 c && (numB op || decide (n = 0)))) := by
      unfold Hid
      simp only [formedB, ho, and_self, decide_true, Bool.true_and]
      cases (numB op || decide (n = 0)) <;> simp
    obtain ⟨ho1, ho2⟩ := ho
    have ho1' : ¬ op < 1 := by omega
    have ho2' : ¬ 17 < op := by omega
    generalize formedB ⟨op, a, b, c, n⟩ = F at *
    generalize regsN op = m' at *
    generalize numB op = nb at *
    generalize tgtB op = tb at *
    obtain ⟨m, hm⟩ : ∃ m : Int, m = (m' : Int) := ⟨_, rfl⟩
    rw [← hm] at FM hres
    have k0 := ((Keeps.refl (fun _ => False) w).alloc (.cells #[.int .i64 op, .int .i64 a, .int .i64 b, .int .i64 c, .int .u64 n] 45)).alloc (.cells #[.int .i64 a, .int .i64 b, .int .i64 c] 124)
    clear hm
    go_enter Tryz.func39, Tryz.ntmps39
    go_wp2_with fail
    refine (FM _).mono ?_
    rintro e w1 ⟨rfl, rfl⟩
    clear FM
    go_wp2_with fail
    go_loopw [7] (fun v wr => wr = (w.alloc (.cells #[.int .i64 op, .int .i64 a, .int .i64 b, .int .i64 c, .int .u64 n] 45)).alloc (.cells #[.int .i64 a, .int .i64 b, .int .i64 c] 124) ∧ ((v = .int .i64 0) ∨ (v = .int .i64 1 ∧ okR m 0 a = true) ∨ (v = .int .i64 2 ∧ okR m 0 a = true ∧ okR m 1 b = true) ∨ (v = .int .i64 3 ∧ okR m 0 a = true ∧ okR m 1 b = true ∧ okR m 2 c = true))) (fun v _ => 3 - (intOf v).toNat)
    case atStart => exact ⟨rfl, .inl rfl⟩
    case round =>
      obtain ⟨rfl, rfl | ⟨rfl, g0⟩ | ⟨rfl, g0, g1⟩ | ⟨rfl, g0, g1, g2⟩⟩ := hrel
      · by_cases hq : okR m 0 a = true
        · rcases okR_yes hq with ⟨e1, e2, e3⟩ | ⟨e1, e2⟩
          · have f1 : 0 < m := e1
            have f2 : ¬ a < 0 := by omega
            have f3 : ¬ 7 < a := by omega
            have f4 : ¬ m ≤ 0 := by omega
            clear e1 e2 e3 hres
            go_wp2_with fail
            go_roundw
            · exact ⟨by first | rfl | trivial, .inr (.inl ⟨rfl, hq⟩)⟩
            · decide
          · subst e2
            have f1 : ¬ 0 < m := by omega
            have f4 : m ≤ 0 := e1
            clear e1 hres
            go_wp2_with fail
            go_roundw
            · exact ⟨by first | rfl | trivial, .inr (.inl ⟨rfl, hq⟩)⟩
            · decide
        · have hf : okR m 0 a = false := by simpa using hq
          have hF : F = false := by rw [hres.out, hf]; simp
          clear hres
          rcases okR_no hf with ⟨e1, e2, e3⟩ | ⟨e1, e2⟩ | ⟨e1, e2⟩
          · have f1 : 0 < m := e1
            have f2 : ¬ a < 0 := by omega
            have f3 : 7 < a := by omega
            clear hq e1 e2 e3
            go_wp2_with fail
            go_ret
            exact ⟨by first | rfl | (rw [hF]; rfl), k0⟩
          · have f1 : 0 < m := e1
            clear hq e1
            go_wp2_with fail
            go_ret
            exact ⟨by first | rfl | (rw [hF]; rfl), k0⟩
          · have f1 : ¬ 0 < m := by omega
            have f4 : m ≤ 0 := e1
            clear hq e1
            go_wp2_with fail
            go_ret
            exact ⟨by first | rfl | (rw [hF]; rfl), k0⟩
      · by_cases hq : okR m 1 b = true
        · rcases okR_yes hq with ⟨e1, e2, e3⟩ | ⟨e1, e2⟩
          · have f1 : 1 < m := e1
            have f2 : ¬ b < 0 := by omega
            have f3 : ¬ 7 < b := by omega
            have f4 : ¬ m ≤ 1 := by omega
            clear e1 e2 e3 hres
            go_wp2_with fail
            go_roundw
            · exact ⟨by first | rfl | trivial, .inr (.inr (.inl ⟨rfl, g0, hq⟩))⟩
            · decide
          · subst e2
            have f1 : ¬ 1 < m := by omega
            have f4 : m ≤ 1 := e1
            clear e1 hres
            go_wp2_with fail
            go_roundw
            · exact ⟨by first | rfl | trivial, .inr (.inr (.inl ⟨rfl, g0, hq⟩))⟩
            · decide
        · have hf : okR m 1 b = false := by simpa using hq
          have hF : F = false := by rw [hres.out, hf]; simp
          clear hres
          rcases okR_no hf with ⟨e1, e2, e3⟩ | ⟨e1, e2⟩ | ⟨e1, e2⟩
          · have f1 : 1 < m := e1
            have f2 : ¬ b < 0 := by omega
            have f3 : 7 < b := by omega
            clear hq e1 e2 e3
            go_wp2_with fail
            go_ret
            exact ⟨by first | rfl | (rw [hF]; rfl), k0⟩
          · have f1 : 1 < m := e1
            clear hq e1
            go_wp2_with fail
            go_ret
            exact ⟨by first | rfl | (rw [hF]; rfl), k0⟩
          · have f1 : ¬ 1 < m := by omega
            have f4 : m ≤ 1 := e1
            clear hq e1
            go_wp2_with fail
            go_ret
            exact ⟨by first | rfl | (rw [hF]; rfl), k0⟩
      · by_cases hq : okR m 2 c = true
        · rcases okR_yes hq with ⟨e1, e2, e3⟩ | ⟨e1, e2⟩
          · have f1 : 2 < m := e1
            have f2 : ¬ c < 0 := by omega
            have f3 : ¬ 7 < c := by omega
            have f4 : ¬ m ≤ 2 := by omega
            clear e1 e2 e3 hres
            go_wp2_with fail
            go_roundw
            · exact ⟨by first | rfl | trivial, .inr (.inr (.inr ⟨rfl, g0, g1, hq⟩))⟩
            · decide
          · subst e2
            have f1 : ¬ 2 < m := by omega
            have f4 : m ≤ 2 := e1
            clear e1 hres
            go_wp2_with fail
            go_roundw
            · exact ⟨by first | rfl | trivial, .inr (.inr (.inr ⟨rfl, g0, g1, hq⟩))⟩
            · decide
        · have hf : okR m 2 c = false := by simpa using hq
          have hF : F = false := by rw [hres.out, hf]; simp
          clear hres
          rcases okR_no hf with ⟨e1, e2, e3⟩ | ⟨e1, e2⟩ | ⟨e1, e2⟩
          · have f1 : 2 < m := e1
            have f2 : ¬ c < 0 := by omega
            have f3 : 7 < c := by omega
            clear hq e1 e2 e3
            go_wp2_with fail
            go_ret
            exact ⟨by first | rfl | (rw [hF]; rfl), k0⟩
          · have f1 : 2 < m := e1
            clear hq e1
            go_wp2_with fail
            go_ret
            exact ⟨by first | rfl | (rw [hF]; rfl), k0⟩
          · have f1 : ¬ 2 < m := by omega
            have f4 : m ≤ 2 := e1
            clear hq e1
            go_wp2_with fail
            go_ret
            exact ⟨by first | rfl | (rw [hF]; rfl), k0⟩
      · have hF : F = (nb || decide (n = 0)) := by rw [hres.out, g0, g1, g2]; simp
        clear hres
        cases nb
        · by_cases hn : n = 0
          · subst hn
            go_wp2_with fail
            go_ret
            exact ⟨by first | rfl | (rw [hF]; rfl), k0⟩
          · have hn' : (n == 0) = false := by simpa using hn
            have hF' : F = false := by rw [hF]; simp [hn]
            clear hF
            go_wp2_with fail
            go_ret
            exact ⟨by first | rfl | (rw [hF']; rfl), k0⟩
        · go_wp2_with fail
          go_ret
          exact ⟨by first | rfl | (rw [hF]; rfl), k0⟩
  · have hres : formedB ⟨op, a, b, c, n⟩ = false := by simp [formedB, ho]
    have k0 := (Keeps.refl (fun _ => False) w).alloc (.cells #[.int .i64 op, .int .i64 a, .int .i64 b, .int .i64 c, .int .u64 n] 45)
    rw [hres]
    clear hres FM
    by_cases h1 : op < 1
    · clear ho
      go_enter Tryz.func39, Tryz.ntmps39
      go_wp2_with fail
      go_ret
      exact ⟨rfl, k0⟩
    · have h2 : 17 < op := by omega
      clear ho
      go_enter Tryz.func39, Tryz.ntmps39
      go_wp2_with fail
      go_ret
      exact ⟨rfl, k0⟩
end Go.Proofs.YtppejcfghlpbjaaGreatDoor


/- Walks of the document's line, Line (package parleyref09). No statement of the seat is proved here. -/
namespace Go.Proofs.YtppejcfghlpbjaaGreatDoor
open Go.RowKit Go.Shelf

/-- An instruction's text with a text in the place of its number. -/
def lineL (i : I5) (t : List UInt8) : List UInt8 := (nms[i.op.toNat]?).getD [] ++ blanked (regL i) ++ (if numB i.op then 32 :: t else [])
theorem line_text {i : I5} (h : formedB i = true) : lineL i (Lib.decDigits i.n.toNat) = textL i := by
  unfold lineL textL
  rw [numL_eq h]
  cases numB i.op <;> simp [blanked]

set_option maxRecDepth 100000 in
set_option maxHeartbeats 4000000 in
theorem rline_any (i : I5) (hf : formedB i = true) (t : List UInt8) (ht : t.length ≤ 1048576) (w : World) :
    Calls Tryz.prog 63 #[.agg i.cells, .string ⟨t.toArray⟩] w fun e w' => e = .returned (.string ⟨(lineL i t).toArray⟩) ∧ Keeps (fun _ => False) w w' := by
  have hmx : Tryz.prog.follows .mixedOrders = true := by kernel_rfl
  obtain ⟨⟨h0, h1⟩, -, ⟨ha0, ha1⟩, ⟨hb0, hb1⟩, ⟨hc0, hc1⟩⟩ := formed_facts hf
  have FM := rform_any i.op
  have hm3 := regsN_le3 i.op
  have hnm : ((nms[i.op.toNat]?).getD []).length ≤ 10 := by
    have : ∀ l ∈ nms, l.length ≤ 10 := by decide
    cases h : nms[i.op.toNat]? with
    | none => simp
    | some l => exact this l (List.mem_of_getElem? h)
  unfold lineL regL
  obtain ⟨op, a, b, c, n⟩ := i
  dsimp only at *
  obtain ⟨p, rfl⟩ : ∃ p : Nat, op = p := ⟨op.toNat, by omega⟩
  have hna := namesA_at p (by omega)
  unfold nm at hna
  rw [show ((p : Int)).toNat = p by omega] at hnm ⊢
  generalize (nms[p]?).getD [] = NM at *
  generalize regsN (p : Int) = m at *
  generalize numB (p : Int) = nb at *
  generalize tgtB (p : Int) = tb at *
  clear hf
  have hp18 : (p : Int) < 18 := by omega
  obtain ⟨a, rfl⟩ : ∃ x : Nat, a = x := ⟨a.toNat, by omega⟩
  obtain ⟨b, rfl⟩ : ∃ x : Nat, b = x := ⟨b.toNat, by omega⟩
  obtain ⟨c, rfl⟩ : ∃ x : Nat, c = x := ⟨c.toNat, by omega⟩
  obtain ⟨M, hM⟩ : ∃ M : Int, M = m := ⟨_, rfl⟩
  rw [← hM] at FM
  have HM : Hid (M = m) := hM
  clear hM
  have NA := rnames_any
  obtain ⟨w0, hw0⟩ : ∃ w0, w0 = w.alloc (.cells #[.int .i64 (p : Int), .int .i64 (a : Int), .int .i64 (b : Int), .int .i64 (c : Int), .int .u64 n] 45) := ⟨_, rfl⟩
  have hk0 : Keeps (fun _ => False) w w0 := by rw [hw0]; exact (Keeps.refl (fun _ => False) w).alloc _
  have hb0 : w0.heap[w.heap.size]? = some (.cells #[.int .i64 (p : Int), .int .i64 (a : Int), .int .i64 (b : Int), .int .i64 (c : Int), .int .u64 n] 45 (0, 0)) := by rw [hw0]; exact alloc_block _ _
  obtain ⟨z, hz⟩ : ∃ z, z = w.heap.size := ⟨_, rfl⟩
  rw [← hz] at hb0
  have HZ : Hid (z = w.heap.size) := hz
  have HW0 : Hid (w0 = w.alloc (.cells #[.int .i64 (p : Int), .int .i64 (a : Int), .int .i64 (b : Int), .int .i64 (c : Int), .int .u64 n] 45)) := hw0
  clear hz hw0
  obtain ⟨c0, c1, c2, c3, c4⟩ := cells5' hb0
  change Calls Tryz.prog 63 #[.agg #[.int .i64 (p : Int), .int .i64 (a : Int), .int .i64 (b : Int), .int .i64 (c : Int), .int .u64 n], .string ⟨t.toArray⟩] w _
  go_enter Tryz.func63, Tryz.ntmps63
  go_wp2_with fail
  rw [← HW0.out, ← HZ.out]
  refine (FM _).mono ?_
  rintro e w1 ⟨rfl, rfl⟩
  clear FM
  go_wp2_with fail
  have S0 : w1.drew.cell? ⟨z, 0, none⟩ = some (.int .i64 (p : Int)) := c0
  have kd : Keeps (fun _ => False) w w1.drew := hk0.drewN 1
  have hbd : w1.drew.heap[z]? = some (.cells #[.int .i64 (p : Int), .int .i64 (a : Int), .int .i64 (b : Int), .int .i64 (c : Int), .int .u64 n] 45 (0, 0)) := hb0
  refine wp_held_end (S := fun W => W.cell? ⟨z, 0, none⟩ = some (.int .i64 (p : Int))) 6 rfl hmx ?_
  generalize w1.drew = wd at *
  simp only [Array.replicate_succ, Array.replicate_zero, List.push_toArray, List.nil_append, List.cons_append]
  refine held_take (i := 1) (v := .pointer (some ⟨z, 0, none⟩)) 19 rfl rfl (by kernel_rfl) (by kernel_rfl) (by kernel_rfl) rfl (fun w' hw' => by go_simp) S0 ?_
  simp only [Act.put, List.setIfInBounds_toArray, List.set_cons_zero, List.set_cons_succ]
  refine held_take (i := 2) (v := .int .i64 (p : Int)) 20 rfl rfl (by kernel_rfl) (by kernel_rfl) (by kernel_rfl) rfl (fun w' hw' => by go_simp) S0 ?_
  simp only [Act.put, List.setIfInBounds_toArray, List.set_cons_zero, List.set_cons_succ]
  refine held_call (i := 0) 18 (by kernel_rfl) rfl rfl rfl (by go_simp) ((NA _).mono ?_)
  rintro e w2 ⟨rfl, hw2⟩
  have k2 : Keeps (fun _ => False) wd w2 := by rw [hw2]; exact (Keeps.refl (fun _ => False) wd).alloc _
  have hbn : w2.heap[wd.heap.size]? = some (.cells namesA 9 (0, 0)) := by rw [hw2]; exact alloc_block _ _
  have hb2 := (k2.block _ (lt_of_block hbd) (fun f => f)).trans hbd
  have S2 : w2.cell? ⟨z, 0, none⟩ = some (.int .i64 (p : Int)) := cell_of_block hb2 0
  have hcn : w2.cell? ⟨wd.heap.size, p, none⟩ = some (.string ⟨NM.toArray⟩) := (cell_of_block hbn p).trans hna
  refine ⟨_, rfl, S2, ?_⟩
  simp only [Act.put, List.setIfInBounds_toArray, List.set_cons_zero, List.set_cons_succ]
  clear hw2
  generalize wd.heap.size = zn at *
  refine held_val (i := 3) (v := .pointer (some ⟨zn, p, none⟩)) (w' := w2) (some 21) (by kernel_rfl) rfl rfl rfl (by go_simp) S2 ?_
  simp only [Act.put, List.setIfInBounds_toArray, List.set_cons_zero, List.set_cons_succ]
  refine held_val (i := 4) (v := .string ⟨NM.toArray⟩) (w' := w2) (some 22) (by kernel_rfl) rfl rfl rfl (by go_simp) S2 ?_
  simp only [Act.put, List.setIfInBounds_toArray, List.set_cons_zero, List.set_cons_succ]
  refine held_val (i := 5) (v := .string ⟨NM.toArray⟩) (w' := w2) (some 8) (by kernel_rfl) rfl rfl rfl (by go_simp) S2 ?_
  simp only [Act.put, List.setIfInBounds_toArray, List.set_cons_zero, List.set_cons_succ]
  refine held_end (by kernel_rfl) ?_ _
  have kw2 := kd.trans k2
  clear hcn hbn hna hbd hb0 S0 S2 kd k2 NA hk0 c0 c1 c2 c3 c4
  obtain ⟨c0, c1, c2, c3, c4⟩ := cells5' hb2
  obtain ⟨W, hW⟩ : ∃ W, W = w2.alloc (.cells #[.int .i64 (a : Int), .int .i64 (b : Int), .int .i64 (c : Int)] 124) := ⟨_, rfl⟩
  have kW : Keeps (fun _ => False) w W := by rw [hW]; exact kw2.alloc _
  have hba : W.heap[w2.heap.size]? = some (.cells #[.int .i64 (a : Int), .int .i64 (b : Int), .int .i64 (c : Int)] 124 (0, 0)) := by rw [hW]; exact alloc_block _ _
  have HWW : Hid (W = w2.alloc (.cells #[.int .i64 (a : Int), .int .i64 (b : Int), .int .i64 (c : Int)] 124)) := hW
  clear hW
  have DG := fun (x : Nat) (h : x < 8) (X : World) => rdigits_any x (by omega) X
  go_wp2_with fail
  rw [← HWW.out]
  have HC : Hid (∀ X, Keeps (fun _ => False) W X → X.cell? ⟨w2.heap.size, 0, none⟩ = some (.int .i64 (a : Int)) ∧ X.cell? ⟨w2.heap.size, 1, none⟩ = some (.int .i64 (b : Int)) ∧ X.cell? ⟨w2.heap.size, 2, none⟩ = some (.int .i64 (c : Int))) := fun X kX => by
    have := (kX.block _ (lt_of_block hba) (fun f => f)).trans hba
    exact ⟨cell_of_block this 0, cell_of_block this 1, cell_of_block this 2⟩
  have k00 : Keeps (fun _ => False) W W := Keeps.refl _ _
  generalize w2.heap.size = z2 at *
  clear c0 c1 c2 c3 c4 hb2 hba kw2 HWW
  go_loopw [8, 10] (fun v v2 wr => ∃ (k : Nat) (X : List UInt8), v = .string ⟨X.toArray⟩ ∧ v2 = .int .i64 k ∧ k ≤ m ∧ Keeps (fun _ => False) W wr ∧ Hid (X = NM ++ blanked ([(a : Int), b, c].take k) ∧ X.length ≤ 10 + 30 * k)) (fun _ v _ => m - (intOf v).toNat)
  case atStart => exact ⟨0, NM, rfl, rfl, Nat.zero_le _, k00, ⟨by simp [blanked], by omega⟩⟩
  case round =>
    obtain ⟨k, X, rfl, rfl, hkm, kX, hh⟩ := hrel
    obtain ⟨hX, hXl⟩ := hh.out
    obtain ⟨q0, q1, q2⟩ := HC.out wr kX
    by_cases hlt : k < m
    · rcases (by omega : k = 0 ∨ k = 1 ∨ k = 2) with rfl | rfl | rfl
      · have f1 : 0 < M := by rw [HM.out]; omega
        have D := DG a (by omega) wr
        have hDl : (Lib.decDigits a).length ≤ 20 := by rw [Lib.decDigits_length]; exact Lib.nDigits_le20 a (by omega)
        have s1 := str_app X [32]
        have s2 := str_app (X ++ [32]) (Lib.decDigits a)
        have gw : IntKind.u64.wrap (a : Int) = a := by simp [IntKind.wrap, IntKind.signed, IntKind.bits]; omega
        have t1 : ¬ 9223372036854775807 < X.length + 1 := by omega
        have t2 : ¬ 9223372036854775807 < (X ++ [32]).length + (Lib.decDigits a).length := by simp only [List.length_append, List.length_cons, List.length_nil]; omega
        clear hX DG
        go_wp2_with (go_at_call 23; refine D.mono ?_; rintro e w5 ⟨rfl, k5⟩)
        have kk := kX.trans k5
        go_roundw
        · obtain ⟨hX, _⟩ := hh.out
          refine ⟨0 + 1, X ++ [32] ++ Lib.decDigits a, ?_, rfl, by omega, kk, ⟨?_, by simp; omega⟩⟩
          · first | rfl | simp
          · rw [hX]; simp [blanked]
        · simp [intOf]; omega
      · have f1 : 1 < M := by rw [HM.out]; omega
        have D := DG b (by omega) wr
        have hDl : (Lib.decDigits b).length ≤ 20 := by rw [Lib.decDigits_length]; exact Lib.nDigits_le20 b (by omega)
        have s1 := str_app X [32]
        have s2 := str_app (X ++ [32]) (Lib.decDigits b)
        have gw : IntKind.u64.wrap (b : Int) = b := by simp [IntKind.wrap, IntKind.signed, IntKind.bits]; omega
        have t1 : ¬ 9223372036854775807 < X.length + 1 := by omega
        have t2 : ¬ 9223372036854775807 < (X ++ [32]).length + (Lib.decDigits b).length := by simp only [List.length_append, List.length_cons, List.length_nil]; omega
        clear hX DG
        go_wp2_with (go_at_call 23; refine D.mono ?_; rintro e w5 ⟨rfl, k5⟩)
        have kk := kX.trans k5
        go_roundw
        · obtain ⟨hX, _⟩ := hh.out
          refine ⟨1 + 1, X ++ [32] ++ Lib.decDigits b, ?_, rfl, by omega, kk, ⟨?_, by simp; omega⟩⟩
          · first | rfl | simp
          · rw [hX]; simp [blanked]
        · simp [intOf]; omega
      · have f1 : 2 < M := by rw [HM.out]; omega
        have D := DG c (by omega) wr
        have hDl : (Lib.decDigits c).length ≤ 20 := by rw [Lib.decDigits_length]; exact Lib.nDigits_le20 c (by omega)
        have s1 := str_app X [32]
        have s2 := str_app (X ++ [32]) (Lib.decDigits c)
        have gw : IntKind.u64.wrap (c : Int) = c := by simp [IntKind.wrap, IntKind.signed, IntKind.bits]; omega
        have t1 : ¬ 9223372036854775807 < X.length + 1 := by omega
        have t2 : ¬ 9223372036854775807 < (X ++ [32]).length + (Lib.decDigits c).length := by simp only [List.length_append, List.length_cons, List.length_nil]; omega
        clear hX DG
        go_wp2_with (go_at_call 23; refine D.mono ?_; rintro e w5 ⟨rfl, k5⟩)
        have kk := kX.trans k5
        go_roundw
        · obtain ⟨hX, _⟩ := hh.out
          refine ⟨2 + 1, X ++ [32] ++ Lib.decDigits c, ?_, rfl, by omega, kk, ⟨?_, by simp; omega⟩⟩
          · first | rfl | simp
          · rw [hX]; simp [blanked]
        · simp [intOf]; omega
    · obtain rfl : k = m := by omega
      have f1 : ¬ (k : Int) < M := by rw [HM.out]; omega
      have kk := kW.trans kX
      cases nb
      · clear hh DG
        go_wp2_with fail
        go_ret
        refine ⟨?_, kk⟩
        first | (simp; done) | (rw [hX]; simp)
      · have s1 := str_app X [32]
        have s2 := str_app (X ++ [32]) t
        have t1 : ¬ 9223372036854775807 < X.length + 1 := by omega
        have t2 : ¬ 9223372036854775807 < (X ++ [32]).length + t.length := by simp only [List.length_append, List.length_cons, List.length_nil]; omega
        have hX' : Hid (X ++ 32 :: t = NM ++ (blanked ([(a : Int), b, c].take k) ++ 32 :: t)) := by unfold Hid; rw [hX]; simp
        clear DG hX hh
        go_wp2_with fail
        go_ret
        refine ⟨?_, kk⟩
        rw [← hX'.out]
        rfl
set_option maxRecDepth 100000 in
set_option maxHeartbeats 4000000 in
theorem rLine_any (i : I5) (hf : formedB i = true) (hn0 : 0 ≤ i.n) (hn : i.n < 18446744073709551616) (w : World) :
    Calls Tryz.prog 40 #[.agg i.cells] w fun e w' => e = .returned (.string ⟨(textL i).toArray⟩) ∧ Keeps (fun _ => False) w w' := by
  have hlt := line_text hf
  have hdl : (Lib.decDigits i.n.toNat).length ≤ 20 := by rw [Lib.decDigits_length]; exact Lib.nDigits_le20 _ (by omega)
  have LN := rline_any i hf (Lib.decDigits i.n.toNat) (by omega)
  rw [hlt] at LN
  have DG := rdigits_any i.n.toNat (by omega)
  rw [show ((i.n.toNat : Nat) : Int) = i.n by omega] at DG
  generalize textL i = T at *
  generalize Lib.decDigits i.n.toNat = D at *
  obtain ⟨op, a, b, c, n⟩ := i
  dsimp only at *
  have hmx : Tryz.prog.follows .mixedOrders = true := by kernel_rfl
  obtain ⟨w0, hw0⟩ : ∃ w0, w0 = w.alloc (.cells #[.int .i64 op, .int .i64 a, .int .i64 b, .int .i64 c, .int .u64 n] 45) := ⟨_, rfl⟩
  have hk0 : Keeps (fun _ => False) w w0 := by rw [hw0]; exact (Keeps.refl (fun _ => False) w).alloc _
  have hb0 : w0.heap[w.heap.size]? = some (.cells #[.int .i64 op, .int .i64 a, .int .i64 b, .int .i64 c, .int .u64 n] 45 (0, 0)) := by rw [hw0]; exact alloc_block _ _
  obtain ⟨z, hz⟩ : ∃ z, z = w.heap.size := ⟨_, rfl⟩
  rw [← hz] at hb0
  have HZ : Hid (z = w.heap.size) := hz
  have HW0 : Hid (w0 = w.alloc (.cells #[.int .i64 op, .int .i64 a, .int .i64 b, .int .i64 c, .int .u64 n] 45)) := hw0
  clear hz hw0 hlt
  have HS : Hid (∀ X, Keeps (fun _ => False) w0 X → X.cell? ⟨z, 0, none⟩ = some (.int .i64 op) ∧ X.cell? ⟨z, 1, none⟩ = some (.int .i64 a) ∧ X.cell? ⟨z, 2, none⟩ = some (.int .i64 b) ∧ X.cell? ⟨z, 3, none⟩ = some (.int .i64 c) ∧ X.cell? ⟨z, 4, none⟩ = some (.int .u64 n)) := fun X kX => cells5' ((kX.block _ (lt_of_block hb0) (fun f => f)).trans hb0)
  change Calls Tryz.prog 40 #[.agg #[.int .i64 op, .int .i64 a, .int .i64 b, .int .i64 c, .int .u64 n]] w _
  have LN' : ∀ X, Calls Tryz.prog 63 #[.agg #[.int .i64 op, .int .i64 a, .int .i64 b, .int .i64 c, .int .u64 n], .string ⟨D.toArray⟩] X fun e w' => e = .returned (.string ⟨T.toArray⟩) ∧ Keeps (fun _ => False) X w' := LN
  clear LN hf hb0
  go_enter Tryz.func40, Tryz.ntmps40
  go_wp2_with fail
  rw [← HW0.out, ← HZ.out]
  have kd0 : Keeps (fun _ => False) w0 w0.drew := (Keeps.refl _ w0).drewN 1
  have S0 := HS.out _ kd0
  refine wp_held_end (S := fun X => X.cell? ⟨z, 0, none⟩ = some (.int .i64 op) ∧ X.cell? ⟨z, 1, none⟩ = some (.int .i64 a) ∧ X.cell? ⟨z, 2, none⟩ = some (.int .i64 b) ∧ X.cell? ⟨z, 3, none⟩ = some (.int .i64 c) ∧ X.cell? ⟨z, 4, none⟩ = some (.int .u64 n)) 6 rfl hmx ?_
  generalize w0.drew = wd at *
  simp only [Array.replicate_succ, Array.replicate_zero, List.push_toArray, List.nil_append, List.cons_append]
  refine held_take (i := 0) (v := .agg #[.int .i64 op, .int .i64 a, .int .i64 b, .int .i64 c, .int .u64 n]) 3 rfl rfl (by kernel_rfl) (by kernel_rfl) (by kernel_rfl) rfl (fun w' hw' => by obtain ⟨y0, y1, y2, y3, y4⟩ := hw'; go_simp) S0 ?_
  simp only [Act.put, List.setIfInBounds_toArray, List.set_cons_zero, List.set_cons_succ]
  refine held_take (i := 1) (v := .pointer (some ⟨z, 4, none⟩)) 4 rfl rfl (by kernel_rfl) (by kernel_rfl) (by kernel_rfl) rfl (fun w' hw' => by obtain ⟨y0, y1, y2, y3, y4⟩ := hw'; go_simp) S0 ?_
  simp only [Act.put, List.setIfInBounds_toArray, List.set_cons_zero, List.set_cons_succ]
  refine held_take (i := 2) (v := .int .u64 n) 5 rfl rfl (by kernel_rfl) (by kernel_rfl) (by kernel_rfl) rfl (fun w' hw' => by obtain ⟨y0, y1, y2, y3, y4⟩ := hw'; go_simp) S0 ?_
  simp only [Act.put, List.setIfInBounds_toArray, List.set_cons_zero, List.set_cons_succ]
  refine held_call (i := 3) 6 (by kernel_rfl) rfl rfl rfl (by go_simp) ((DG _).mono ?_)
  rintro e w1 ⟨rfl, k1⟩
  refine ⟨_, rfl, HS.out _ (kd0.trans k1), ?_⟩
  simp only [Act.put, List.setIfInBounds_toArray, List.set_cons_zero, List.set_cons_succ]
  refine held_call (i := 4) 7 (by kernel_rfl) rfl rfl rfl (by go_simp) ((LN' _).mono ?_)
  rintro e w2 ⟨rfl, k2⟩
  have kk := hk0.trans ((kd0.trans k1).trans k2)
  refine ⟨_, rfl, HS.out _ ((kd0.trans k1).trans k2), ?_⟩
  simp only [Act.put, List.setIfInBounds_toArray, List.set_cons_zero, List.set_cons_succ]
  refine held_val (i := 5) (v := .string ⟨T.toArray⟩) (w' := w2) (some 2) (by kernel_rfl) rfl rfl rfl (by go_simp) (HS.out _ ((kd0.trans k1).trans k2)) ?_
  simp only [Act.put, List.setIfInBounds_toArray, List.set_cons_zero, List.set_cons_succ]
  refine held_end (by kernel_rfl) ?_ _
  go_wp2_with fail
  go_ret
  exact ⟨rfl, kk⟩
end Go.Proofs.YtppejcfghlpbjaaGreatDoor


/- Walks of the document's Text and target (package parleyref09). No statement of the seat is proved here. -/
namespace Go.Proofs.YtppejcfghlpbjaaGreatDoor
open Go.RowKit Go.Shelf

/-- A program's plain text. -/
def plainK (L : List I5) : Nat → List UInt8
  | 0 => []
  | k + 1 => plainK L k ++ (textL ((L[k]?).getD ⟨0, 0, 0, 0, 0⟩) ++ [10])
def plainL (L : List I5) : List UInt8 := plainK L L.length
theorem plainK_succ {L : List I5} {k : Nat} (hk : k < L.length) : plainK L (k + 1) = plainK L k ++ (textL (L[k]) ++ [10]) := by
  rw [plainK, List.getElem?_eq_getElem hk]; rfl
/-- What Text answers. -/
def TxPost (L : List I5) (e : Ending) : Prop := (L.all formedB = true → e = .returned (.tuple #[.string ⟨(plainL L).toArray⟩, .int .i64 0])) ∧ (L.all formedB = false → e = .returned (.tuple #[.string ⟨#[]⟩, .int .i64 180]))
theorem all_of_take {L : List I5} {k : Nat} (hk : k < L.length) (h : formedB (L[k]) = false) : L.all formedB = false := by
  rw [List.all_eq_false]
  exact ⟨L[k], List.getElem_mem hk, by rw [h]; simp⟩
theorem take_all {L : List I5} {k : Nat} (hk : k < L.length) (h0 : (L.take k).all formedB = true) (h : formedB (L[k]) = true) : (L.take (k + 1)).all formedB = true := by
  rw [List.take_succ_eq_append_getElem hk, List.all_append, h0]; simp [h]

set_option maxRecDepth 100000 in
set_option maxHeartbeats 4000000 in
theorem rtext_any (v : Value) (L : List I5) (hL : L.length ≤ 65536) (w : World) (h : InsAt w v L) : Calls Tryz.prog 24 #[v] w fun e w' => TxPost L e ∧ Keeps (fun _ => False) w w' := by
  have HI : Hid (∀ X, Keeps (fun _ => False) w X → InsAt X v L) := fun X k => h.keeps k
  have HW : Hid (∀ i ∈ L, i.wf) := h.wf
  have k0 := Keeps.refl (fun _ => False) w
  obtain ⟨⟨a0, c0, rfl, _⟩, -, -⟩ := h
  go_enter Tryz.func24, Tryz.ntmps24
  go_wp2_with fail
  go_loopw [4, 5] (fun u u2 wr => ∃ (k : Nat) (X : List UInt8), u = .string ⟨X.toArray⟩ ∧ u2 = .int .i64 k ∧ k ≤ L.length ∧ Keeps (fun _ => False) w wr ∧ Hid ((L.take k).all formedB = true ∧ X = plainK L k ∧ X.length ≤ 128 * k)) (fun _ u _ => L.length - (intOf u).toNat)
  case atStart => exact ⟨0, [], rfl, rfl, Nat.zero_le _, k0, ⟨by simp, rfl, by simp⟩⟩
  case round =>
    obtain ⟨k, X, rfl, rfl, hk, kr, hP⟩ := hrel
    by_cases hlt : k < L.length
    · obtain ⟨ga, off, cap, hv, x0, x1, x2, x3, x4⟩ := (HI.out wr kr).at k hlt
      simp only [Value.slice.injEq] at hv
      obtain ⟨rfl, -, rfl⟩ := hv
      have hki : (k : Int) < L.length := by omega
      have hw5 := HW.out (L[k]) (List.getElem_mem hlt)
      have HP : Hid (plainK L (k + 1) = plainK L k ++ (textL (L[k]) ++ [10])) := plainK_succ hlt
      have HA : Hid (formedB (L[k]) = false → L.all formedB = false) := all_of_take hlt
      have HT : Hid (formedB (L[k]) = true → (L.take (k + 1)).all formedB = true) := take_all hlt hP.out.1
      have RF := rformed_any (L[k])
      have hn0 := hw5.2.2.2.2.1
      have hn1 := hw5.2.2.2.2.2
      have RL := fun (hf : formedB (L[k]) = true) X => rLine_any (L[k]) hf hn0 hn1 X
      have TL := fun (hf : formedB (L[k]) = true) => text_len (i := L[k]) hf hn0 hn1
      have HC : Hid (∀ X, Keeps (fun _ => False) wr X → X.cell? ⟨ga, off + k * 5, none⟩ = some (.int .i64 (L[k]).op) ∧ X.cell? ⟨ga, off + k * 5 + 1, none⟩ = some (.int .i64 (L[k]).a) ∧ X.cell? ⟨ga, off + k * 5 + 2, none⟩ = some (.int .i64 (L[k]).b) ∧ X.cell? ⟨ga, off + k * 5 + 3, none⟩ = some (.int .i64 (L[k]).c) ∧ X.cell? ⟨ga, off + k * 5 + 4, none⟩ = some (.int .u64 (L[k]).n)) := fun X kX => by
        obtain ⟨g', o', c', hv, q⟩ := (HI.out X (kr.trans kX)).at k hlt
        simp only [Value.slice.injEq, Option.some.injEq, Addr.mk.injEq, and_true, true_and] at hv
        obtain ⟨⟨rfl, rfl⟩, -⟩ := hv
        exact q
      generalize L[k]'hlt = i at *
      obtain ⟨op, a, b, c, N⟩ := i
      dsimp only at x0 x1 x2 x3 x4 hn0 hn1 HC RF RL
      obtain ⟨-, hX, hXl⟩ := hP.out
      cases hform : formedB ⟨op, a, b, c, N⟩
      · rw [hform] at RF
        have hF := HA.out hform
        clear RL TL HC HT HP hX
        go_wp2_with fail
        refine (RF _).mono ?_
        rintro e X1 ⟨rfl, k1⟩
        have kk := kr.trans k1
        clear RF
        go_wp2_with fail
        go_ret2
        exact ⟨⟨fun hq => (by rw [hF] at hq; cases hq), fun _ => rfl⟩, kk⟩
      · rw [hform] at RF
        have hT := HT.out hform
        have RL1 := RL hform
        have tl := TL hform
        have hnx : Hid (X ++ textL ⟨op, a, b, c, N⟩ ++ [10] = plainK L (k + 1)) := by unfold Hid; rw [HP.out, hX]; simp
        generalize textL ⟨op, a, b, c, N⟩ = T at *
        clear RL TL HA hX HP
        go_wp2_with fail
        refine (RF _).mono ?_
        rintro e X1 ⟨rfl, k1⟩
        have kk := kr.trans k1
        obtain ⟨y0, y1, y2, y3, y4⟩ := HC.out X1 k1
        have s1 := str_app X T
        have s2 := str_app (X ++ T) [10]
        have t1 : ¬ 9223372036854775807 < X.length + T.length := by omega
        have t2 : ¬ 9223372036854775807 < (X ++ T).length + 1 := by simp only [List.length_append]; omega
        have hfl : (X ++ T ++ [10]).length ≤ 128 * (k + 1) := by simp only [List.length_append, List.length_cons, List.length_nil]; omega
        clear RF HC
        go_wp2_with fail
        refine (RL1 _).mono ?_
        rintro e X2 ⟨rfl, k2⟩
        have kk2 := kk.trans k2
        clear RL1
        go_wp2_with fail
        go_roundw
        · exact ⟨k + 1, X ++ T ++ [10], by first | rfl | simp, rfl, by omega, kk2, ⟨hT, hnx.out, hfl⟩⟩
        · simp [intOf]; omega
    · obtain rfl : k = L.length := by omega
      obtain ⟨h1, h2, h3⟩ := hP.out
      rw [List.take_length] at h1
      have hq : Hid (X = plainL L) := h2
      clear HI h2
      go_wp2_with fail
      go_ret2
      exact ⟨⟨fun _ => by rw [← hq.out]; rfl, fun hq => (by rw [h1] at hq; cases hq)⟩, kr⟩

/-- Is a place a target? -/
def tgtAt (L : List I5) (j : Nat) : Bool := L.any fun i => tgtB i.op && decide (i.n = (j : Int))
theorem tgt_range {op : Int} (h : tgtB op = true) : 1 ≤ op ∧ op ≤ 17 := by
  by_cases h' : 1 ≤ op ∧ op ≤ 17
  · exact h'
  · exfalso
    by_cases h0 : op ≤ 0
    · have : op.toNat = 0 := by omega
      simp [tgtB, this] at h
    · have : 18 ≤ op.toNat := by omega
      simp [tgtB, List.getElem?_eq_none, this] at h
theorem mark_tgt (L : List I5) (n j : Nat) (hj : j ≤ n) : markB L n j = tgtAt L j := by
  unfold markB tgtAt
  congr 1
  funext i
  unfold aimB
  cases ht : tgtB i.op
  · simp
  · have := tgt_range ht
    by_cases he : i.n = (j : Int)
    · have : i.n ≤ (n : Int) := by omega
      simp_all
    · simp [he]
end Go.Proofs.YtppejcfghlpbjaaGreatDoor


/- Walk of the document's List (package parleyref09). No statement of the seat is proved here. -/
namespace Go.Proofs.YtppejcfghlpbjaaGreatDoor
open Go.RowKit Go.Shelf

theorem cat_ex (x y : List UInt8) : ∃ z : List UInt8, (⟨x.toArray⟩ ++ ⟨y.toArray⟩ : ByteArray) = ⟨z.toArray⟩ ∧ Hid (z = x ++ y) ∧ z.length ≤ x.length + y.length := ⟨x ++ y, str_app x y, rfl, by simp⟩
/-- The cut of a text whose last part has no blank. -/
theorem cutAt_app (p d : List UInt8) (hd : (32 : UInt8) ∉ d) : cutAt (p ++ 32 :: d) = p.length + 1 := by
  unfold cutAt
  rcases Lib.lastIndexByte_spec ⟨(p ++ 32 :: d).toArray⟩ 32 with ⟨_, h⟩ | ⟨i, hi, h, h1, h2⟩
  · exfalso
    have := h p.length (by rw [size_of]; simp)
    simp at this
  · rw [size_of] at hi
    simp only [List.length_append, List.length_cons] at hi
    rw [h]
    have hle : p.length ≤ i := by
      by_cases hc : p.length ≤ i
      · exact hc
      · exfalso
        have := h2 p.length (by omega) (by rw [size_of]; simp)
        simp at this
    have hge : i ≤ p.length := by
      by_cases hc : i ≤ p.length
      · exact hc
      · exfalso
        obtain ⟨q, rfl⟩ : ∃ q, i = p.length + 1 + q := ⟨i - p.length - 1, by omega⟩
        have hq : q < d.length := by omega
        have hg : (p ++ 32 :: d)[p.length + 1 + q]? = some (d[q]) := by
          rw [List.getElem?_append_right (by omega)]
          rw [show p.length + 1 + q - p.length = q + 1 by omega]
          simp [hq]
        simp only [List.getElem!_toArray, List.getElem!_eq_getElem?_getD, hg, Option.getD_some] at h1
        apply hd
        have : d[q] = 32 := by
          apply UInt8.toNat_inj.1
          have : ((d[q]).toNat : Int) = 32 := h1
          show (d[q]).toNat = 32
          omega
        rw [← this]
        exact List.getElem_mem hq
    omega
theorem named_eq {i : I5} (h : formedB i = true) (ht : tgtB i.op = true) : namedL (textL i) = lineL i (112 :: Lib.decDigits i.n.toNat) := by
  have hr := tgt_range ht
  have hnum : numB i.op = true := by
    rcases op17 hr.1 hr.2 with q | q | q | q | q | q | q | q | q | q | q | q | q | q | q | q | q <;> rw [q] at ht ⊢ <;> revert ht <;> decide
  rw [← line_text h]
  unfold lineL
  rw [hnum]
  simp only [if_true]
  generalize (nms[i.op.toNat]?).getD [] ++ blanked (regL i) = p
  unfold namedL
  rw [cutAt_app p _ (dec_noblank _)]
  have e1 : (p ++ 32 :: Lib.decDigits i.n.toNat).take (p.length + 1) = p ++ [32] := by
    rw [List.take_append, List.take_of_length_le (by omega)]
    simp
  have e2 : (p ++ 32 :: Lib.decDigits i.n.toNat).drop (p.length + 1) = Lib.decDigits i.n.toNat := by
    rw [List.drop_append]
    simp
  rw [e1, e2]
  simp
theorem aim_eq {i : I5} {n : Nat} : aimB i n = (tgtB i.op && decide (i.n ≤ (n : Int))) := by
  unfold aimB
  cases ht : tgtB i.op
  · simp
  · have := tgt_range ht
    simp [this]
theorem listK_succ {L : List I5} {k : Nat} (hk : k < L.length) : listK L (k + 1) = listK L k ++ pieceL L k (L[k]) := by
  rw [listK, List.getElem?_eq_getElem hk]; rfl

end Go.Proofs.YtppejcfghlpbjaaGreatDoor
