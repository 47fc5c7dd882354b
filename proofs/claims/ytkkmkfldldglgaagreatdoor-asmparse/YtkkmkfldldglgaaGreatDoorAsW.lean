
/- Walks of the document's Names, Form, Digits (package parleyref09). No statement of the seat is proved here. -/
import Derived.Test.YtkkmkfldldglgaaGreatDoorAsU
namespace Go.Proofs.YtkkmkfldldglgaaGreatDoor
open Go.RowKit Go.Shelf

/-- The document's list of names, as cells. -/
def namesA : Array Value := #[.string ⟨#[]⟩, .string ⟨#[99, 111, 110, 115, 116]⟩, .string ⟨#[109, 111, 118, 101]⟩, .string ⟨#[97, 100, 100]⟩, .string ⟨#[115, 117, 98]⟩, .string ⟨#[109, 117, 108]⟩, .string ⟨#[108, 101, 115, 115]⟩, .string ⟨#[101, 113, 117, 97, 108]⟩, .string ⟨#[106, 117, 109, 112]⟩, .string ⟨#[122, 101, 114, 111]⟩, .string ⟨#[108, 111, 97, 100]⟩, .string ⟨#[115, 116, 111, 114, 101]⟩, .string ⟨#[98, 101, 103, 105, 110]⟩, .string ⟨#[103, 101, 116]⟩, .string ⟨#[112, 117, 116]⟩, .string ⟨#[101, 110, 100]⟩, .string ⟨#[97, 98, 111, 114, 116]⟩, .string ⟨#[104, 97, 108, 116]⟩]
theorem namesA_at : ∀ k : Nat, k < 18 → namesA[k]? = some (.string (nm k)) := by
  intro k hk
  rcases (by omega : k = 0 ∨ k = 1 ∨ k = 2 ∨ k = 3 ∨ k = 4 ∨ k = 5 ∨ k = 6 ∨ k = 7 ∨ k = 8 ∨ k = 9 ∨ k = 10 ∨ k = 11 ∨ k = 12 ∨ k = 13 ∨ k = 14 ∨ k = 15 ∨ k = 16 ∨ k = 17) with rfl | rfl | rfl | rfl | rfl | rfl | rfl | rfl | rfl | rfl | rfl | rfl | rfl | rfl | rfl | rfl | rfl | rfl <;> rfl


set_option maxRecDepth 100000 in
set_option maxHeartbeats 4000000 in
theorem rnames_any (w : World) : Calls Tryz.prog 73 #[] w fun e w' => e = .returned (.slice (some ⟨w.heap.size, 0, none⟩) 18 18) ∧ w' = w.alloc (.cells namesA 9) := by
  unfold namesA
  go_enter Tryz.func73, Tryz.ntmps73
  go_wp2
  go_ret
  exact ⟨rfl, rfl⟩

set_option maxRecDepth 100000 in
set_option maxHeartbeats 4000000 in
theorem rform_any (op : Int) (w : World) : Calls Tryz.prog 50 #[.int .i64 op] w fun e w' => e = .returned (.tuple #[.int .i64 (regsN op), .bool (numB op), .bool (tgtB op)]) ∧ w' = w := by
  by_cases h : 1 ≤ op ∧ op ≤ 17
  · rcases op17 h.1 h.2 with rfl | rfl | rfl | rfl | rfl | rfl | rfl | rfl | rfl | rfl | rfl | rfl | rfl | rfl | rfl | rfl | rfl <;>
    · clear h
      go_enter Tryz.func50, Tryz.ntmps50
      go_wp2
      go_ret3
      exact ⟨rfl, rfl⟩
  · have hz : regsN op = 0 ∧ numB op = false ∧ tgtB op = false := by
      by_cases h0 : op ≤ 0
      · have : op.toNat = 0 := by omega
        simp [regsN, numB, tgtB, this]
      · have : 18 ≤ op.toNat := by omega
        simp [regsN, numB, tgtB, List.getElem?_eq_none, this]
    rw [hz.1, hz.2.1, hz.2.2]
    obtain ⟨n1, n2, n3, n4, n5, n6, n7, n8, n9, n10, n11, n12, n13, n14, n15, n16⟩ : op ≠ 1 ∧ op ≠ 2 ∧ op ≠ 3 ∧ op ≠ 4 ∧ op ≠ 5 ∧ op ≠ 6 ∧ op ≠ 7 ∧ op ≠ 8 ∧ op ≠ 9 ∧ op ≠ 10 ∧ op ≠ 11 ∧ op ≠ 12 ∧ op ≠ 13 ∧ op ≠ 14 ∧ op ≠ 15 ∧ op ≠ 16 := by omega
    clear hz h
    go_enter Tryz.func50, Tryz.ntmps50
    go_wp2
    go_ret3
    exact ⟨rfl, rfl⟩

/-- A string of one digit. -/
theorem dig_conv (X : World) (b : Nat) (d : UInt8) (h : X.heap[b]? = some (.cells #[.int .u8 (d.toNat : Int)] 5 (0, 0))) : (convert 84 9 (.slice (some ⟨b, 0, none⟩) 1 1)).run Tryz.prog X = .ok (.string ⟨[d].toArray⟩) X :=
  run_convert_bytes_back (P := Tryz.prog) X 84 9 5 ⟨b, 0, none⟩ 1 [d] Tryz.underlying84 Tryz.underlying5 Tryz.underlying9 (fun j hj => by
    obtain rfl : j = 0 := by simp at hj; omega
    have := cell_of_block h 0
    simpa [Addr.add] using this)
section
variable {P : Program} {ops : Array Oper} {Q : Exit → Act → World → Prop} {md : Region.Mode}
/-- Two that may come up, whatever they are. -/
theorem any_two {i j : Nat} {oi oj : Oper} {fuel : Nat} {listed : Array Bool} {a : Act} {w : World} {K : Act → World → Prop} (hr : Region.ready md ops listed = [i, j]) (hoi : ops[i]? = some oi) (hoj : ops[j]? = some oj)
    (hwi : Region.wanted oi (yielded ops a.tmps) = true) (hwj : Region.wanted oj (yielded ops a.tmps) = true)
    (h1 : oi.wp P a w (fun a' w' => wpAny P md ops (atEnd K) fuel (listed.setIfInBounds i true) a' w') (atEnd K)) (h2 : oj.wp P a w (fun a' w' => wpAny P md ops (atEnd K) fuel (listed.setIfInBounds j true) a' w') (atEnd K)) : wpAny P md ops (atEnd K) (fuel + 1) listed a w :=
  wpAny_all hr (by simp) (fun k hk => by
    have hk : k = i ∨ k = j := by simpa using hk
    rcases hk with rfl | rfl
    · unfold wpOp
      simp only [hoi, hwi, if_true]
      exact .inl h1
    · unfold wpOp
      simp only [hoj, hwj, if_true]
      exact .inl h2)
theorem any_one {i : Nat} {o : Oper} {fuel : Nat} {listed : Array Bool} {a : Act} {w : World} {K : Act → World → Prop} (hr : Region.ready md ops listed = [i]) (ho : ops[i]? = some o) (hw : Region.wanted o (yielded ops a.tmps) = true)
    (h : o.wp P a w (fun a' w' => wpAny P md ops (atEnd K) fuel (listed.setIfInBounds i true) a' w') (atEnd K)) : wpAny P md ops (atEnd K) (fuel + 1) listed a w :=
  wpAny_all hr (by simp) (fun k hk => by
    obtain rfl : k = i := by simpa using hk
    unfold wpOp
    simp only [ho, hw, if_true]
    exact .inl h)
theorem op_val {o : Oper} {v : Value} {w' : World} {a : Act} {w : World} {K : Act → World → Prop} (d : Nat) (hdst : o.dst = some d) (hrun : (execOp a.eval o).run P w = .ok (.value v) w') (h : K (a.put (some d) v) w') : o.wp P a w K Q := by
  unfold Oper.wp
  rw [hrun]
  show K (a.put o.dst v) w'
  rw [hdst]
  exact h
theorem op_call {o : Oper} {f : Nat} {args : Array Value} {a : Act} {w : World} {K : Act → World → Prop} (d : Nat) (hdst : o.dst = some d) (hrun : (execOp a.eval o).run P w = .ok (.enter f args) w) (h : Calls P f args w fun e w' => ∃ v, e = .returned v ∧ K (a.put (some d) v) w') : o.wp P a w K Q := by
  unfold Oper.wp
  rw [hrun]
  show Calls P f args w _
  refine h.mono ?_
  rintro e w' ⟨v, rfl, h⟩
  show K (a.put o.dst v) w'
  rw [hdst]
  exact h
theorem wp_anyN {id : Nat} {a : Act} {w : World} (N : Nat) (hN : ops.size = N) (hm : P.follows .mixedOrders = true)
    (h : wpAny P .any ops (atEnd (Q .normal)) N (Array.replicate N false) a w.drew) : (Code.region id ops true).wp P Q a w := by
  subst hN
  exact Code.wp_mono (fun e a w h => by cases e <;> first | exact h | exact h.elim) (wp_region_any hm h)
end

set_option maxRecDepth 100000 in
set_option maxHeartbeats 4000000 in
theorem rdigits_any : ∀ (n : Nat), n < 18446744073709551616 → ∀ (w : World), Calls Tryz.prog 33 #[.int .u64 (n : Int)] w fun e w' => e = .returned (.string ⟨(Lib.decDigits n).toArray⟩) ∧ Keeps (fun _ => False) w w' := by
  intro n
  have hmx : Tryz.prog.follows .mixedOrders = true := by kernel_rfl
  induction n using Nat.strongRecOn with
  | ind n ih =>
    intro hn w
    by_cases h : n < 10
    · have h' : (n : Int) < 10 := by omega
      have hb := byte_of n h
      rw [Lib.decDigits_one h]
      generalize UInt8.ofNat (48 + n) = d at *
      have hcv := dig_conv (w.alloc (.cells #[.int .u8 (d.toNat : Int)] 5)) w.heap.size d (alloc_block w _)
      have kk := (Keeps.refl (fun _ => False) w).alloc (.cells #[.int .u8 (48 + (n : Int))] 5)
      have hbi : (d.toNat : Int) = 48 + (n : Int) := by omega
      rw [hbi] at hcv
      clear hb hbi
      clear ih
      go_enter Tryz.func33, Tryz.ntmps33
      go_wp2_with fail
      go_ret
      exact ⟨rfl, kk⟩
    · have h' : ¬ (n : Int) < 10 := by omega
      have IH := ih (n / 10) (by omega) (by omega)
      have hdd : Lib.decDigits n = Lib.decDigits (n / 10) ++ [UInt8.ofNat (48 + n % 10)] := by rw [Lib.decDigits, dif_neg h]
      have hln : (Lib.decDigits (n / 10)).length ≤ 20 := by rw [Lib.decDigits_length]; exact Lib.nDigits_le20 _ (by omega)
      have tm1 : ¬ 9223372036854775807 < (Lib.decDigits (n / 10)).length + 1 := by omega
      have hq : (n : Int) / 10 = ((n / 10 : Nat) : Int) := by omega
      have hm : (n : Int) % 10 = ((n % 10 : Nat) : Int) := by omega
      have hr10 : n % 10 < 10 := Nat.mod_lt _ (by decide)
      clear ih
      go_enter Tryz.func33, Tryz.ntmps33
      go_wp2_with fail
      generalize hr : n % 10 = r at *
      generalize hqq : n / 10 = q at *
      have hb := byte_of r hr10
      generalize UInt8.ofNat (48 + r) = d at *
      have hsa := str_app (Lib.decDigits q) [d]
      have hr8 : (r : Int) < 10 := by omega
      have g1 : (n : Int).tmod 10 = r := by rw [Int.tmod_eq_emod_of_nonneg (by omega)]; exact hm
      have g2 : IntKind.u64.wrap (q : Int) = q := by simp [IntKind.wrap, IntKind.signed, IntKind.bits]; omega
      have g3 : IntKind.u64.wrap (48 + (r : Int)) = 48 + r := by simp [IntKind.wrap, IntKind.signed, IntKind.bits]; omega
      have g4 : IntKind.u8.wrap (48 + (r : Int)) = d.toNat := by rw [hb]; simp [IntKind.wrap, IntKind.signed, IntKind.bits]; omega
      have HD : Hid (Lib.decDigits n = Lib.decDigits q ++ [d]) := hdd
      clear hb hm hr hqq hdd
      refine wp_anyN 11 rfl hmx ?_
      have kd : Keeps (fun _ => False) w w.drew := (Keeps.refl (fun _ => False) w).drewN 1
      generalize w.drew = wd at *
      refine any_take (i := 0) (v := .int .u64 (n : Int)) 10 rfl rfl (by kernel_rfl) (by kernel_rfl) (by kernel_rfl) rfl (fun w' => by go_simp) ?_
      simp only [Act.put, List.setIfInBounds_toArray, List.set_cons_zero, List.set_cons_succ]
      refine any_take (i := 1) (v := .int .u64 ((q : Nat) : Int)) 11 rfl rfl (by kernel_rfl) (by kernel_rfl) (by kernel_rfl) rfl (fun w' => by go_simp) ?_
      simp only [Act.put, List.setIfInBounds_toArray, List.set_cons_zero, List.set_cons_succ]
      refine any_take (i := 3) (v := .int .u64 (n : Int)) 13 rfl rfl (by kernel_rfl) (by kernel_rfl) (by kernel_rfl) rfl (fun w' => by go_simp) ?_
      simp only [Act.put, List.setIfInBounds_toArray, List.set_cons_zero, List.set_cons_succ]
      refine any_take (i := 4) (v := .int .u64 (r : Int)) 14 rfl rfl (by kernel_rfl) (by kernel_rfl) (by kernel_rfl) rfl (fun w' => by go_simp) ?_
      simp only [Act.put, List.setIfInBounds_toArray, List.set_cons_zero, List.set_cons_succ]
      refine any_take (i := 5) (v := .int .u64 (48 + (r : Int))) 15 rfl rfl (by kernel_rfl) (by kernel_rfl) (by kernel_rfl) rfl (fun w' => by go_simp) ?_
      simp only [Act.put, List.setIfInBounds_toArray, List.set_cons_zero, List.set_cons_succ]
      refine any_take (i := 6) (v := .int .u8 (d.toNat : Int)) 16 rfl rfl (by kernel_rfl) (by kernel_rfl) (by kernel_rfl) rfl (fun w' => by go_simp) ?_
      simp only [Act.put, List.setIfInBounds_toArray, List.set_cons_zero, List.set_cons_succ]
      refine any_two (i := 2) (j := 7) (by kernel_rfl) rfl rfl rfl rfl ?_ ?_
      · refine op_call 12 rfl (by go_simp) ((IH _).mono ?_)
        rintro e w1 ⟨rfl, k1⟩
        refine ⟨_, rfl, ?_⟩
        simp only [Act.put, List.setIfInBounds_toArray, List.set_cons_zero, List.set_cons_succ]
        have kk : Keeps (fun _ => False) w (w1.alloc (.cells #[.int .u8 (d.toNat : Int)] 5)) := (kd.trans k1).alloc (.cells #[.int .u8 (d.toNat : Int)] 5)
        have hcv := dig_conv (w1.alloc (.cells #[.int .u8 (d.toNat : Int)] 5)) w1.heap.size d (alloc_block w1 _)
        refine any_val (i := 7) (v := .slice (some ⟨w1.heap.size, 0, none⟩) 1 1) (w' := w1.alloc (.cells #[.int .u8 (d.toNat : Int)] 5)) (some 17) (by kernel_rfl) rfl rfl rfl (by go_simp) ?_
        simp only [Act.put, List.setIfInBounds_toArray, List.set_cons_zero, List.set_cons_succ]
        refine any_val (i := 8) (v := .string ⟨[d].toArray⟩) (w' := w1.alloc (.cells #[.int .u8 (d.toNat : Int)] 5)) (some 18) (by kernel_rfl) rfl rfl rfl (by go_simp) ?_
        simp only [Act.put, List.setIfInBounds_toArray, List.set_cons_zero, List.set_cons_succ]
        refine any_val (i := 9) (v := .string ⟨(Lib.decDigits q ++ [d]).toArray⟩) (w' := w1.alloc (.cells #[.int .u8 (d.toNat : Int)] 5)) (some 19) (by kernel_rfl) rfl rfl rfl (by go_simp) ?_
        simp only [Act.put, List.setIfInBounds_toArray, List.set_cons_zero, List.set_cons_succ]
        refine any_val (i := 10) (v := .string ⟨(Lib.decDigits q ++ [d]).toArray⟩) (w' := w1.alloc (.cells #[.int .u8 (d.toNat : Int)] 5)) (some 2) (by kernel_rfl) rfl rfl rfl (by go_simp) ?_
        simp only [Act.put, List.setIfInBounds_toArray, List.set_cons_zero, List.set_cons_succ]
        refine any_end (by kernel_rfl) ?_ _
        go_wp2_with fail
        go_ret
        exact ⟨by rw [HD.out]; rfl, kk⟩
      · refine op_val (v := .slice (some ⟨wd.heap.size, 0, none⟩) 1 1) (w' := wd.alloc (.cells #[.int .u8 (d.toNat : Int)] 5)) 17 rfl (by go_simp) ?_
        simp only [Act.put, List.setIfInBounds_toArray, List.set_cons_zero, List.set_cons_succ]
        refine any_two (i := 2) (j := 8) (by kernel_rfl) rfl rfl rfl rfl ?_ ?_
        · refine op_call 12 rfl (by go_simp) ((IH _).mono ?_)
          rintro e w1 ⟨rfl, k1⟩
          refine ⟨_, rfl, ?_⟩
          simp only [Act.put, List.setIfInBounds_toArray, List.set_cons_zero, List.set_cons_succ]
          have kk : Keeps (fun _ => False) w w1 := (kd.alloc (.cells #[.int .u8 (d.toNat : Int)] 5)).trans k1
          have hcv := dig_conv w1 wd.heap.size d ((k1.block _ (lt_of_block (alloc_block _ _)) (fun f => f)).trans (alloc_block _ _))
          refine any_val (i := 8) (v := .string ⟨[d].toArray⟩) (w' := w1) (some 18) (by kernel_rfl) rfl rfl rfl (by go_simp) ?_
          simp only [Act.put, List.setIfInBounds_toArray, List.set_cons_zero, List.set_cons_succ]
          refine any_val (i := 9) (v := .string ⟨(Lib.decDigits q ++ [d]).toArray⟩) (w' := w1) (some 19) (by kernel_rfl) rfl rfl rfl (by go_simp) ?_
          simp only [Act.put, List.setIfInBounds_toArray, List.set_cons_zero, List.set_cons_succ]
          refine any_val (i := 10) (v := .string ⟨(Lib.decDigits q ++ [d]).toArray⟩) (w' := w1) (some 2) (by kernel_rfl) rfl rfl rfl (by go_simp) ?_
          simp only [Act.put, List.setIfInBounds_toArray, List.set_cons_zero, List.set_cons_succ]
          refine any_end (by kernel_rfl) ?_ _
          go_wp2_with fail
          go_ret
          exact ⟨by rw [HD.out]; rfl, kk⟩
        · have hcv := dig_conv (wd.alloc (.cells #[.int .u8 (d.toNat : Int)] 5)) wd.heap.size d (alloc_block _ _)
          refine op_val (v := .string ⟨[d].toArray⟩) (w' := wd.alloc (.cells #[.int .u8 (d.toNat : Int)] 5)) 18 rfl (by go_simp) ?_
          simp only [Act.put, List.setIfInBounds_toArray, List.set_cons_zero, List.set_cons_succ]
          refine any_one (i := 2) (by kernel_rfl) rfl rfl (op_call 12 rfl (by go_simp) ((IH _).mono ?_))
          rintro e w1 ⟨rfl, k1⟩
          refine ⟨_, rfl, ?_⟩
          simp only [Act.put, List.setIfInBounds_toArray, List.set_cons_zero, List.set_cons_succ]
          have kk : Keeps (fun _ => False) w w1 := (kd.alloc (.cells #[.int .u8 (d.toNat : Int)] 5)).trans k1
          refine any_val (i := 9) (v := .string ⟨(Lib.decDigits q ++ [d]).toArray⟩) (w' := w1) (some 19) (by kernel_rfl) rfl rfl rfl (by go_simp) ?_
          simp only [Act.put, List.setIfInBounds_toArray, List.set_cons_zero, List.set_cons_succ]
          refine any_val (i := 10) (v := .string ⟨(Lib.decDigits q ++ [d]).toArray⟩) (w' := w1) (some 2) (by kernel_rfl) rfl rfl rfl (by go_simp) ?_
          simp only [Act.put, List.setIfInBounds_toArray, List.set_cons_zero, List.set_cons_succ]
          refine any_end (by kernel_rfl) ?_ _
          go_wp2_with fail
          go_ret
          exact ⟨by rw [HD.out]; rfl, kk⟩
end Go.Proofs.YtkkmkfldldglgaaGreatDoor
