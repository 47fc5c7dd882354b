/-
  No statement of the seat is proved here. (Several texts in one: AsW, AwB, AwC.)
-/
import Derived.Test.YtppejcfghlpbjaaGreatDoorM07AsN
import Derived.Test.YtppejcfghlpbjaaGreatDoorM04AsQ

/- Walks of the document's Names, Form, Digits (package parleyref09). No statement of the seat is proved here. -/
namespace Go.Proofs.YtppejcfghlpbjaaGreatDoor
open Go.RowKit Go.Shelf

/-- The document's list of names, as cells. -/
def namesA : Array Value := #[.string ⟨#[]⟩, .string ⟨#[99, 111, 110, 115, 116]⟩, .string ⟨#[109, 111, 118, 101]⟩, .string ⟨#[97, 100, 100]⟩, .string ⟨#[115, 117, 98]⟩, .string ⟨#[109, 117, 108]⟩, .string ⟨#[108, 101, 115, 115]⟩, .string ⟨#[101, 113, 117, 97, 108]⟩, .string ⟨#[106, 117, 109, 112]⟩, .string ⟨#[122, 101, 114, 111]⟩, .string ⟨#[108, 111, 97, 100]⟩, .string ⟨#[115, 116, 111, 114, 101]⟩, .string ⟨#[98, 101, 103, 105, 110]⟩, .string ⟨#[103, 101, 116]⟩, .string ⟨#[112, 117, 116]⟩, .string ⟨#[101, 110, 100]⟩, .string ⟨#[97, 98, 111, 114, 116]⟩, .string ⟨#[104, 97, 108, 116]⟩]
theorem namesA_at : ∀ k : Nat, k < 18 → namesA[k]? = some (.string (nm k)) := by
  intro k hk
  rcases (by omega : k = 0 ∨ k = 1 ∨ k = 2 ∨ k = 3 ∨ k = 4 ∨ k = 5 ∨ k = 6 ∨ k = 7 ∨ k = 8 ∨ k = 9 ∨ k = 10 ∨ k = 11 ∨ k = 12 ∨ k = 13 ∨ k = 14 ∨ k = 15 ∨ k = 16 ∨ k = 17) with rfl | rfl | rfl | rfl | rfl | rfl | rfl | rfl | rfl | rfl | rfl | rfl | rfl | rfl | rfl | rfl | rfl | rfl <;> rfl


set_option maxRecDepth 100000 in
set_option maxHeartbeats 4000000 in
theorem rnames_any (w : World) : Calls Tryz.prog 86 #[] w fun e w' => e = .returned (.slice (some ⟨w.heap.size, 0, none⟩) 18 18) ∧ w' = w.alloc (.cells namesA 9) := by
  unfold namesA
  go_enter Tryz.func86, Tryz.ntmps86
  go_wp2
  go_ret
  exact ⟨rfl, rfl⟩

set_option maxRecDepth 100000 in
set_option maxHeartbeats 4000000 in
theorem rform_any (op : Int) (w : World) : Calls Tryz.prog 62 #[.int .i64 op] w fun e w' => e = .returned (.tuple #[.int .i64 (regsN op), .bool (numB op), .bool (tgtB op)]) ∧ w' = w := by
  by_cases h : 1 ≤ op ∧ op ≤ 17
  · rcases op17 h.1 h.2 with rfl | rfl | rfl | rfl | rfl | rfl | rfl | rfl | rfl | rfl | rfl | rfl | rfl | rfl | rfl | rfl | rfl <;>
    · clear h
      go_enter Tryz.func62, Tryz.ntmps62
      go_wp2
      go_ret3
      exact ⟨rfl, rfl⟩
  · have hz : regsN op = 0 ∧ numB op = false ∧ tgtB op = false := by
      by_cases h0 : op ≤ 0
      · have : op.toNat = 0 := by omega
        simp [regsN, numB, tgtB, this]
      · have : 18 ≤ op.toNat := by omega
        simp [regsN, numB, tgtB, List.getElem?_eq_none, this]
    rw [hz.1, hz.2.1, hz.2.2]
    obtain ⟨n1, n2, n3, n4, n5, n6, n7, n8, n9, n10, n11, n12, n13, n14, n15, n16⟩ : op ≠ 1 ∧ op ≠ 2 ∧ op ≠ 3 ∧ op ≠ 4 ∧ op ≠ 5 ∧ op ≠ 6 ∧ op ≠ 7 ∧ op ≠ 8 ∧ op ≠ 9 ∧ op ≠ 10 ∧ op ≠ 11 ∧ op ≠ 12 ∧ op ≠ 13 ∧ op ≠ 14 ∧ op ≠ 15 ∧ op ≠ 16 := by omega
    clear hz h
    go_enter Tryz.func62, Tryz.ntmps62
    go_wp2
    go_ret3
    exact ⟨rfl, rfl⟩

/-- A string of one digit. -/
theorem dig_conv (X : World) (b : Nat) (d : UInt8) (h : X.heap[b]? = some (.cells #[.int .u8 (d.toNat : Int)] 5 (0, 0))) : (convert 52 9 (.slice (some ⟨b, 0, none⟩) 1 1)).run Tryz.prog X = .ok (.string ⟨[d].toArray⟩) X :=
  run_convert_bytes_back (P := Tryz.prog) X 52 9 5 ⟨b, 0, none⟩ 1 [d] Tryz.underlying52 Tryz.underlying5 Tryz.underlying9 (fun j hj => by
    obtain rfl : j = 0 := by simp at hj; omega
    have := cell_of_block h 0
    simpa [Addr.add] using this)
section
variable {P : Program} {ops : Array Oper} {Q : Exit → Act → World → Prop} {md : Region.Mode}
/-- Two that may come up, whatever they are. -/
theorem any_two {i j : Nat} {oi oj : Oper} {fuel : Nat} {listed : Array Bool} {a : Act} {w : World} {K : Act → World → Prop} (hr : Region.ready md ops listed = [i, j]) (hoi : ops[i]? = some oi) (hoj : ops[j]? = some oj)
    (hwi : Region.wanted oi (yielded ops a.tmps) = true) (hwj : Region.wanted oj (yielded ops a.tmps) = true)
    (h1 : oi.wp P a w (fun a' w' => wpAny P md ops (atEnd K) fuel (listed.setIfInBounds i true) a' w') (atEnd K)) (h2 : oj.wp P a w (fun a' w' => wpAny P md ops (atEnd K) fuel (listed.setIfInBounds j true) a' w') (atEnd K)) : wpAny P md ops (atEnd K) (fuel + 1) listed a w :=
  wpAny_all hr (by simp) (fun k hk => by
    have hk : k = i ∨ k = j := by simpa using hk
    rcases hk with rfl | rfl
    · unfold wpOp
      simp only [hoi, hwi, if_true]
      exact .inl h1
    · unfold wpOp
      simp only [hoj, hwj, if_true]
      exact .inl h2)
theorem any_one {i : Nat} {o : Oper} {fuel : Nat} {listed : Array Bool} {a : Act} {w : World} {K : Act → World → Prop} (hr : Region.ready md ops listed = [i]) (ho : ops[i]? = some o) (hw : Region.wanted o (yielded ops a.tmps) = true)
    (h : o.wp P a w (fun a' w' => wpAny P md ops (atEnd K) fuel (listed.setIfInBounds i true) a' w') (atEnd K)) : wpAny P md ops (atEnd K) (fuel + 1) listed a w :=
  wpAny_all hr (by simp) (fun k hk => by
    obtain rfl : k = i := by simpa using hk
    unfold wpOp
    simp only [ho, hw, if_true]
    exact .inl h)
theorem op_val {o : Oper} {v : Value} {w' : World} {a : Act} {w : World} {K : Act → World → Prop} (d : Nat) (hdst : o.dst = some d) (hrun : (execOp a.eval o).run P w = .ok (.value v) w') (h : K (a.put (some d) v) w') : o.wp P a w K Q := by
  unfold Oper.wp
  rw [hrun]
  show K (a.put o.dst v) w'
  rw [hdst]
  exact h
theorem op_call {o : Oper} {f : Nat} {args : Array Value} {a : Act} {w : World} {K : Act → World → Prop} (d : Nat) (hdst : o.dst = some d) (hrun : (execOp a.eval o).run P w = .ok (.enter f args) w) (h : Calls P f args w fun e w' => ∃ v, e = .returned v ∧ K (a.put (some d) v) w') : o.wp P a w K Q := by
  unfold Oper.wp
  rw [hrun]
  show Calls P f args w _
  refine h.mono ?_
  rintro e w' ⟨v, rfl, h⟩
  show K (a.put o.dst v) w'
  rw [hdst]
  exact h
theorem wp_anyN {id : Nat} {a : Act} {w : World} (N : Nat) (hN : ops.size = N) (hm : P.follows .mixedOrders = true)
    (h : wpAny P .any ops (atEnd (Q .normal)) N (Array.replicate N false) a w.drew) : (Code.region id ops true).wp P Q a w := by
  subst hN
  exact Code.wp_mono (fun e a w h => by cases e <;> first | exact h | exact h.elim) (wp_region_any hm h)
end

set_option maxRecDepth 100000 in
set_option maxHeartbeats 4000000 in
theorem rdigits_any : ∀ (n : Nat), n < 18446744073709551616 → ∀ (w : World), Calls Tryz.prog 23 #[.int .u64 (n : Int)] w fun e w' => e = .returned (.string ⟨(Lib.decDigits n).toArray⟩) ∧ Keeps (fun _ => False) w w' := by
  intro n
  have hmx : Tryz.prog.follows .mixedOrders = true := by kernel_rfl
  induction n using Nat.strongRecOn with
  | ind n ih =>
    intro hn w
    by_cases h : n < 10
    · have h' : (n : Int) < 10 := by omega
      have hb := byte_of n h
      rw [Lib.decDigits_one h]
      generalize UInt8.ofNat (48 + n) = d at *
      have hcv := dig_conv (w.alloc (.cells #[.int .u8 (d.toNat : Int)] 5)) w.heap.size d (alloc_block w _)
      have kk := (Keeps.refl (fun _ => False) w).alloc (.cells #[.int .u8 (48 + (n : Int))] 5)
      have hbi : (d.toNat : Int) = 48 + (n : Int) := by omega
      rw [hbi] at hcv
      clear hb hbi
      clear ih
      go_enter Tryz.func23, Tryz.ntmps23
      go_wp2_with fail
      go_ret
      exact ⟨rfl, kk⟩
    · have h' : ¬ (n : Int) < 10 := by omega
      have IH := ih (n / 10) (by omega) (by omega)
      have hdd : Lib.decDigits n = Lib.decDigits (n / 10) ++ [UInt8.ofNat (48 + n % 10)] := by rw [Lib.decDigits, dif_neg h]
      have hln : (Lib.decDigits (n / 10)).length ≤ 20 := by rw [Lib.decDigits_length]; exact Lib.nDigits_le20 _ (by omega)
      have tm1 : ¬ 9223372036854775807 < (Lib.decDigits (n / 10)).length + 1 := by omega
      have hq : (n : Int) / 10 = ((n / 10 : Nat) : Int) := by omega
      have hm : (n : Int) % 10 = ((n % 10 : Nat) : Int) := by omega
      have hr10 : n % 10 < 10 := Nat.mod_lt _ (by decide)
      clear ih
      go_enter Tryz.func23, Tryz.ntmps23
      go_wp2_with fail
      generalize hr : n % 10 = r at *
      generalize hqq : n / 10 = q at *
      have hb := byte_of r hr10
      generalize UInt8.ofNat (48 + r) = d at *
      have hsa := str_app (Lib.decDigits q) [d]
      have hr8 : (r : Int) < 10 := by omega
      have g1 : (n : Int).tmod 10 = r := by rw [Int.tmod_eq_emod_of_nonneg (by omega)]; exact hm
      have g2 : IntKind.u64.wrap (q : Int) = q := by simp [IntKind.wrap, IntKind.signed, IntKind.bits]; omega
      have g3 : IntKind.u64.wrap (48 + (r : Int)) = 48 + r := by simp [IntKind.wrap, IntKind.signed, IntKind.bits]; omega
      have g4 : IntKind.u8.wrap (48 + (r : Int)) = d.toNat := by rw [hb]; simp [IntKind.wrap, IntKind.signed, IntKind.bits]; omega
      have HD : Hid (Lib.decDigits n = Lib.decDigits q ++ [d]) := hdd
      clear hb hm hr hqq hdd
      refine wp_anyN 11 rfl hmx ?_
      have kd : Keeps (fun _ => False) w w.drew := (Keeps.refl (fun _ => False) w).drewN 1
      generalize w.drew = wd at *
      refine any_take (i := 0) (v := .int .u64 (n : Int)) 10 rfl rfl (by kernel_rfl) (by kernel_rfl) (by kernel_rfl) rfl (fun w' => by go_simp) ?_
      simp only [Act.put, List.setIfInBounds_toArray, List.set_cons_zero, List.set_cons_succ]
      refine any_take (i := 1) (v := .int .u64 ((q : Nat) : Int)) 11 rfl rfl (by kernel_rfl) (by kernel_rfl) (by kernel_rfl) rfl (fun w' => by go_simp) ?_
      simp only [Act.put, List.setIfInBounds_toArray, List.set_cons_zero, List.set_cons_succ]
      refine any_take (i := 3) (v := .int .u64 (n : Int)) 13 rfl rfl (by kernel_rfl) (by kernel_rfl) (by kernel_rfl) rfl (fun w' => by go_simp) ?_
      simp only [Act.put, List.setIfInBounds_toArray, List.set_cons_zero, List.set_cons_succ]
      refine any_take (i := 4) (v := .int .u64 (r : Int)) 14 rfl rfl (by kernel_rfl) (by kernel_rfl) (by kernel_rfl) rfl (fun w' => by go_simp) ?_
      simp only [Act.put, List.setIfInBounds_toArray, List.set_cons_zero, List.set_cons_succ]
      refine any_take (i := 5) (v := .int .u64 (48 + (r : Int))) 15 rfl rfl (by kernel_rfl) (by kernel_rfl) (by kernel_rfl) rfl (fun w' => by go_simp) ?_
      simp only [Act.put, List.setIfInBounds_toArray, List.set_cons_zero, List.set_cons_succ]
      refine any_take (i := 6) (v := .int .u8 (d.toNat : Int)) 16 rfl rfl (by kernel_rfl) (by kernel_rfl) (by kernel_rfl) rfl (fun w' => by go_simp) ?_
      simp only [Act.put, List.setIfInBounds_toArray, List.set_cons_zero, List.set_cons_succ]
      refine any_two (i := 2) (j := 7) (by kernel_rfl) rfl rfl rfl rfl ?_ ?_
      · refine op_call 12 rfl (by go_simp) ((IH _).mono ?_)
        rintro e w1 ⟨rfl, k1⟩
        refine ⟨_, rfl, ?_⟩
        simp only [Act.put, List.setIfInBounds_toArray, List.set_cons_zero, List.set_cons_succ]
        have kk : Keeps (fun _ => False) w (w1.alloc (.cells #[.int .u8 (d.toNat : Int)] 5)) := (kd.trans k1).alloc (.cells #[.int .u8 (d.toNat : Int)] 5)
        have hcv := dig_conv (w1.alloc (.cells #[.int .u8 (d.toNat : Int)] 5)) w1.heap.size d (alloc_block w1 _)
        refine any_val (i := 7) (v := .slice (some ⟨w1.heap.size, 0, none⟩) 1 1) (w' := w1.alloc (.cells #[.int .u8 (d.toNat : Int)] 5)) (some 17) (by kernel_rfl) rfl rfl rfl (by go_simp) ?_
        simp only [Act.put, List.setIfInBounds_toArray, List.set_cons_zero, List.set_cons_succ]
        refine any_val (i := 8) (v := .string ⟨[d].toArray⟩) (w' := w1.alloc (.cells #[.int .u8 (d.toNat : Int)] 5)) (some 18) (by kernel_rfl) rfl rfl rfl (by go_simp) ?_
        simp only [Act.put, List.setIfInBounds_toArray, List.set_cons_zero, List.set_cons_succ]
        refine any_val (i := 9) (v := .string ⟨(Lib.decDigits q ++ [d]).toArray⟩) (w' := w1.alloc (.cells #[.int .u8 (d.toNat : Int)] 5)) (some 19) (by kernel_rfl) rfl rfl rfl (by go_simp) ?_
        simp only [Act.put, List.setIfInBounds_toArray, List.set_cons_zero, List.set_cons_succ]
        refine any_val (i := 10) (v := .string ⟨(Lib.decDigits q ++ [d]).toArray⟩) (w' := w1.alloc (.cells #[.int .u8 (d.toNat : Int)] 5)) (some 2) (by kernel_rfl) rfl rfl rfl (by go_simp) ?_
        simp only [Act.put, List.setIfInBounds_toArray, List.set_cons_zero, List.set_cons_succ]
        refine any_end (by kernel_rfl) ?_ _
        go_wp2_with fail
        go_ret
        exact ⟨by rw [HD.out]; rfl, kk⟩
      · refine op_val (v := .slice (some ⟨wd.heap.size, 0, none⟩) 1 1) (w' := wd.alloc (.cells #[.int .u8 (d.toNat : Int)] 5)) 17 rfl (by go_simp) ?_
        simp only [Act.put, List.setIfInBounds_toArray, List.set_cons_zero, List.set_cons_succ]
        refine any_two (i := 2) (j := 8) (by kernel_rfl) rfl rfl rfl rfl ?_ ?_
        · refine op_call 12 rfl (by go_simp) ((IH _).mono ?_)
          rintro e w1 ⟨rfl, k1⟩
          refine ⟨_, rfl, ?_⟩
          simp only [Act.put, List.setIfInBounds_toArray, List.set_cons_zero, List.set_cons_succ]
          have kk : Keeps (fun _ => False) w w1 := (kd.alloc (.cells #[.int .u8 (d.toNat : Int)] 5)).trans k1
          have hcv := dig_conv w1 wd.heap.size d ((k1.block _ (lt_of_block (alloc_block _ _)) (fun f => f)).trans (alloc_block _ _))
          refine any_val (i := 8) (v := .string ⟨[d].toArray⟩) (w' := w1) (some 18) (by kernel_rfl) rfl rfl rfl (by go_simp) ?_
          simp only [Act.put, List.setIfInBounds_toArray, List.set_cons_zero, List.set_cons_succ]
          refine any_val (i := 9) (v := .string ⟨(Lib.decDigits q ++ [d]).toArray⟩) (w' := w1) (some 19) (by kernel_rfl) rfl rfl rfl (by go_simp) ?_
          simp only [Act.put, List.setIfInBounds_toArray, List.set_cons_zero, List.set_cons_succ]
          refine any_val (i := 10) (v := .string ⟨(Lib.decDigits q ++ [d]).toArray⟩) (w' := w1) (some 2) (by kernel_rfl) rfl rfl rfl (by go_simp) ?_
          simp only [Act.put, List.setIfInBounds_toArray, List.set_cons_zero, List.set_cons_succ]
          refine any_end (by kernel_rfl) ?_ _
          go_wp2_with fail
          go_ret
          exact ⟨by rw [HD.out]; rfl, kk⟩
        · have hcv := dig_conv (wd.alloc (.cells #[.int .u8 (d.toNat : Int)] 5)) wd.heap.size d (alloc_block _ _)
          refine op_val (v := .string ⟨[d].toArray⟩) (w' := wd.alloc (.cells #[.int .u8 (d.toNat : Int)] 5)) 18 rfl (by go_simp) ?_
          simp only [Act.put, List.setIfInBounds_toArray, List.set_cons_zero, List.set_cons_succ]
          refine any_one (i := 2) (by kernel_rfl) rfl rfl (op_call 12 rfl (by go_simp) ((IH _).mono ?_))
          rintro e w1 ⟨rfl, k1⟩
          refine ⟨_, rfl, ?_⟩
          simp only [Act.put, List.setIfInBounds_toArray, List.set_cons_zero, List.set_cons_succ]
          have kk : Keeps (fun _ => False) w w1 := (kd.alloc (.cells #[.int .u8 (d.toNat : Int)] 5)).trans k1
          refine any_val (i := 9) (v := .string ⟨(Lib.decDigits q ++ [d]).toArray⟩) (w' := w1) (some 19) (by kernel_rfl) rfl rfl rfl (by go_simp) ?_
          simp only [Act.put, List.setIfInBounds_toArray, List.set_cons_zero, List.set_cons_succ]
          refine any_val (i := 10) (v := .string ⟨(Lib.decDigits q ++ [d]).toArray⟩) (w' := w1) (some 2) (by kernel_rfl) rfl rfl rfl (by go_simp) ?_
          simp only [Act.put, List.setIfInBounds_toArray, List.set_cons_zero, List.set_cons_succ]
          refine any_end (by kernel_rfl) ?_ _
          go_wp2_with fail
          go_ret
          exact ⟨by rw [HD.out]; rfl, kk⟩
end Go.Proofs.YtppejcfghlpbjaaGreatDoor


/- Walks of the document's opOf, number, IsLabel, find (package parleyref09). No statement of the seat is proved here. -/
namespace Go.Proofs.YtppejcfghlpbjaaGreatDoor
open Go.RowKit Go.Shelf

set_option maxRecDepth 100000 in
set_option maxHeartbeats 4000000 in
theorem ropof_any (l : List UInt8) (w : World) : Calls Tryz.prog 69 #[.string ⟨l.toArray⟩] w fun e w' => e = .returned (.int .i64 (((namedN l).getD 0 : Nat) : Int)) ∧ Keeps (fun _ => False) w w' := by
  have RN := rnames_any w
  obtain ⟨X, hX⟩ : ∃ X, X = w.alloc (.cells namesA 9) := ⟨_, rfl⟩
  have hb : X.heap[w.heap.size]? = some (.cells namesA 9 (0, 0)) := by rw [hX]; exact alloc_block _ _
  have kX : Keeps (fun _ => False) w X := by rw [hX]; exact (Keeps.refl _ _).alloc _
  rw [← hX] at RN
  clear hX
  go_enter Tryz.func69, Tryz.ntmps69
  go_wp2_with fail
  refine RN.mono ?_
  rintro e w' ⟨rfl, rfl⟩
  clear RN
  generalize w.heap.size = g at *
  go_wp2_with fail
  go_loopw [4] (fun v wr => ∃ k : Nat, v = .int .i64 k ∧ 1 ≤ k ∧ k ≤ 18 ∧ Hid (∀ j : Nat, 1 ≤ j → j < k → (nms[j]?).getD [] ≠ l) ∧ wr = w') (fun v _ => 18 - (intOf v).toNat)
  case atStart => exact ⟨1, rfl, Nat.le_refl _, by omega, fun j h1 h2 => by omega, rfl⟩
  case round =>
    obtain ⟨k, rfl, hk1, hk2, hh, rfl⟩ := hrel
    by_cases hlt : k ≤ 17
    · have hc : wr.cell? ⟨g, k, none⟩ = some (.string (nm k)) := by rw [cell_of_block hb]; exact namesA_at k (by omega)
      have hki : (k : Int) < 18 := by omega
      unfold nm at hc
      by_cases he : (nms[k]?).getD [] = l
      · have hbb : (ByteArray.toList ⟨((nms[k]?).getD []).toArray⟩ == l) = true := by rw [he]; simp
        generalize ((nms[k]?).getD []).toArray = q at *
        have hn : Hid (namedN l = some k) := namedN_yes hk1 hlt he
        clear hb
        go_wp2_with fail
        go_ret
        exact ⟨by rw [hn.out]; rfl, kX⟩
      · have hbb : (ByteArray.toList ⟨((nms[k]?).getD []).toArray⟩ == l) = false := by simpa using he
        generalize ((nms[k]?).getD []).toArray = q at *
        go_wp2_with fail
        go_roundw
        · refine ⟨k + 1, by simp, by omega, by omega, fun j h1 h2 => ?_, by first | rfl | trivial⟩
          by_cases hj : j = k
          · subst hj; exact he
          · exact hh.out j h1 (by omega)
        · simp [intOf]; omega
    · obtain rfl : k = 18 := by omega
      have hn : Hid (namedN l = none) := namedN_no (fun j h1 h2 => hh.out j h1 (by omega))
      go_wp2_with fail
      go_ret
      exact ⟨by rw [hn.out]; rfl, kX⟩

theorem numM_zero' {most : Nat} : ∀ {l : List UInt8} (h1 : 1 < l.length) (_ : (l[0]'(by omega)).toNat = 48), numM most l = none
  | [x], h, _ => by simp at h
  | x :: c :: t, _, z => by
    have : x = 48 := UInt8.toNat.inj (by simpa using z)
    rw [this]
    exact numM_zero most c t
/-- What number answers. -/
def NumPost (most : Nat) (l : List UInt8) (e : Ending) : Prop := match numM most l with
  | some n => e = .returned (.tuple #[.int .u64 (n : Int), .bool true])
  | none => e = .returned (.tuple #[.int .u64 0, .bool false])
set_option maxRecDepth 100000 in
set_option maxHeartbeats 4000000 in
theorem rnumber_any (most : Nat) (hm : most < 18446744073709551616) (hm9 : 7 ≤ most) (l : List UInt8) (hl : l.length ≤ 140737488355328) (w : World) : Calls Tryz.prog 49 #[.string ⟨l.toArray⟩, .int .u64 (most : Int)] w fun e w' => NumPost most l e ∧ w' = w := by
  have hsz : (⟨l.toArray⟩ : ByteArray).size = l.length := by simp [ByteArray.size]
  have HBAD : Hid (numM most l = none → NumPost most l (.returned (.tuple #[.int .u64 0, .bool false]))) := fun h => by unfold NumPost; rw [h]
  have HOK : Hid (∀ n, numM most l = some n → NumPost most l (.returned (.tuple #[.int .u64 (n : Int), .bool true]))) := fun n h => by unfold NumPost; rw [h]
  by_cases h0 : l = []
  · subst h0
    have hR := HBAD.out (numM_nil most)
    clear HBAD HOK
    go_enter Tryz.func49, Tryz.ntmps49
    go_wp2_with fail
    go_ret2
    exact ⟨hR, rfl⟩
  · have hemp : (ByteArray.toList ⟨l.toArray⟩ == []) = false := by simpa using h0
    have hem : l.isEmpty = false := by cases l; exact absurd rfl h0; rfl
    have hpos := List.length_pos_iff.2 h0
    have hs0 : 0 < (⟨l.toArray⟩ : ByteArray).size := by rw [hsz]; omega
    have hat0 : ((⟨l.toArray⟩ : ByteArray)[0]'hs0).toNat = (l[0]).toNat := rfl
    by_cases hz : (l[0]).toNat = 48 ∧ 1 < l.length
    · have hR := HBAD.out (numM_zero' hz.2 hz.1)
      obtain ⟨z1, z2⟩ := hz
      have h1 : (1 : Int) < l.length := by omega
      rw [z1] at hat0
      clear HBAD HOK z1
      go_enter Tryz.func49, Tryz.ntmps49
      go_wp2_with fail
      go_ret2
      exact ⟨hR, rfl⟩
    · have key : ((((l[0]).toNat : Int) == 48) = false) ∨ ((l[0]).toNat = 48 ∧ ¬ (1 : Int) < l.length) := by
        by_cases hx : (l[0]).toNat = 48
        · exact .inr ⟨hx, by omega⟩
        · exact .inl (by simp; omega)
      have HZ : Hid ((l[0]).toNat = 48 → l.length = 1) := fun h => by omega
      clear hz
      by_cases hlong : 20 < l.length
      · have hR := HBAD.out (numM_long hlong)
        have hi : (20 : Int) < l.length := by omega
        clear HBAD HOK
        rcases key with hk | ⟨hk, hk'⟩
        · generalize (l[0]).toNat = c0 at *
          go_enter Tryz.func49, Tryz.ntmps49
          go_wp2_with fail
          go_ret2
          exact ⟨hR, rfl⟩
        · omega
      · have hi : ¬ (20 : Int) < l.length := by omega
        go_enter Tryz.func49, Tryz.ntmps49
        have HG0 : Hid (∀ k (hk : k < l.length) n, decGo true 0 (l.take k) = some n → (1 ≤ k → n ≠ 0) → 48 ≤ (l[k]).toNat ∧ (l[k]).toNat ≤ 57 → n * 10 + ((l[k]).toNat - 48) ≤ most → decGo true 0 (l.take (k + 1)) = some (n * 10 + ((l[k]).toNat - 48)) ∧ (1 ≤ k + 1 → k + 1 < l.length → n * 10 + ((l[k]).toNat - 48) ≠ 0)) := fun k hk n h1 h2 h3 h4 => by
          refine ⟨num_step hm hk h2 h1 h3 h4, fun _ hlen h => ?_⟩
          by_cases hk1 : 1 ≤ k
          · have := h2 hk1; omega
          · obtain rfl : k = 0 := by omega
            have := HZ.out (by omega)
            omega
        have HG1 : Hid (∀ k (hk : k < l.length) n, decGo true 0 (l.take k) = some n → 48 ≤ (l[k]).toNat ∧ (l[k]).toNat ≤ 57 → most < n * 10 + ((l[k]).toNat - 48) → numM most l = none) := fun k hk n h1 h2 h3 => numM_big hm hk h1 h2 h3
        have HG2 : Hid (∀ k (hk : k < l.length), ¬ (48 ≤ (l[k]).toNat ∧ (l[k]).toNat ≤ 57) → numM most l = none) := fun k hk h => numM_bad hk h
        have HG3 : Hid (∀ n, decGo true 0 (l.take l.length) = some n → n ≤ most → numM most l = some n) := fun n h1 h2 => by
          rw [List.take_length] at h1
          exact numM_end h0 h1 h2
        generalize (l[0]).toNat = c0 at *
        rcases key with hk | ⟨hk, hk'⟩
        all_goals
          go_wp2_with fail
          go_loopw [6, 7] (fun v v2 wr => ∃ (x i : Nat), v = .int .u64 x ∧ v2 = .int .i64 i ∧ i ≤ l.length ∧ x ≤ most ∧ wr = w ∧ Hid (decGo true 0 (l.take i) = some x ∧ (1 ≤ i → i < l.length → x ≠ 0))) (fun _ v _ => l.length - (intOf v).toNat)
          case atStart => exact ⟨0, 0, rfl, rfl, Nat.zero_le _, by omega, rfl, ⟨by simp [decGo], fun h => by omega⟩⟩
          case round =>
            obtain ⟨x, i, rfl, rfl, hil, hx, rfl, hh⟩ := hrel
            by_cases hlt : i < l.length
            · have hli : (i : Int) < l.length := by omega
              have hs : i < (⟨l.toArray⟩ : ByteArray).size := by rw [hsz]; exact hlt
              have hat : ((⟨l.toArray⟩ : ByteArray)[i]'hs).toNat = (l[i]).toNat := rfl
              have G0 := HG0.out i hlt x hh.out.1 (fun h => hh.out.2 h hlt)
              have G1 := HG1.out i hlt x hh.out.1
              have G2 := HG2.out i hlt
              have h256 : (l[i]).toNat < 256 := (l[i]).toNat_lt
              generalize (l[i]).toNat = d at *
              have GG : Hid (_ ∧ _ ∧ _) := ⟨G0, G1, G2⟩
              clear G0 G1 G2 hh HG0 HG1 HG2 HG3 HZ
              by_cases hc1 : d < 48
              · have g1 : (d : Int) < 48 := by omega
                have hRR := HBAD.out (GG.out.2.2 (by omega))
                clear GG
                go_wp2_with fail
                go_ret2
                exact ⟨hRR, rfl⟩
              · by_cases hc2 : 57 < d
                · have g1 : ¬ (d : Int) < 48 := by omega
                  have g2 : (57 : Int) < d := by omega
                  have hRR := HBAD.out (GG.out.2.2 (by omega))
                  clear GG
                  go_wp2_with fail
                  go_ret2
                  exact ⟨hRR, rfl⟩
                · obtain ⟨ci, hci⟩ : ∃ ci : Int, ci = d := ⟨_, rfl⟩
                  have g1 : ¬ ci < 48 := by omega
                  have g2 : ¬ 57 < ci := by omega
                  have hd0 : 0 ≤ ci - 48 := by omega
                  have hd9 : ci - 48 ≤ 9 := by omega
                  have hdc : Hid (ci - 48 = ((d - 48 : Nat) : Int)) := by show ci - 48 = _; omega
                  have hat' : (((⟨l.toArray⟩ : ByteArray)[i]'hs).toNat : Int) = ci := by rw [hat, hci]
                  obtain ⟨X, hX⟩ : ∃ X : Int, X = x := ⟨_, rfl⟩
                  have hX0 : 0 ≤ X := by omega
                  have hXM : X ≤ (most : Int) := by omega
                  have hM1 : (most : Int) < 18446744073709551616 := by omega
                  by_cases hdm : (most : Int) < ci - 48
                  · have hRR := HBAD.out (GG.out.2.1 (by omega) (by have := hdc.out; omega))
                    rw [← hX]
                    have hRR' : Hid (NumPost most l (.returned (.tuple #[.int .u64 0, .bool false]))) := hRR
                    clear GG hat hX hci hRR
                    go_wp2_with fail
                    go_ret2
                    exact ⟨hRR'.out, rfl⟩
                  · by_cases hbig : ((most : Int) - (ci - 48)) / 10 < X
                    · have hRR := HBAD.out (GG.out.2.1 (by omega) (by have := hdc.out; omega))
                      rw [← hX]
                      have hRR' : Hid (NumPost most l (.returned (.tuple #[.int .u64 0, .bool false]))) := hRR
                      clear GG hat hX hci hRR
                      go_wp2_with fail
                      go_ret2
                      exact ⟨hRR'.out, rfl⟩
                    · have hRR := GG.out.1 (by omega) (by have := hdc.out; omega)
                      have b1 : 10 * X < 18446744073709551616 := by omega
                      have b2 : 10 * X + (ci - 48) < 18446744073709551616 := by omega
                      have e2 : Hid (10 * X + (ci - 48) = ((x * 10 + (d - 48) : Nat) : Int)) := by show _ = _; have := hdc.out; omega
                      have e3 : Hid (x * 10 + (d - 48) ≤ most) := by show _ ≤ _; have := hdc.out; omega
                      have hRR' : Hid (decGo true 0 (l.take (i + 1)) = some (x * 10 + (d - 48)) ∧ (1 ≤ i + 1 → i + 1 < l.length → x * 10 + (d - 48) ≠ 0)) := hRR
                      rw [← hX]
                      clear GG hat hX hci hRR
                      go_wp2_with fail
                      go_roundw
                      · exact ⟨x * 10 + (d - 48), i + 1, by rw [← e2.out, Int.mul_comm], by simp, by omega, e3.out, by first | rfl | trivial, hRR'⟩
                      · simp [intOf]; omega
            · have hli : ¬ (i : Int) < l.length := by omega
              obtain rfl : i = l.length := by omega
              have hRR := HOK.out x (HG3.out x hh.out.1 hx)
              clear HG0 HG1 HG2 HG3 HZ hh
              go_wp2_with fail
              go_ret2
              exact ⟨hRR, rfl⟩
end Go.Proofs.YtppejcfghlpbjaaGreatDoor


/- Walks of the document's IsLabel, find, parts (package parleyref09). No statement of the seat is proved here. -/
namespace Go.Proofs.YtppejcfghlpbjaaGreatDoor
open Go.RowKit Go.Shelf

set_option maxRecDepth 100000 in
set_option maxHeartbeats 4000000 in
theorem rislabel_any (l : List UInt8) (w : World) : Calls Tryz.prog 70 #[.string ⟨l.toArray⟩] w fun e w' => e = .returned (.bool (labB l)) ∧ Keeps (fun _ => False) w w' := by
  have hs := size_of l
  have k0 := Keeps.refl (fun _ => False) w
  by_cases h0 : l = []
  · subst h0
    go_enter Tryz.func70, Tryz.ntmps70
    go_wp2_with fail
    go_ret
    exact ⟨rfl, k0⟩
  · have hem : l.isEmpty = false := by cases l; exact absurd rfl h0; rfl
    have hemp : (ByteArray.toList ⟨l.toArray⟩ == []) = false := by simpa using h0
    have hpos := List.length_pos_iff.2 h0
    by_cases h64 : 64 < l.length
    · have hi : (64 : Int) < l.length := by omega
      have hr : labB l = false := by simp [labB]; omega
      rw [hr]
      go_enter Tryz.func70, Tryz.ntmps70
      go_wp2_with fail
      go_ret
      exact ⟨rfl, k0⟩
    · have hi : ¬ (64 : Int) < l.length := by omega
      obtain ⟨c0, t0, hct⟩ : ∃ c t, l = c :: t := by
        cases l with
        | nil => exact absurd rfl h0
        | cons c t => exact ⟨c, t, rfl⟩
      have hhd : (l.head?).map lowB = some (lowB c0) := by rw [hct]; rfl
      have hb0 : (0 : Nat) < (⟨l.toArray⟩ : ByteArray).size := by omega
      have hc0 : ((⟨l.toArray⟩ : ByteArray)[0]'hb0).toNat = c0.toNat := by rw [at_list l 0 hpos]; simp [hct]
      have HLO : Hid (lowB c0 = decide (97 ≤ c0.toNat ∧ c0.toNat ≤ 122)) := rfl
      have HF : Hid (lowB c0 = false → labB l = false) := fun hlow => by simp [labB, hhd, hlow]
      have HE : Hid (lowB c0 = true → (∀ c ∈ l, signB c = true) → labB l = (namedN l).isNone) := fun hlow => labB_end ⟨by omega, by omega⟩ (by rw [hhd, hlow]; rfl)
      have HSO : Hid ((namedN l).isSome = true → labB l = false) := fun h => by
        unfold labB
        cases hn : namedN l with
        | none => rw [hn] at h; cases h
        | some q => simp
      have h256 : c0.toNat < 256 := c0.toNat_lt
      clear hct hhd
      generalize lowB c0 = lb at *
      generalize c0.toNat = x0 at *
      by_cases hlt : x0 < 97
      · have g1 : (x0 : Int) < 97 := by omega
        have hr := HF.out (by rw [HLO.out]; simp; omega)
        rw [hr]
        clear HF HE HSO HLO hr
        go_enter Tryz.func70, Tryz.ntmps70
        go_wp2_with fail
        go_ret
        exact ⟨rfl, k0⟩
      · have g1 : ¬ (x0 : Int) < 97 := by omega
        by_cases hgt : 122 < x0
        · have g2 : (122 : Int) < x0 := by omega
          have hr := HF.out (by rw [HLO.out]; simp; omega)
          rw [hr]
          clear HF HE HSO HLO hr
          go_enter Tryz.func70, Tryz.ntmps70
          go_wp2_with fail
          go_ret
          exact ⟨rfl, k0⟩
        · have g2 : ¬ (122 : Int) < x0 := by omega
          have HEN := HE.out (by rw [HLO.out]; simp; omega)
          have HEN' : Hid ((∀ c ∈ l, signB c = true) → labB l = (namedN l).isNone) := HEN
          have OP := ropof_any l
          clear HF HE HLO HEN
          cases hnm : namedN l with
          | some q =>
            have hq : 0 < q := by
              obtain ⟨q0, q1, q2⟩ := namedN_forth hnm
              omega
            have hqi : (0 : Int) < q := by omega
            have hr := HSO.out (by rw [hnm]; rfl)
            rw [hr]
            rw [hnm] at OP
            simp only [Option.getD_some] at OP
            clear HEN' HSO hr hnm
            go_enter Tryz.func70, Tryz.ntmps70
            go_wp2_with fail
            refine (OP _).mono ?_
            rintro e w1 ⟨rfl, k1⟩
            clear OP
            go_wp2_with fail
            go_ret
            exact ⟨rfl, k1⟩
          | none =>
            rw [hnm] at HEN' OP
            simp only [Option.getD_none] at OP
            clear HSO hnm
            go_enter Tryz.func70, Tryz.ntmps70
            go_wp2_with fail
            refine (OP _).mono ?_
            rintro e w1 ⟨rfl, k1⟩
            clear OP
            go_wp2_with fail
            go_loopw [3] (fun v wr => ∃ k : Nat, v = .int .i64 k ∧ k ≤ l.length ∧ wr = w1 ∧ Hid (∀ c ∈ l.take k, signB c = true)) (fun v _ => l.length - (intOf v).toNat)
            case atStart => exact ⟨0, rfl, Nat.zero_le _, rfl, fun c hc => by simp at hc⟩
            case round =>
              obtain ⟨k, rfl, hk, rfl, hh⟩ := hrel
              by_cases hlk : k < l.length
              · have hki : (k : Int) < l.length := by omega
                have hbk : k < (⟨l.toArray⟩ : ByteArray).size := by omega
                have hck : ((⟨l.toArray⟩ : ByteArray)[k]'hbk).toNat = (l[k]).toNat := by rw [at_list l k hlk]
                have hnext : Hid (signB l[k] = true → ∀ c ∈ l.take (k + 1), signB c = true) := fun hx c hc => by
                  rw [List.take_succ_eq_append_getElem hlk] at hc
                  rcases List.mem_append.1 hc with hc | hc
                  · exact hh.out c hc
                  · simp only [List.mem_singleton] at hc; subst hc; exact hx
                have hbad : Hid (signB l[k] = false → labB l = false) := fun hx => labB_bad hlk hx
                have HSG : Hid (signB l[k] = (decide (97 ≤ (l[k]).toNat ∧ (l[k]).toNat ≤ 122) || decide (48 ≤ (l[k]).toNat ∧ (l[k]).toNat ≤ 57) || decide ((l[k]).toNat = 95))) := by
                  unfold Hid signB lowB digB
                  congr 1
                  rw [Bool.eq_iff_iff]
                  simp only [beq_iff_eq, decide_eq_true_eq]
                  exact ⟨fun h => by rw [h]; rfl, fun h => UInt8.toNat.inj (by rw [h]; rfl)⟩
                have h256' : (l[k]).toNat < 256 := (l[k]).toNat_lt
                generalize signB l[k] = sg at *
                generalize (l[k]).toNat = x at *
                clear hh HEN'
                by_cases a1 : 97 ≤ x
                · have b1 : (97 : Int) ≤ x := by omega
                  by_cases a2 : x ≤ 122
                  · have b2 : (x : Int) ≤ 122 := by omega
                    have b3 : ¬ (x : Int) ≤ 57 := by omega
                    have b4 : (48 : Int) ≤ x := by omega
                    have hn := hnext.out (by rw [HSG.out]; simp; omega)
                    have HN : Hid (∀ c ∈ l.take (k + 1), signB c = true) := hn
                    clear hnext hbad HSG hn
                    go_wp2_with fail
                    go_roundw
                    · exact ⟨k + 1, by simp, by omega, by first | rfl | trivial, HN⟩
                    · simp [intOf]; omega
                  · have b2 : ¬ (x : Int) ≤ 122 := by omega
                    have b3 : ¬ (x : Int) ≤ 57 := by omega
                    have b4 : (48 : Int) ≤ x := by omega
                    have b5 : ((x : Int) == 95) = false := by simp; omega
                    have b6 : ((x : Int) != 95) = true := by simp; omega
                    have hr := hbad.out (by rw [HSG.out]; simp; omega)
                    clear hnext hbad HSG
                    go_wp2_with fail
                    go_ret
                    exact ⟨by first | rfl | (rw [hr]; rfl), k1⟩
                · have b1 : ¬ (97 : Int) ≤ x := by omega
                  by_cases a3 : 48 ≤ x
                  · have b4 : (48 : Int) ≤ x := by omega
                    by_cases a4 : x ≤ 57
                    · have b3 : (x : Int) ≤ 57 := by omega
                      have hn := hnext.out (by rw [HSG.out]; simp; omega)
                      have HN : Hid (∀ c ∈ l.take (k + 1), signB c = true) := hn
                      clear hnext hbad HSG hn
                      go_wp2_with fail
                      go_roundw
                      · exact ⟨k + 1, by simp, by omega, by first | rfl | trivial, HN⟩
                      · simp [intOf]; omega
                    · have b3 : ¬ (x : Int) ≤ 57 := by omega
                      by_cases a5 : x = 95
                      · subst a5
                        have hn := hnext.out (by rw [HSG.out]; simp)
                        have HN : Hid (∀ c ∈ l.take (k + 1), signB c = true) := hn
                        clear hnext hbad HSG hn
                        go_wp2_with fail
                        go_roundw
                        · exact ⟨k + 1, by simp, by omega, by first | rfl | trivial, HN⟩
                        · simp [intOf]; omega
                      · have b5 : ((x : Int) == 95) = false := by simp; omega
                        have b6 : ((x : Int) != 95) = true := by simp; omega
                        have hr := hbad.out (by rw [HSG.out]; simp; omega)
                        clear hnext hbad HSG
                        go_wp2_with fail
                        go_ret
                        exact ⟨by first | rfl | (rw [hr]; rfl), k1⟩
                  · have b4 : ¬ (48 : Int) ≤ x := by omega
                    have b5 : ((x : Int) == 95) = false := by simp; omega
                    have b6 : ((x : Int) != 95) = true := by simp; omega
                    have hr := hbad.out (by rw [HSG.out]; simp; omega)
                    clear hnext hbad HSG
                    go_wp2_with fail
                    go_ret
                    exact ⟨by first | rfl | (rw [hr]; rfl), k1⟩
              · have hki : ¬ (k : Int) < l.length := by omega
                obtain rfl : k = l.length := by omega
                have hr := HEN'.out (by have := hh.out; rwa [List.take_length] at this)
                have hr' : Hid (labB l = true) := by rw [Hid, hr]; rfl
                clear hr hh HEN'
                go_wp2_with fail
                go_ret
                exact ⟨by rw [hr'.out]; rfl, k1⟩

/-- The place of a colon. -/
def colI (s : List UInt8) : Int := if s.idxOf 58 < s.length then (s.idxOf 58 : Nat) else -1
theorem idx_at {s : List UInt8} {k : Nat} (hk : k < s.length) (h : s[k] = 58) (hn : (58 : UInt8) ∉ s.take k) : s.idxOf 58 = k := by
  have h1 : s = s.take k ++ s.drop k := (List.take_append_drop k s).symm
  rw [h1, List.idxOf_append, if_neg hn, List.drop_eq_getElem_cons hk, h]
  simp
  omega
end Go.Proofs.YtppejcfghlpbjaaGreatDoor
