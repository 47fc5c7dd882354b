
/- Walks of the document's Name, Line (package parleyref13). No statement of the seat is proved here. -/
import Derived.Test.YtjaldfmdjnkoeaaDoorEvRf
import Derived.Test.YtjaldfmdjnkoeaaDoorEvTa
import Derived.Test.YtjaldfmdjnkoeaaDoorEvCa
namespace Go.Proofs.YtjaldfmdjnkoeaaDoor
open Go.RowKit Go.Shelf

theorem run_add_op {o : Oper} {a : Act} {w : World} {x y : Operand} {l m : List UInt8} (ho : o.op = .binOp .add 9 x y 9) (hx : a.eval x = .string ⟨l.toArray⟩) (hy : a.eval y = .string ⟨m.toArray⟩) (hl : l.length + m.length ≤ 9223372036854775807) : (execOp a.eval o).run Tryd.prog w = .ok (.value (.string ⟨(l ++ m).toArray⟩)) w := by
  have h1 : ¬ 9223372036854775807 < l.length + m.length := by omega
  unfold execOp
  simp only [ho, hx, hy]
  go_simp
  rw [str_app]
theorem blk6' {w : World} {g : Nat} {a b c d e f : Value} {t : TypeId} {fr : Nat × Nat} (h : w.heap[g]? = some (.cells #[a, b, c, d, e, f] t fr)) : w.cell? ⟨g, 0, none⟩ = some a ∧ w.cell? ⟨g, 1, none⟩ = some b ∧ w.cell? ⟨g, 2, none⟩ = some c ∧ w.cell? ⟨g, 3, none⟩ = some d ∧ w.cell? ⟨g, 4, none⟩ = some e ∧ w.cell? ⟨g, 5, none⟩ = some f :=
  ⟨by rw [cell_of_block h]; rfl, by rw [cell_of_block h]; rfl, by rw [cell_of_block h]; rfl, by rw [cell_of_block h]; rfl, by rw [cell_of_block h]; rfl, by rw [cell_of_block h]; rfl⟩
set_option maxRecDepth 100000 in
set_option maxHeartbeats 4000000 in
theorem rname_any (e : Ev) (hf : formedE e = true) (w : World) : Calls Tryd.prog 45 #[.agg e.cells] w fun ex w' => ex = .returned (.string ⟨(nameL e).toArray⟩) ∧ Keeps (fun _ => False) w w' := by
  obtain ⟨-, -, h0, h1⟩ := formed_in hf
  clear hf
  obtain ⟨th, kd, ad, wd, own, er⟩ := e
  dsimp only at h0 h1
  have k2 : ∀ o1 o2, Keeps (fun _ => False) w ((w.alloc o1).alloc o2) := fun o1 o2 => ((Keeps.refl (fun _ => False) w).alloc o1).alloc o2
  have k1 : ∀ o1, Keeps (fun _ => False) w (w.alloc o1) := fun o1 => (Keeps.refl (fun _ => False) w).alloc o1
  show Calls Tryd.prog 45 #[.agg #[.int .i64 th, .int .i64 kd, .int .u64 ad, .int .u64 wd, .bool own, .int .i64 er]] w _
  cases own with
  | true =>
    go_enter Tryd.func45, Tryd.ntmps45
    go_wp2_with fail
    go_ret
    exact ⟨rfl, k1 _⟩
  | false =>
    rcases kd12 h0 h1 with rfl | rfl | rfl | rfl | rfl | rfl | rfl | rfl | rfl | rfl | rfl | rfl
    all_goals
      go_enter Tryd.func45, Tryd.ntmps45
      go_wp2_with fail
      go_ret
      exact ⟨rfl, k2 _ _⟩
set_option maxRecDepth 100000 in
set_option maxHeartbeats 4000000 in
theorem rline_no (e : Ev) (hwf : e.wf) (hf : formedE e = false) (w : World) : Calls Tryd.prog 28 #[.agg e.cells] w fun ex w' => ex = .returned (.tuple #[.string ⟨#[]⟩, .int .i64 201]) ∧ Keeps (fun _ => False) w w' := by
  have F := fun W => rformed_any e hwf W
  rw [hf] at F
  clear hf hwf
  obtain ⟨th, kd, ad, wd, own, er⟩ := e
  have F' : ∀ W, Calls Tryd.prog 43 #[.agg #[.int .i64 th, .int .i64 kd, .int .u64 ad, .int .u64 wd, .bool own, .int .i64 er]] W fun ex w' => ex = .returned (.bool false) ∧ Keeps (fun _ => False) W w' := F
  clear F
  have k0 := (Keeps.refl (fun _ => False) w).alloc (.cells #[.int .i64 th, .int .i64 kd, .int .u64 ad, .int .u64 wd, .bool own, .int .i64 er] 44)
  show Calls Tryd.prog 28 #[.agg #[.int .i64 th, .int .i64 kd, .int .u64 ad, .int .u64 wd, .bool own, .int .i64 er]] w _
  go_enter Tryd.func28, Tryd.ntmps28
  go_wp2_with fail
  refine (F' _).mono ?_
  rintro ex w1 ⟨rfl, k1⟩
  go_wp2_with fail
  go_ret2
  exact ⟨rfl, k0.trans k1⟩
set_option maxRecDepth 100000 in
set_option maxHeartbeats 4000000 in
theorem rline_yes (e : Ev) (hwf : e.wf) (hf : formedE e = true) (w : World) (hg : Gv w) : Calls Tryd.prog 28 #[.agg e.cells] w fun ex w' => ex = .returned (.tuple #[.string ⟨(lineL e).toArray⟩, .int .i64 0]) ∧ Keeps (fun _ => False) w w' := by
  have F := fun W => rformed_any e hwf W
  rw [hf] at F
  have NM0 := fun W => rname_any e hf W
  obtain ⟨t0, t8, h0, h1⟩ := formed_in hf
  obtain ⟨-, f1, f2, f3, f4⟩ := formed_more hf
  obtain ⟨-, -, ⟨a0, a1⟩, ⟨w0, w1⟩, -⟩ := hwf
  have HG : Hid (∀ X, Keeps (fun _ => False) w X → Gv X) := fun X k => hg.keeps k
  have hnl : (nameL e).length ≤ 9 := by unfold nameL; split; simp; exact shL_le _
  have hdt : (Lib.decDigits e.th.toNat).length ≤ 20 := dec20 (by omega)
  have hda : (Lib.decDigits e.ad.toNat).length ≤ 20 := dec20 (by omega)
  have hdw : (Lib.decDigits e.wd.toNat).length ≤ 20 := dec20 (by omega)
  have IT : Hid (∀ X, Keeps (fun _ => False) w X → Calls Tryd.prog 44 #[.int .i64 e.th] X fun ex w' => ex = .returned (.string ⟨(Lib.decDigits e.th.toNat).toArray⟩) ∧ Keeps (fun _ => False) X w') := fun X k => by
    have := itoa_any e.th.toNat (by omega) X (HG.out X k)
    rwa [show ((e.th.toNat : Nat) : Int) = e.th by omega] at this
  have DA : Hid (∀ X, Keeps (fun _ => False) w X → Calls Tryd.prog 47 #[.int .u64 e.ad] X fun ex w' => ex = .returned (.string ⟨(Lib.decDigits e.ad.toNat).toArray⟩) ∧ Keeps (fun _ => False) X w') := fun X k => by
    have := rdigits_any e.ad.toNat (by omega) X (HG.out X k)
    rwa [show ((e.ad.toNat : Nat) : Int) = e.ad by omega] at this
  have DW : Hid (∀ X, Keeps (fun _ => False) w X → Calls Tryd.prog 47 #[.int .u64 e.wd] X fun ex w' => ex = .returned (.string ⟨(Lib.decDigits e.wd.toNat).toArray⟩) ∧ Keeps (fun _ => False) X w') := fun X k => by
    have := rdigits_any e.wd.toNat (by omega) X (HG.out X k)
    rwa [show ((e.wd.toNat : Nat) : Int) = e.wd by omega] at this
  have IE : Hid (e.kd = 9 → (Lib.decDigits e.er.toNat).length ≤ 20 ∧ ∀ X, Keeps (fun _ => False) w X → Calls Tryd.prog 44 #[.int .i64 e.er] X fun ex w' => ex = .returned (.string ⟨(Lib.decDigits e.er.toNat).toArray⟩) ∧ Keeps (fun _ => False) X w') := fun h9 => by
    have hr := f4 h9
    refine ⟨dec20 (by omega), fun X k => ?_⟩
    have := itoa_any e.er.toNat (by omega) X (HG.out X k)
    rwa [show ((e.er.toNat : Nat) : Int) = e.er by omega] at this
  have PR : Hid (∀ X, Calls Tryd.prog 46 #[.int .i64 e.kd] X fun ex w' => ex = .returned (.bool (adB e.kd)) ∧ X = w') := fun X => (rpair_any e.kd h0 h1 X).mono (fun ex w' h => ⟨h.1, h.2.symm⟩)
  have SG : Hid (∀ X, Calls Tryd.prog 48 #[.int .i64 e.kd] X fun ex w' => ex = .returned (.bool (!adB e.kd && wdB e.kd)) ∧ X = w') := fun X => (rsingle_any e.kd h0 h1 X).mono (fun ex w' h => ⟨h.1, h.2.symm⟩)
  have HL : Hid (lineL e = Lib.decDigits e.th.toNat ++ 32 :: (nameL e ++ (blankN (adB e.kd) e.ad ++ (blankN (wdB e.kd) e.wd ++ blankN (erB e.kd) e.er)))) := rfl
  have h4 : (adB e.kd = true ∧ wdB e.kd = true ∧ erB e.kd = false) ∨ (adB e.kd = false ∧ wdB e.kd = true ∧ erB e.kd = false) ∨ (adB e.kd = false ∧ wdB e.kd = false ∧ erB e.kd = true ∧ e.kd = 9) ∨ (adB e.kd = false ∧ wdB e.kd = false ∧ erB e.kd = false ∧ e.kd ≠ 9) := by
    rcases kd12 h0 h1 with h | h | h | h | h | h | h | h | h | h | h | h <;> rw [h] <;> decide
  generalize lineL e = LN at *
  generalize nameL e = NM at *
  clear f1 f2 f3 f4 a0 a1 w0 w1 hg t0 t8 h0 h1 hf
  obtain ⟨th, kd, ad, wd, own, er⟩ := e
  dsimp only at *
  generalize Lib.decDigits th.toNat = DT at *
  have F' : ∀ W, Calls Tryd.prog 43 #[.agg #[.int .i64 th, .int .i64 kd, .int .u64 ad, .int .u64 wd, .bool own, .int .i64 er]] W fun ex w' => ex = .returned (.bool true) ∧ Keeps (fun _ => False) W w' := F
  have NM' : ∀ W, Calls Tryd.prog 45 #[.agg #[.int .i64 th, .int .i64 kd, .int .u64 ad, .int .u64 wd, .bool own, .int .i64 er]] W fun ex w' => ex = .returned (.string ⟨NM.toArray⟩) ∧ Keeps (fun _ => False) W w' := NM0
  clear F NM0
  have k0 := (Keeps.refl (fun _ => False) w).alloc (.cells #[.int .i64 th, .int .i64 kd, .int .u64 ad, .int .u64 wd, .bool own, .int .i64 er] 44)
  have b0 := (MapKept.heap_alloc w (.cells #[.int .i64 th, .int .i64 kd, .int .u64 ad, .int .u64 wd, .bool own, .int .i64 er] 44)).1
  show Calls Tryd.prog 28 #[.agg #[.int .i64 th, .int .i64 kd, .int .u64 ad, .int .u64 wd, .bool own, .int .i64 er]] w _
  have s1 := str_app DT [32]
  have s2 := str_app (DT ++ [32]) NM
  have t1 : ¬ 9223372036854775807 < DT.length + 1 := by omega
  have t2 : ¬ 9223372036854775807 < (DT ++ [32]).length + NM.length := by simp only [List.length_append, List.length_cons, List.length_nil]; omega
  go_enter Tryd.func28, Tryd.ntmps28
  go_wp2_with fail
  refine (F' _).mono ?_
  rintro ex w1 ⟨rfl, k1⟩
  have K1 := k0.trans k1
  have hS0 := (k1.block _ (lt_of_block b0) (fun f => f)).trans b0
  clear F' k0 k1 b0
  go_wp2_with fail
  have hS : w1.drew.heap[w.heap.size]? = some (.cells #[.int .i64 th, .int .i64 kd, .int .u64 ad, .int .u64 wd, .bool own, .int .i64 er] 44 (0, 0)) := hS0
  have KD := K1.drew
  have HS : Hid (∀ X, Keeps (fun _ => False) w1.drew X → X.heap[w.heap.size]? = some (.cells #[.int .i64 th, .int .i64 kd, .int .u64 ad, .int .u64 wd, .bool own, .int .i64 er] 44 (0, 0))) := fun X k => (k.block _ (lt_of_block hS) (fun f => f)).trans hS
  refine wp_held_end (S := fun W => W.heap[w.heap.size]? = some (.cells #[.int .i64 th, .int .i64 kd, .int .u64 ad, .int .u64 wd, .bool own, .int .i64 er] 44 (0, 0))) 8 rfl hmx2 ?_
  generalize w1.drew = wd1 at *
  simp only [Array.replicate_succ, Array.replicate_zero, List.push_toArray, List.nil_append, List.cons_append]
  refine held_take (i := 0) (v := .pointer (some ⟨w.heap.size, 0, none⟩)) 8 rfl rfl (by kernel_rfl) (by kernel_rfl) (by kernel_rfl) rfl (fun w' hw' => by go_simp) hS ?_
  simp only [Act.put, List.setIfInBounds_toArray, List.set_cons_zero, List.set_cons_succ]
  refine held_take (i := 1) (v := .int .i64 th) 9 rfl rfl (by kernel_rfl) (by kernel_rfl) (by kernel_rfl) rfl (fun w' hw' => by obtain ⟨q0, q1, q2, q3, q4, q5⟩ := blk6' hw'; go_simp) hS ?_
  simp only [Act.put, List.setIfInBounds_toArray, List.set_cons_zero, List.set_cons_succ]
  refine held_take (i := 4) (v := .agg #[.int .i64 th, .int .i64 kd, .int .u64 ad, .int .u64 wd, .bool own, .int .i64 er]) 12 rfl rfl (by kernel_rfl) (by kernel_rfl) (by kernel_rfl) rfl (fun w' hw' => by obtain ⟨q0, q1, q2, q3, q4, q5⟩ := blk6' hw'; go_simp) hS ?_
  simp only [Act.put, List.setIfInBounds_toArray, List.set_cons_zero, List.set_cons_succ]
  refine held_call (i := 2) 10 (by kernel_rfl) rfl rfl rfl (by go_simp) ((IT.out _ KD).mono ?_)
  rintro ex w2 ⟨rfl, k2⟩
  have hS2 := HS.out _ k2
  refine ⟨_, rfl, hS2, ?_⟩
  simp only [Act.put, List.setIfInBounds_toArray, List.set_cons_zero, List.set_cons_succ]
  refine held_take (i := 3) (v := .string ⟨(DT ++ [32]).toArray⟩) 11 rfl rfl (by kernel_rfl) (by kernel_rfl) (by kernel_rfl) rfl (fun w' hw' => run_add_op (l := DT) (m := [32]) rfl rfl rfl (by simp only [List.length_cons, List.length_nil]; omega)) hS2 ?_
  simp only [Act.put, List.setIfInBounds_toArray, List.set_cons_zero, List.set_cons_succ]
  refine held_call (i := 5) 13 (by kernel_rfl) rfl rfl rfl (by go_simp) ((NM' _).mono ?_)
  rintro ex w3 ⟨rfl, k3⟩
  have hS3 := HS.out _ (k2.trans k3)
  refine ⟨_, rfl, hS3, ?_⟩
  simp only [Act.put, List.setIfInBounds_toArray, List.set_cons_zero, List.set_cons_succ]
  refine held_take (i := 6) (v := .string ⟨((DT ++ [32]) ++ NM).toArray⟩) 14 rfl rfl (by kernel_rfl) (by kernel_rfl) (by kernel_rfl) rfl (fun w' hw' => run_add_op (l := (DT ++ [32])) (m := NM) rfl rfl rfl (by simp only [List.length_append, List.length_cons, List.length_nil]; omega)) hS3 ?_
  simp only [Act.put, List.setIfInBounds_toArray, List.set_cons_zero, List.set_cons_succ]
  refine held_take (i := 7) (v := .string ⟨(DT ++ [32] ++ NM).toArray⟩) 4 rfl rfl (by kernel_rfl) (by kernel_rfl) (by kernel_rfl) rfl (fun w' hw' => by go_simp) hS3 ?_
  simp only [Act.put, List.setIfInBounds_toArray, List.set_cons_zero, List.set_cons_succ]
  refine held_end (by kernel_rfl) ?_ _
  have K3 := KD.trans (k2.trans k3)
  have hXl : (DT ++ [32] ++ NM).length ≤ 30 := by simp only [List.length_append, List.length_cons, List.length_nil]; omega
  have HXL0 : LN = DT ++ [32] ++ NM ++ (blankN (adB kd) ad ++ (blankN (wdB kd) wd ++ blankN (erB kd) er)) := by rw [HL.out]; simp
  have HXL : Hid (LN = DT ++ [32] ++ NM ++ (blankN (adB kd) ad ++ (blankN (wdB kd) wd ++ blankN (erB kd) er))) := HXL0
  clear HXL0
  generalize DT ++ [32] ++ NM = X at *
  obtain ⟨c0, c1, c2, c3, c4, c5⟩ := blk6' hS3
  clear s1 s2 t1 t2 HS hS hS0 hS2 IT HL K1 KD k2 k3
  rcases h4 with ⟨e1, e2, e3⟩ | ⟨e1, e2, e3⟩ | ⟨e1, e2, e3, e4⟩ | ⟨e1, e2, e3, e4⟩
  all_goals rw [e1] at PR
  all_goals rw [e1, e2] at SG
  all_goals rw [e1, e2, e3] at HXL
  · generalize hDA : Lib.decDigits ad.toNat = A at *
    generalize hDW : Lib.decDigits wd.toNat = B at *
    have HF0 : LN = X ++ [32] ++ A ++ [32] ++ B := by rw [HXL.out]; simp [blankN, hDA, hDW]
    have HF : Hid (LN = X ++ [32] ++ A ++ [32] ++ B) := HF0
    clear HF0
    have s1 := str_app X [32]
    have s2 := str_app (X ++ [32]) A
    have s3 := str_app (X ++ [32] ++ A) [32]
    have s4 := str_app (X ++ [32] ++ A ++ [32]) B
    have t1 : ¬ 9223372036854775807 < X.length + 1 := by omega
    have t2 : ¬ 9223372036854775807 < (X ++ [32]).length + A.length := by simp only [List.length_append, List.length_cons, List.length_nil]; omega
    have t3 : ¬ 9223372036854775807 < (X ++ [32] ++ A).length + 1 := by simp only [List.length_append, List.length_cons, List.length_nil]; omega
    have t4 : ¬ 9223372036854775807 < (X ++ [32] ++ A ++ [32]).length + B.length := by simp only [List.length_append, List.length_cons, List.length_nil]; omega
    go_wp2_with (go_at_call 46; refine (PR.out _).mono ?_; rintro ex w' ⟨rfl, rfl⟩)
    have KD := K3.drew
    have hS : w3.drew.heap[w.heap.size]? = some (.cells #[.int .i64 th, .int .i64 kd, .int .u64 ad, .int .u64 wd, .bool own, .int .i64 er] 44 (0, 0)) := hS3
    have HS : Hid (∀ X, Keeps (fun _ => False) w3.drew X → X.heap[w.heap.size]? = some (.cells #[.int .i64 th, .int .i64 kd, .int .u64 ad, .int .u64 wd, .bool own, .int .i64 er] 44 (0, 0))) := fun X k => (k.block _ (lt_of_block hS) (fun f => f)).trans hS
    refine wp_held_end (S := fun W => W.heap[w.heap.size]? = some (.cells #[.int .i64 th, .int .i64 kd, .int .u64 ad, .int .u64 wd, .bool own, .int .i64 er] 44 (0, 0))) 12 rfl hmx2 ?_
    clear c0 c1 c2 c3 c4 c5 hS3
    generalize w3.drew = wd3 at *
    simp only [Array.replicate_succ, Array.replicate_zero, List.push_toArray, List.nil_append, List.cons_append]
    refine held_take (i := 0) (v := .string ⟨X.toArray⟩) 19 rfl rfl (by kernel_rfl) (by kernel_rfl) (by kernel_rfl) rfl (fun w' hw' => by go_simp) hS ?_
    simp only [Act.put, List.setIfInBounds_toArray, List.set_cons_zero, List.set_cons_succ]
    refine held_take (i := 1) (v := .string ⟨(X ++ [32]).toArray⟩) 20 rfl rfl (by kernel_rfl) (by kernel_rfl) (by kernel_rfl) rfl (fun w' hw' => run_add_op (l := X) (m := [32]) rfl rfl rfl (by simp only [List.length_cons, List.length_nil]; omega)) hS ?_
    simp only [Act.put, List.setIfInBounds_toArray, List.set_cons_zero, List.set_cons_succ]
    refine held_take (i := 2) (v := .pointer (some ⟨w.heap.size, 2, none⟩)) 21 rfl rfl (by kernel_rfl) (by kernel_rfl) (by kernel_rfl) rfl (fun w' hw' => by go_simp) hS ?_
    simp only [Act.put, List.setIfInBounds_toArray, List.set_cons_zero, List.set_cons_succ]
    refine held_take (i := 3) (v := .int .u64 ad) 22 rfl rfl (by kernel_rfl) (by kernel_rfl) (by kernel_rfl) rfl (fun w' hw' => by obtain ⟨q0, q1, q2, q3, q4, q5⟩ := blk6' hw'; go_simp) hS ?_
    simp only [Act.put, List.setIfInBounds_toArray, List.set_cons_zero, List.set_cons_succ]
    refine held_take (i := 7) (v := .pointer (some ⟨w.heap.size, 3, none⟩)) 26 rfl rfl (by kernel_rfl) (by kernel_rfl) (by kernel_rfl) rfl (fun w' hw' => by go_simp) hS ?_
    simp only [Act.put, List.setIfInBounds_toArray, List.set_cons_zero, List.set_cons_succ]
    refine held_take (i := 8) (v := .int .u64 wd) 27 rfl rfl (by kernel_rfl) (by kernel_rfl) (by kernel_rfl) rfl (fun w' hw' => by obtain ⟨q0, q1, q2, q3, q4, q5⟩ := blk6' hw'; go_simp) hS ?_
    simp only [Act.put, List.setIfInBounds_toArray, List.set_cons_zero, List.set_cons_succ]
    refine held_call (i := 4) 23 (by kernel_rfl) rfl rfl rfl (by go_simp) ((DA.out _ KD).mono ?_)
    rintro ex w4 ⟨rfl, k4⟩
    have hS4 := HS.out _ k4
    refine ⟨_, rfl, hS4, ?_⟩
    simp only [Act.put, List.setIfInBounds_toArray, List.set_cons_zero, List.set_cons_succ]
    refine held_take (i := 5) (v := .string ⟨((X ++ [32]) ++ A).toArray⟩) 24 rfl rfl (by kernel_rfl) (by kernel_rfl) (by kernel_rfl) rfl (fun w' hw' => run_add_op (l := (X ++ [32])) (m := A) rfl rfl rfl (by simp only [List.length_append, List.length_cons, List.length_nil]; omega)) hS4 ?_
    simp only [Act.put, List.setIfInBounds_toArray, List.set_cons_zero, List.set_cons_succ]
    refine held_take (i := 6) (v := .string ⟨((X ++ [32] ++ A) ++ [32]).toArray⟩) 25 rfl rfl (by kernel_rfl) (by kernel_rfl) (by kernel_rfl) rfl (fun w' hw' => run_add_op (l := (X ++ [32] ++ A)) (m := [32]) rfl rfl rfl (by simp only [List.length_append, List.length_cons, List.length_nil]; omega)) hS4 ?_
    simp only [Act.put, List.setIfInBounds_toArray, List.set_cons_zero, List.set_cons_succ]
    refine held_call (i := 9) 28 (by kernel_rfl) rfl rfl rfl (by go_simp) ((DW.out _ (KD.trans k4)).mono ?_)
    rintro ex w5 ⟨rfl, k5⟩
    have hS5 := HS.out _ (k4.trans k5)
    refine ⟨_, rfl, hS5, ?_⟩
    simp only [Act.put, List.setIfInBounds_toArray, List.set_cons_zero, List.set_cons_succ]
    refine held_take (i := 10) (v := .string ⟨((X ++ [32] ++ A ++ [32]) ++ B).toArray⟩) 29 rfl rfl (by kernel_rfl) (by kernel_rfl) (by kernel_rfl) rfl (fun w' hw' => run_add_op (l := (X ++ [32] ++ A ++ [32])) (m := B) rfl rfl rfl (by simp only [List.length_append, List.length_cons, List.length_nil]; omega)) hS5 ?_
    simp only [Act.put, List.setIfInBounds_toArray, List.set_cons_zero, List.set_cons_succ]
    refine held_take (i := 11) (v := .string ⟨(X ++ [32] ++ A ++ [32] ++ B).toArray⟩) 4 rfl rfl (by kernel_rfl) (by kernel_rfl) (by kernel_rfl) rfl (fun w' hw' => by go_simp) hS5 ?_
    simp only [Act.put, List.setIfInBounds_toArray, List.set_cons_zero, List.set_cons_succ]
    refine held_end (by kernel_rfl) ?_ _
    have K5 := KD.trans (k4.trans k5)
    go_wp2_with fail
    go_ret2
    exact ⟨by rw [HF.out]; rfl, K5⟩
  · generalize hDW : Lib.decDigits wd.toNat = B at *
    have HF0 : LN = X ++ [32] ++ B := by rw [HXL.out]; simp [blankN, hDW]
    have HF : Hid (LN = X ++ [32] ++ B) := HF0
    clear HF0
    have s1 := str_app X [32]
    have s2 := str_app (X ++ [32]) B
    have t1 : ¬ 9223372036854775807 < X.length + 1 := by omega
    have t2 : ¬ 9223372036854775807 < (X ++ [32]).length + B.length := by simp only [List.length_append, List.length_cons, List.length_nil]; omega
    go_wp2_with (first | (go_at_call 46; refine (PR.out _).mono ?_; rintro ex w' ⟨rfl, rfl⟩) | (go_at_call 48; refine (SG.out _).mono ?_; rintro ex w' ⟨rfl, rfl⟩))
    refine (DW.out _ K3).mono ?_
    rintro ex w5 ⟨rfl, k5⟩
    go_wp2_with fail
    go_ret2
    exact ⟨by rw [HF.out]; first | rfl | simp, K3.trans k5⟩
  · obtain ⟨hel, IEo⟩ := IE.out e4
    subst e4
    generalize hDE : Lib.decDigits er.toNat = B at *
    have HF0 : LN = X ++ [32] ++ B := by rw [HXL.out]; simp [blankN, hDE]
    have HF : Hid (LN = X ++ [32] ++ B) := HF0
    clear HF0
    have s1 := str_app X [32]
    have s2 := str_app (X ++ [32]) B
    have t1 : ¬ 9223372036854775807 < X.length + 1 := by omega
    have t2 : ¬ 9223372036854775807 < (X ++ [32]).length + B.length := by simp only [List.length_append, List.length_cons, List.length_nil]; omega
    have IE2 := IEo _ K3
    clear IE IEo
    go_wp2_with (first | (go_at_call 46; refine (PR.out _).mono ?_; rintro ex w' ⟨rfl, rfl⟩) | (go_at_call 48; refine (SG.out _).mono ?_; rintro ex w' ⟨rfl, rfl⟩))
    refine IE2.mono ?_
    rintro ex w5 ⟨rfl, k5⟩
    go_wp2_with fail
    go_ret2
    exact ⟨by rw [HF.out]; first | rfl | simp, K3.trans k5⟩
  · have HF0 : LN = X := by rw [HXL.out]; simp [blankN]
    have HF : Hid (LN = X) := HF0
    clear HF0
    have hd9 : (kd == 9) = false := by simpa using e4
    have hd8 : decide (kd = 9) = false := decide_eq_false e4
    go_wp2_with (first | (go_at_call 46; refine (PR.out _).mono ?_; rintro ex w' ⟨rfl, rfl⟩) | (go_at_call 48; refine (SG.out _).mono ?_; rintro ex w' ⟨rfl, rfl⟩))
    go_ret2
    exact ⟨by rw [HF.out]; rfl, K3⟩
end Go.Proofs.YtjaldfmdjnkoeaaDoor
