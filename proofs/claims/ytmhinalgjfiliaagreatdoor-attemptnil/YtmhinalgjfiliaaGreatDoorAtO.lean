
/-
  Calls of the program's attempts where there is none: From of no state, Copy, and the statement's own 'nothing'. No statement of the seat is proved here.
-/
import Derived.Test.YtmhinalgjfiliaaGreatDoorAtN
namespace Go.Proofs.YtmhinalgjfiliaaGreatDoor
open Go.RowKit Go.Shelf

set_option maxRecDepth 100000 in
set_option maxHeartbeats 1000000 in
theorem smay_zero (w : World) : Calls Tryz.prog 92 #[standV 0 0 0 0 0 0] w fun e w' => e = .returned (.bool false) ∧ Keeps (fun _ => False) w w' := by
  have HK : Hid (∀ o n, Keeps (fun _ => False) w ((w.alloc o).drewN n)) := fun o n => (like_drewN _ n).keeps (Keeps.al w o)
  unfold standV
  go_enter Tryz.func92, Tryz.ntmps92
  go_wp2_with fail
  go_quiet (fail)
  go_wp2_with fail
  go_ret
  exact ⟨rfl, HK.out _ _⟩

set_option maxRecDepth 100000 in
set_option maxHeartbeats 1000000 in
theorem may_zero (a rr dr : Nat) (R : Sh) (L : List (Int × Int)) (Or Od : Nat → Prop) (w : World) (h : AttX w a R rr dr L Or Od sdZ) : Calls Tryz.prog 54 #[.pointer (some ⟨a, 0, none⟩)] w fun e w' => e = .returned (.bool false) ∧ Keeps (fun _ => False) w w' := by
  obtain ⟨c5, c6, c7, c8, c9, c10⟩ := h.sc
  have hs := smay_zero w
  clear h
  dsimp only [sdZ] at c5 c6 c7 c8 c9 c10
  unfold standV at hs
  go_enter Tryz.func54, Tryz.ntmps54
  go_wp2_with (go_at_call 92; refine hs.mono ?_; rintro e w' ⟨rfl, k⟩)
  go_ret
  exact ⟨rfl, k⟩

set_option maxRecDepth 100000 in
set_option maxHeartbeats 1000000 in
theorem took_zero (a rr dr : Nat) (R : Sh) (Or Od : Nat → Prop) (w : World) (h : AttX w a R rr dr [] Or Od sdZ) : Calls Tryz.prog 53 #[.pointer (some ⟨a, 0, none⟩), .agg stZ] w fun e w' => e = .returned (.bool true) ∧ Keeps (fun _ => False) w w' := by
  have hlt := lt_of_block h.box
  have c3 : w.cell? ⟨a, 3, none⟩ = some (.pointer (some ⟨rr, 0, none⟩)) := h.cell 3
  have c4 : w.cell? ⟨a, 4, none⟩ = some (.pointer (some ⟨dr, 0, none⟩)) := h.cell 4
  have HK : Hid (∀ o n, Keeps (fun _ => False) w ((w.alloc o).drewN n)) := fun o n => (like_drewN _ n).keeps (Keeps.al w o)
  have HR : Hid (∀ W, Like W (w.alloc (.cells stZ 44)) → Calls Tryz.prog 40 #[.pointer (some ⟨rr, 0, none⟩)] W fun e w' => e = .returned (.int .i64 0) ∧ w' = W) := fun W hl =>
    rlog_len rr 1024 [] Or W ((h.kept (hl.keeps (Keeps.al w _)) (fun _ _ f => f)).rd)
  have HW : Hid (∀ W, Like W (w.alloc (.cells stZ 44)) → Calls Tryz.prog 42 #[.pointer (some ⟨dr, 0, none⟩)] W fun e w' => e = .returned (.int .i64 0) ∧ w' = W) := fun W hl =>
    log_len dr 1024 [] Od W ((h.kept (hl.keeps (Keeps.al w _)) (fun _ _ f => f)).wr)
  clear h
  unfold stZ
  go_enter Tryz.func53, Tryz.ntmps53
  go_wp2_with fail
  go_quiet ((first | (go_at_call 40; exact (HR.out _ (by exact ⟨rfl, rfl, rfl, rfl⟩)).mono (fun _ _ ⟨h1, h2⟩ => ⟨h1, _, h2⟩)) | (go_at_call 42; exact (HW.out _ (by exact ⟨rfl, rfl, rfl, rfl⟩)).mono (fun _ _ ⟨h1, h2⟩ => ⟨h1, _, h2⟩))))
  go_wp2_with fail
  go_ret
  exact ⟨rfl, HK.out _ _⟩

set_option maxRecDepth 100000 in
set_option maxHeartbeats 1000000 in
theorem from_zero (R : Sh) (ws : List Int) (x : Int) (w : World) (h : ShAt w R ws x) (h0 : 0 < w.heap.size) : Calls Tryz.prog 13 #[.agg stZ, .pointer (some ⟨R.rb, 0, none⟩), .pointer (some ⟨R.ck, 0, none⟩)] w fun e w' => e = .returned (.tuple #[.pointer none, .int .i64 2]) ∧ Keeps (fun _ => False) w w' := by
  have HT : Hid (Calls Tryz.prog 51 #[.pointer (some ⟨R.rb, 0, none⟩), .pointer (some ⟨R.ck, 0, none⟩)] (w.alloc (.cells stZ 44)) fun e W => e = .returned (.bool true) ∧ W.heap[w.heap.size]? = some (.cells stZ 44 (0, 0)) ∧ Hid (Keeps (fun _ => False) w W)) :=
    (there_yes R ws x _ (h.kept (Keeps.al w _) (fun _ _ f => f))).mono fun e W ⟨h1, h2⟩ => ⟨h1, h2.old (alloc_block w _) (fun f => f), (Keeps.al w _).trans h2⟩
  have HD : Hid (∀ W, W.heap[w.heap.size]? = some (.cells stZ 44 (0, 0)) → Keeps (fun _ => False) w W → Calls Tryz.prog 52 #[.agg stZ, .pointer (some ⟨R.rb, 0, none⟩), .pointer (some ⟨R.ck, 0, none⟩)] W fun e W' => ∃ a, e = .returned (.pointer (some ⟨a, 0, none⟩)) ∧ W'.heap[w.heap.size]? = some (.cells stZ 44 (0, 0)) ∧ Hid (∃ rr dr Or Od, AttX W' a R rr dr [] Or Od sdZ ∧ Keeps (fun _ => False) w W')) := fun W hb hk => by
    have := hk.size
    exact (laid_none sdZ R.rb R.ck W (by omega) rfl rfl).mono fun e W' ⟨a, rr, dr, Or, Od, h1, h2, h3, h4⟩ => ⟨a, h1, h4.old hb (fun f => f), rr, dr, Or, Od, h2 R rfl rfl, hk.trans h4⟩
  clear h
  go_enter Tryz.func13, Tryz.ntmps13
  go_wp2_with fail
  refine HT.out.mono ?_
  rintro e W1 ⟨rfl, b1, k1⟩
  have HD1 := HD.out W1 b1 k1.out
  have g1 : ∀ i, W1.cell? ⟨w.heap.size, i, none⟩ = stZ[i]? := fun i => cell_of_block b1 i
  have u0 : W1.cell? ⟨w.heap.size, 0, none⟩ = some (.int .u64 0) := g1 0
  have u1 : W1.cell? ⟨w.heap.size, 1, none⟩ = some (.slice none 0 0) := g1 1
  have u2 : W1.cell? ⟨w.heap.size, 2, none⟩ = some (.slice none 0 0) := g1 2
  have u3 : W1.cell? ⟨w.heap.size, 3, none⟩ = some (.int .i64 0) := g1 3
  have u4 : W1.cell? ⟨w.heap.size, 4, none⟩ = some (.int .i64 0) := g1 4
  have u5 : W1.cell? ⟨w.heap.size, 5, none⟩ = some (.int .u64 0) := g1 5
  have u6 : W1.cell? ⟨w.heap.size, 6, none⟩ = some (.int .u64 0) := g1 6
  have u7 : W1.cell? ⟨w.heap.size, 7, none⟩ = some (.int .u64 0) := g1 7
  have u8 : W1.cell? ⟨w.heap.size, 8, none⟩ = some (.int .i64 0) := g1 8
  clear HT HD b1 k1 g1
  unfold stZ at HD1
  go_wp2_with fail
  refine HD1.mono ?_
  rintro e W2 ⟨a, rfl, b2, h2⟩
  clear HD1 u0 u1 u2 u3 u4 u5 u6 u7 u8
  obtain ⟨rr, dr, Or, Od, hA, k2⟩ := h2.out
  clear h2
  have g1 : ∀ i, W2.cell? ⟨w.heap.size, i, none⟩ = stZ[i]? := fun i => cell_of_block b2 i
  have u0 : W2.cell? ⟨w.heap.size, 0, none⟩ = some (.int .u64 0) := g1 0
  have u1 : W2.cell? ⟨w.heap.size, 1, none⟩ = some (.slice none 0 0) := g1 1
  have u2 : W2.cell? ⟨w.heap.size, 2, none⟩ = some (.slice none 0 0) := g1 2
  have u3 : W2.cell? ⟨w.heap.size, 3, none⟩ = some (.int .i64 0) := g1 3
  have u4 : W2.cell? ⟨w.heap.size, 4, none⟩ = some (.int .i64 0) := g1 4
  have u5 : W2.cell? ⟨w.heap.size, 5, none⟩ = some (.int .u64 0) := g1 5
  have u6 : W2.cell? ⟨w.heap.size, 6, none⟩ = some (.int .u64 0) := g1 6
  have u7 : W2.cell? ⟨w.heap.size, 7, none⟩ = some (.int .u64 0) := g1 7
  have u8 : W2.cell? ⟨w.heap.size, 8, none⟩ = some (.int .i64 0) := g1 8
  have HTk : Hid (Calls Tryz.prog 53 #[.pointer (some ⟨a, 0, none⟩), .agg stZ] W2 fun e W' => e = .returned (.bool true) ∧ Hid (AttX W' a R rr dr [] Or Od sdZ ∧ Keeps (fun _ => False) w W')) :=
    (took_zero a rr dr R Or Od W2 hA).mono fun e W' ⟨h1, h2⟩ => ⟨h1, hA.kept h2 (fun _ _ f => f), k2.trans h2⟩
  clear hA k2 b2 g1
  unfold stZ at HTk
  go_wp2_with fail
  refine HTk.out.mono ?_
  rintro e W3 ⟨rfl, h3⟩
  clear HTk u0 u1 u2 u3 u4 u5 u6 u7 u8
  have HM : Hid (Calls Tryz.prog 54 #[.pointer (some ⟨a, 0, none⟩)] W3 fun e W' => e = .returned (.bool false) ∧ Hid (Keeps (fun _ => False) w W')) :=
    (may_zero a rr dr R [] Or Od W3 h3.out.1).mono fun e W' ⟨h1, h2⟩ => ⟨h1, h3.out.2.trans h2⟩
  clear h3
  go_wp2_with fail
  refine HM.out.mono ?_
  rintro e W4 ⟨rfl, k4⟩
  clear HM
  go_wp2_with fail
  go_ret2
  exact ⟨rfl, k4.out⟩

set_option maxRecDepth 100000 in
set_option maxHeartbeats 1000000 in
theorem copy_none (p : Option Addr) (R : Sh) (ws : List Int) (x : Int) (w : World) (hn : NoAt w p) (h : ShAt w R ws x) : Calls Tryz.prog 34 #[.pointer p, .pointer (some ⟨R.rb, 0, none⟩), .pointer (some ⟨R.ck, 0, none⟩)] w fun e w' => e = .returned (.pointer none) ∧ Keeps (fun _ => False) w w' := by
  have HS := state_none p w hn
  have HF : Hid (Calls Tryz.prog 13 #[.agg stZ, .pointer (some ⟨R.rb, 0, none⟩), .pointer (some ⟨R.ck, 0, none⟩)] (w.alloc (.cells stZ 44)) fun e w' => e = .returned (.tuple #[.pointer none, .int .i64 2]) ∧ Hid (Keeps (fun _ => False) w w')) :=
    (from_zero R ws x _ (h.kept (Keeps.al w _) (fun _ _ f => f)) (by simp)).mono fun e W ⟨h1, h2⟩ => ⟨h1, (Keeps.al w _).trans h2⟩
  clear hn h
  unfold stZ at HS HF
  go_enter Tryz.func34, Tryz.ntmps34
  go_wp2_with (first | (go_at_call 9; refine HS.mono ?_; rintro e w' ⟨rfl, rfl⟩) | (go_at_call 13; refine HF.out.mono ?_; rintro e w2 ⟨rfl, k2⟩))
  go_ret
  exact ⟨rfl, k2.out⟩

theorem turn_eq (W : World) : (binOp .neq 66 (.agg #[.int .i64 0, .int .u64 0, .int .i64 0, .int .i64 0, .int .u64 0, .int .u64 0, .bool false, .int .i64 0]) (.agg #[.int .i64 0, .int .u64 0, .int .i64 0, .int .i64 0, .int .u64 0, .int .u64 0, .bool false, .int .i64 0])).run Tryz.prog W = .ok (.bool false) W := by kernel_rfl

set_option maxRecDepth 100000 in
set_option maxHeartbeats 2000000 in
theorem nothing_any (p : Option Addr) (R : Sh) (ws : List Int) (x : Int) (w : World) (hn : NoAt w p) (h : ShAt w R ws x) : Calls Tryz.prog 20 #[.pointer p, .pointer (some ⟨R.rb, 0, none⟩), .pointer (some ⟨R.ck, 0, none⟩)] w fun e w' => e = .returned (.bool true) ∧ Keeps (fun _ => False) w w' := by
  have H1 : Hid (∀ W, Keeps (fun _ => False) w W → Calls Tryz.prog 24 #[.pointer p, .int .u64 0] W fun e w' => e = .returned (.tuple #[turn0, .int .i64 1]) ∧ w' = W.alloc (.cells zeroT 66)) := fun W k => get_none p 0 W (hn.keeps k)
  have H2 : Hid (∀ W, Keeps (fun _ => False) w W → Calls Tryz.prog 26 #[.pointer p, .int .u64 0, .int .u64 1] W fun e w' => e = .returned (.tuple #[turn0, .int .i64 1]) ∧ w' = W.alloc (.cells zeroT 66)) := fun W k => put_none p 0 1 W (hn.keeps k)
  have H3 : Hid (∀ W, Keeps (fun _ => False) w W → Calls Tryz.prog 27 #[.pointer p] W fun e w' => e = .returned (.tuple #[turn0, .int .i64 1]) ∧ w' = W.alloc (.cells zeroT 66)) := fun W k => end_nil p W (hn.keeps k)
  have H4 : Hid (∀ W, Keeps (fun _ => False) w W → Calls Tryz.prog 25 #[.pointer p] W fun e w' => e = .returned (.tuple #[turn0, .int .i64 1]) ∧ w' = W.alloc (.cells zeroT 66)) := fun W k => step_none p W (hn.keeps k)
  have H5 : Hid (∀ W, Keeps (fun _ => False) w W → Calls Tryz.prog 59 #[.pointer p] W fun e w' => e = .returned (.int .i64 1) ∧ w' = W) := fun W k => drop_none p W (hn.keeps k)
  have H6 : Hid (∀ W, Keeps (fun _ => False) w W → Calls Tryz.prog 30 #[.pointer p] W fun e w' => e = .returned (.int .i64 0) ∧ w' = W) := fun W k => phase_none p W (hn.keeps k)
  have H7 : Hid (∀ W, Keeps (fun _ => False) w W → Calls Tryz.prog 49 #[.pointer p] W fun e w' => e = .returned (.bool false) ∧ w' = W) := fun W k => locked_none p W (hn.keeps k)
  have H8 : Hid (∀ W, Keeps (fun _ => False) w W → Calls Tryz.prog 9 #[.pointer p] W fun e w' => e = .returned (.agg stZ) ∧ w' = W.alloc (.cells stZ 44)) := fun W k => state_none p W (hn.keeps k)
  have H9 : Hid (∀ W, Keeps (fun _ => False) w W → Calls Tryz.prog 16 #[.agg stZ, .agg stZ] W fun e w' => e = .returned (.bool true) ∧ Keeps (fun _ => False) w w') := fun W k => (same_nil W).mono fun e w' ⟨h1, h2⟩ => ⟨h1, k.trans h2⟩
  have H10 : Hid (∀ W, Keeps (fun _ => False) w W → Calls Tryz.prog 34 #[.pointer p, .pointer (some ⟨R.rb, 0, none⟩), .pointer (some ⟨R.ck, 0, none⟩)] W fun e w' => e = .returned (.pointer none) ∧ Keeps (fun _ => False) w w') := fun W k =>
    (copy_none p R ws x W (hn.keeps k) (h.kept k (fun _ _ f => f))).mono fun e w' ⟨h1, h2⟩ => ⟨h1, k.trans h2⟩
  have hnum := fun n W => num_any n W
  have hne := turn_eq
  clear hn h
  unfold turn0 turnV zeroT at H1 H2 H3 H4
  unfold stZ at H8 H9
  go_enter Tryz.func20, Tryz.ntmps20
  go_wp2_with (first
    | (go_at_call 24; refine (H1.out _ (by repeat (first | exact Keeps.refl _ _ | refine Keeps.alloc ?_ _))).mono ?_; rintro e w' ⟨rfl, rfl⟩)
    | (go_at_call 26; refine (H2.out _ (by repeat (first | exact Keeps.refl _ _ | refine Keeps.alloc ?_ _))).mono ?_; rintro e w' ⟨rfl, rfl⟩)
    | (go_at_call 27; refine (H3.out _ (by repeat (first | exact Keeps.refl _ _ | refine Keeps.alloc ?_ _))).mono ?_; rintro e w' ⟨rfl, rfl⟩)
    | (go_at_call 25; refine (H4.out _ (by repeat (first | exact Keeps.refl _ _ | refine Keeps.alloc ?_ _))).mono ?_; rintro e w' ⟨rfl, rfl⟩)
    | (go_at_call 59; refine (H5.out _ (by repeat (first | exact Keeps.refl _ _ | refine Keeps.alloc ?_ _))).mono ?_; rintro e w' ⟨rfl, rfl⟩)
    | (go_at_call 30; refine (H6.out _ (by repeat (first | exact Keeps.refl _ _ | refine Keeps.alloc ?_ _))).mono ?_; rintro e w' ⟨rfl, rfl⟩)
    | (go_at_call 49; refine (H7.out _ (by repeat (first | exact Keeps.refl _ _ | refine Keeps.alloc ?_ _))).mono ?_; rintro e w' ⟨rfl, rfl⟩)
    | (go_at_call 9; refine (H8.out _ (by repeat (first | exact Keeps.refl _ _ | refine Keeps.alloc ?_ _))).mono ?_; rintro e w' ⟨rfl, rfl⟩)
    | (go_at_call 16; refine (H9.out _ (by repeat (first | exact Keeps.refl _ _ | refine Keeps.alloc ?_ _))).mono ?_; rintro e w9 ⟨rfl, k9⟩)
    | (go_at_call 34; refine (H10.out _ k9).mono ?_; rintro e w10 ⟨rfl, k10⟩)
    | (go_at_call 15; refine (hnum _ _).mono ?_; rintro e w' ⟨rfl, hw'⟩; replace hw' := hw'.symm; subst hw'))
  go_ret
  exact ⟨rfl, k10⟩
end Go.Proofs.YtmhinalgjfiliaaGreatDoor
