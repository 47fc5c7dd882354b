
/- The walk of the law SeqPlays. -/
import Derived.Test.YtlldffbohojppaaSeqJ
namespace Go.Proofs.Ytlldffbohojppaa
open Go.RowKit

set_option maxRecDepth 20000 in
set_option maxHeartbeats 16000000 in
theorem plays_law (x0 : Int) (h0 : 0 ≤ x0) (h1 : x0 < 18446744073709551616) (sp : Option Addr) (l c : Nat) (ss : List StepD) (w : World) (hl : ss.length = l) (hst : StepsAt w sp ss) (hl2 : l < 4611686018427387904) :
    Calls Try.prog 3 #[.int .u64 x0, .slice sp l c] w fun e w' => e = .returned (.bool true) ∧ Keeps (fun _ => False) w w' := by
  go_enter Try.func3, Try.ntmps3
  go_wp2_with fail
  refine (from_any x0 h0 h1 _).mono ?_
  rintro e w1 ⟨p0, b0, c0, rfl, hC0, hK0, lp0, lb0, lc0⟩
  go_wp2_with fail
  refine (new_any _).mono ?_
  rintro e w2 ⟨p1, b1, c1, rfl, hC1, hK1, lp1, lb1, lc1⟩
  obtain ⟨ha, hb⟩ := first_blocks w (hK0.trans hK1)
  have a0 := cell_of_block ha 0
  have a1 := cell_of_block ha 1
  have d0 := cell_of_block hb 0
  have d1 := cell_of_block hb 1
  have fa0 := frozen_of_block ha 0
  have fa1 := frozen_of_block ha 1
  have fb0 := frozen_of_block hb 0
  have fb1 := frozen_of_block hb 1
  simp only [List.getElem?_toArray, List.getElem?_cons_zero, List.getElem?_cons_succ] at a0 a1 d0 d1
  have HI : Hid (∀ W, W = (((w2.setCell ⟨w.heap.size, 0, none⟩ (.pointer (some ⟨p0, 0, none⟩))).setCell ⟨w.heap.size, 1, none⟩ (.pointer (some ⟨p1, 0, none⟩))).setCell ⟨w.heap.size + 1, 0, none⟩ (.int .u64 x0)).setCell ⟨w.heap.size + 1, 1, none⟩ (.int .i64 0) → Fam W (Fx w (.slice none 0 0) (.slice none 0 0)) (two ⟨p0, b0, c0, x0, 0⟩ ⟨p1, b1, c1, 0, 0⟩) [] ∧ Rws w W (two ⟨p0, b0, c0, x0, 0⟩ ⟨p1, b1, c1, 0, 0⟩) (.slice none 0 0) (.slice none 0 0) [] []) := by
    show ∀ W, _
    intro W hW
    simp only [World.size_alloc] at lp0 lb0 lc0
    exact first_state w w1 w2 p0 b0 c0 p1 b1 c1 x0 hC0 hK0 hC1 hK1 (by omega) (by omega) (by omega) lp1 lb1 lc1 W hW
  clear hC0 hC1 hK0 hK1 lp0 lb0 lc0 lp1 lb1 lc1 ha hb
  go_wp2_with fail
  go_loopw [7, 8, 9] (fun v u i wr => ∃ (k : Nat) (f : Nat → Clk) (L : List Clk), k ≤ l ∧ i = .int .i64 k ∧ L.length ≤ 20 ∧ Fam wr (Fx w v u) f L ∧ Rws w wr f v u L L) (fun _ _ i _ => l - (intOf i).toNat)
  case atStart => exact ⟨0, _, [], by omega, rfl, by simp, HI.out _ rfl⟩
  case round =>
    clear HI a0 a1 d0 d1 fa0 fa1 fb0 fb1
    obtain ⟨k, f, L, hk, rfl, hL, hF, hR⟩ := hrel
    by_cases hlt : k < l
    · have hlt' : (k : Int) < (l : Int) := by omega
      obtain ⟨g, o, d, rfl, hd, s0, s1, e0, e1, e2, e3⟩ := hst k (by omega)
      obtain ⟨kd, on, s, nr⟩ := d
      have c0 := hR.kp.cell (fun f => f) e0
      have c1 := hR.kp.cell (fun f => f) e1
      have c2 := hR.kp.cell (fun f => f) e2
      have c3 := hR.kp.cell (fun f => f) e3
      clear e0 e1 e2 e3 hd
      obtain ⟨i, hi, hix⟩ := idx2 on
      have hK1 : Keeps (fun _ => False) wr (wr.alloc (.cells #[.int .i64 kd, .int .i64 on, .int .u64 s, .bool nr] 34)) := (Keeps.refl _ wr).alloc _
      have hS1 : Stp (wr.alloc (.cells #[.int .i64 kd, .int .i64 on, .int .u64 s, .bool nr] 34)) wr.heap.size kd on s nr := ⟨(MapKept.heap_alloc wr _).1⟩
      have hF1 := hF.keeps hK1 (fun _ f => f.elim)
      have hR1 := hR.same hK1
      have hnF : ∀ k, (f i).own k → k < wr.heap.size := fun k hk => (hF.c i hi).lt hk
      have hnN : w.heap.size + 1 < wr.heap.size := lt_of_block hR.ar
      have hnX : ∀ k, k = wr.heap.size → ¬ Fx w u7 u8 k := fun k e hx => by have := hR.lt hx; omega
      have hnA : ∀ d, ((∃ j, j < 2 ∧ d = f j) ∨ d ∈ L) → ∀ k, d.own k → ¬ k = wr.heap.size := fun d hd k hk e => by
        rcases hd with ⟨j, hj, rfl⟩ | hd
        · have := (hF.c j hj).lt hk
          omega
        · have := (hF.l d hd).lt hk
          omega
      have n1 := hS1.c1
      have n3 := hS1.c3
      have m1 := hR1.cellc hi
      have hi0 : (0 : Int) ≤ (i : Int) := by omega
      have hi1 : (i : Int) < 2 := by omega
      clear hF hR hK1
      cases nr
      · cases hkd : (kd == 6)
        · have hpl := played_step hF1 hR1 hi hS1 hnF hnN s0 s1
          have q0 := hS1.c0
          have q1 := hS1.c1
          have q2 := hS1.c2
          have q3 := hS1.c3
          have m1 := hR1.cellc hi
          clear hF1 hR1 hS1 hst
          go_wp2_with fail
          go_region_held3 (fun W => W.cell? ⟨w.heap.size, i, none⟩ = some (.pointer (some ⟨(f i).p, 0, none⟩)) ∧ W.cell? ⟨wr.heap.size, 0, none⟩ = some (.int .i64 kd) ∧ W.cell? ⟨wr.heap.size, 1, none⟩ = some (.int .i64 on) ∧ W.cell? ⟨wr.heap.size, 2, none⟩ = some (.int .u64 s) ∧ W.cell? ⟨wr.heap.size, 3, none⟩ = some (.bool false)) (first | assumption | (exact ⟨m1, q0, q1, q2, q3⟩) | go_keep) ((go_at_call 10; refine (hpl _ (by exact ⟨rfl, rfl, rfl, rfl⟩)).mono ?_; rintro e w4 ⟨rfl, hSS, hH⟩))
          obtain ⟨f', hF4, hR4⟩ := hH.out
          clear hpl hH hSS q0 q1 q2 q3 m1
          go_wp2_with fail
          go_roundw
          case rel => exact ⟨k + 1, f', L, by omega, by go_num, hL, hF4, hR4⟩
          case measure => simp [intOf]; omega
        · have q0 := hS1.c0
          obtain ⟨a1, n2, rfl⟩ := row_form hR1
          by_cases h20 : L.length < 20
          · have h20' : (L.length : Int) < 20 := by omega
            obtain ⟨v', w5, r1, hR5, u', w6, r2, hR6, hF6⟩ := pushed hF1 hR1 (f i) (by omega)
            simp only [World.size_alloc] at r1
            have m1 := hR1.cellc hi
            have d0 := (hR5.ref hi).cell0
            have d1 := (hR5.ref hi).cell1
            have m6 := hR6.cellc hi
            have hcp := ccopy_at _ _ _ _ _ _ (hF6.c i hi)
            clear hF1 hR1 hS1 hR5 hst
            go_wp2_with (at_builtin; first | (refine wpList_append_run rfl _ _ 29 rfl _ _ _ _ rfl rfl r1 ?_; clear r1) | (refine wpList_append_run rfl _ _ 30 rfl _ _ _ _ rfl rfl r2 ?_; clear r2))
            refine hcp.mono ?_
            rintro e w7 ⟨p, b, d, rfl, hC7, hk7, lp, lb, ld⟩
            have hst7 := copied_state hF6 hR6 hi hC7 hk7 lp lb ld
            have m7 := (hR6.same hk7).cellc hi
            have z7 := frozen_of_block (hR6.same hk7).ac i
            have HS7 : Hid _ := hst7
            clear hst7 hcp hC7 hk7 lp lb ld
            clear hF6 hR6 m6 d0 d1 m1
            go_wp2_with fail
            go_roundw
            case rel => exact ⟨k + 1, _, L ++ [f i], by omega, by go_num, by simp; omega, HS7.out.1, HS7.out.2⟩
            case measure => simp [intOf]; omega
          · have h20' : ¬ (L.length : Int) < 20 := by omega
            have m1 := hR1.cellc hi
            have hcp := ccopy_at _ _ _ _ _ _ (hF1.c i hi)
            clear hS1 hst
            go_wp2_with fail
            refine hcp.mono ?_
            rintro e w7 ⟨p, b, d, rfl, hC7, hk7, lp, lb, ld⟩
            have hst7 := copied_state hF1 hR1 hi hC7 hk7 lp lb ld
            have m7 := (hR1.same hk7).cellc hi
            have z7 := frozen_of_block (hR1.same hk7).ac i
            have HS7 : Hid _ := hst7
            clear hst7 hcp hC7 hk7 lp lb ld
            clear hF1 hR1 m1
            go_wp2_with fail
            go_roundw
            case rel => exact ⟨k + 1, _, L, by omega, by go_num, by omega, HS7.out.1.less, HS7.out.2⟩
            case measure => simp [intOf]; omega
      · have r0 := (hR1.ref hi).cell0
        have r2 := hS1.c2
        have r3 : (wr.alloc (.cells #[.int .i64 kd, .int .i64 on, .int .u64 s, .bool true] 34)).drew.frozen? ⟨wr.heap.size, 2, none⟩ = false := frozen_of_block hS1.at_ 2
        replace r0 : (wr.alloc (.cells #[.int .i64 kd, .int .i64 on, .int .u64 s, .bool true] 34)).drew.cell? ⟨w.heap.size + 1, i * 2, none⟩ = some (.int .u64 (f i).x) := r0
        replace r2 : (wr.alloc (.cells #[.int .i64 kd, .int .i64 on, .int .u64 s, .bool true] 34)).drew.cell? ⟨wr.heap.size, 2, none⟩ = some (.int .u64 s) := r2
        have r8 : ((wr.alloc (.cells #[.int .i64 kd, .int .i64 on, .int .u64 s, .bool true] 34)).drew.setCell ⟨wr.heap.size, 2, none⟩ (.int .u64 (IntKind.u64.wrap (s + (f i).x)))).cell? ⟨w.heap.size + 1, i * 2, none⟩ = some (.int .u64 (f i).x) := (World.cell?_setCell_far _ ⟨wr.heap.size, 2, none⟩ ⟨w.heap.size + 1, i * 2, none⟩ _ (fun e => by simp at e; omega)).trans r0
        have hk2 : Keeps (fun k => k = wr.heap.size) (wr.alloc (.cells #[.int .i64 kd, .int .i64 on, .int .u64 s, .bool true] 34)) ((wr.alloc (.cells #[.int .i64 kd, .int .i64 on, .int .u64 s, .bool true] 34)).drew.setCell ⟨wr.heap.size, 2, none⟩ (.int .u64 (IntKind.u64.wrap (s + (f i).x)))) := ((Keeps.refl (fun k => k = wr.heap.size) _).drew).setCell (p := ⟨wr.heap.size, 2, none⟩) (.inr rfl) _
        have hS2 : Hid (Stp ((wr.alloc (.cells #[.int .i64 kd, .int .i64 on, .int .u64 s, .bool true] 34)).drew.setCell ⟨wr.heap.size, 2, none⟩ (.int .u64 (IntKind.u64.wrap (s + (f i).x)))) wr.heap.size kd on (IntKind.u64.wrap (s + (f i).x)) true) := ⟨block_set (w := (wr.alloc (.cells #[.int .i64 kd, .int .i64 on, .int .u64 s, .bool true] 34)).drew) hS1.at_ 2 _⟩
        have hR2 : Hid (Rws w ((wr.alloc (.cells #[.int .i64 kd, .int .i64 on, .int .u64 s, .bool true] 34)).drew.setCell ⟨wr.heap.size, 2, none⟩ (.int .u64 (IntKind.u64.wrap (s + (f i).x)))) f u7 u8 L L) := hR1.keeps hk2 hnX
        have hF2 : Hid (Fam ((wr.alloc (.cells #[.int .i64 kd, .int .i64 on, .int .u64 s, .bool true] 34)).drew.setCell ⟨wr.heap.size, 2, none⟩ (.int .u64 (IntKind.u64.wrap (s + (f i).x)))) (Fx w u7 u8) f L) := hF1.keeps2 hk2 hnA
        clear hS1 hR1 hF1 hk2
        go_wp2_with fail
        refine wp_held_end (S := fun W => W.cell? ⟨w.heap.size + 1, i * 2, none⟩ = some (.int .u64 (f i).x)) 9 rfl (by kernel_rfl) ?_
        refine held_take (i := 0) (v := .pointer (some ⟨wr.heap.size, 2, none⟩)) 46 rfl rfl (by kernel_rfl) (by kernel_rfl) (by kernel_rfl) rfl (fun w' hw' => by go_simp) r0 ?_
        simp only [Act.put, List.setIfInBounds_toArray, List.set_cons_zero, List.set_cons_succ]
        refine held_take (i := 2) (v := .int .i64 i) 48 rfl rfl (by kernel_rfl) (by kernel_rfl) (by kernel_rfl) rfl (fun w' hw' => by go_simp) r0 ?_
        simp only [Act.put, List.setIfInBounds_toArray, List.set_cons_zero, List.set_cons_succ]
        refine held_take (i := 3) (v := .pointer (some ⟨w.heap.size + 1, i * 2, none⟩)) 49 rfl rfl (by kernel_rfl) (by kernel_rfl) (by kernel_rfl) rfl (fun w' hw' => by go_simp) r0 ?_
        simp only [Act.put, List.setIfInBounds_toArray, List.set_cons_zero, List.set_cons_succ]
        refine held_take (i := 4) (v := .pointer (some ⟨w.heap.size + 1, i * 2, none⟩)) 50 rfl rfl (by kernel_rfl) (by kernel_rfl) (by kernel_rfl) rfl (fun w' hw' => by go_simp) r0 ?_
        simp only [Act.put, List.setIfInBounds_toArray, List.set_cons_zero, List.set_cons_succ]
        refine held_take (i := 5) (v := .int .u64 (f i).x) 51 rfl rfl (by kernel_rfl) (by kernel_rfl) (by kernel_rfl) rfl (fun w' hw' => by go_simp) r0 ?_
        simp only [Act.put, List.setIfInBounds_toArray, List.set_cons_zero, List.set_cons_succ]
        refine held_val (i := 1) (v := .int .u64 s) (w' := (wr.alloc (.cells #[.int .i64 kd, .int .i64 on, .int .u64 s, .bool true] 34)).drew) (some 47) (by kernel_rfl) rfl rfl rfl (by go_simp) r0 ?_
        simp only [Act.put, List.setIfInBounds_toArray, List.set_cons_zero, List.set_cons_succ]
        refine held_val (i := 6) (v := .int .u64 (IntKind.u64.wrap (s + (f i).x))) (w' := (wr.alloc (.cells #[.int .i64 kd, .int .i64 on, .int .u64 s, .bool true] 34)).drew) (some 52) (by kernel_rfl) rfl rfl rfl (by go_simp) r0 ?_
        simp only [Act.put, List.setIfInBounds_toArray, List.set_cons_zero, List.set_cons_succ]
        refine held_val (i := 7) (v := .pointer (some ⟨wr.heap.size, 2, none⟩)) (w' := (wr.alloc (.cells #[.int .i64 kd, .int .i64 on, .int .u64 s, .bool true] 34)).drew) (some 53) (by kernel_rfl) rfl rfl rfl (by go_simp) r0 ?_
        simp only [Act.put, List.setIfInBounds_toArray, List.set_cons_zero, List.set_cons_succ]
        refine held_none (i := 8) (w' := (wr.alloc (.cells #[.int .i64 kd, .int .i64 on, .int .u64 s, .bool true] 34)).drew.setCell ⟨wr.heap.size, 2, none⟩ (.int .u64 (IntKind.u64.wrap (s + (f i).x)))) (by kernel_rfl) rfl rfl rfl (by go_simp) r8 ?_
        refine held_end (by kernel_rfl) ?_ _
        have HS := hS2.out
        have HR := hR2.out
        have HF := hF2.out
        clear hS2 hR2 hF2 r0 r2 r3 r8 n1 n3 m1
        have t0 : 0 ≤ IntKind.u64.wrap (s + (f i).x) := upw_lo s (f i).x
        have t1 : IntKind.u64.wrap (s + (f i).x) < 18446744073709551616 := upw_hi s (f i).x
        generalize IntKind.u64.wrap (s + (f i).x) = s' at *
        generalize (wr.alloc (.cells #[.int .i64 kd, .int .i64 on, .int .u64 s, .bool true] 34)).drew.setCell ⟨wr.heap.size, 2, none⟩ (.int .u64 s') = W at *
        cases hkd : (kd == 6)
        · have hpl := played_step HF HR hi HS hnF hnN t0 t1
          have q0 := HS.c0
          have q1 := HS.c1
          have q2 := HS.c2
          have q3 := HS.c3
          have m1 := HR.cellc hi
          clear HF HR HS hst
          go_wp2_with fail
          go_region_held3 (fun W => W.cell? ⟨w.heap.size, i, none⟩ = some (.pointer (some ⟨(f i).p, 0, none⟩)) ∧ W.cell? ⟨wr.heap.size, 0, none⟩ = some (.int .i64 kd) ∧ W.cell? ⟨wr.heap.size, 1, none⟩ = some (.int .i64 on) ∧ W.cell? ⟨wr.heap.size, 2, none⟩ = some (.int .u64 s') ∧ W.cell? ⟨wr.heap.size, 3, none⟩ = some (.bool true)) (first | assumption | (exact ⟨m1, q0, q1, q2, q3⟩) | go_keep) ((go_at_call 10; refine (hpl _ (by exact ⟨rfl, rfl, rfl, rfl⟩)).mono ?_; rintro e w4 ⟨rfl, hSS, hH⟩))
          obtain ⟨f', hF4, hR4⟩ := hH.out
          clear hpl hH hSS q0 q1 q2 q3 m1
          go_wp2_with fail
          go_roundw
          case rel => exact ⟨k + 1, f', L, by omega, by go_num, hL, hF4, hR4⟩
          case measure => simp [intOf]; omega
        · have q0 := HS.c0
          obtain ⟨a1, n2, rfl⟩ := row_form HR
          by_cases h20 : L.length < 20
          · have h20' : (L.length : Int) < 20 := by omega
            obtain ⟨v', w5, r1, hR5, u', w6, r2, hR6, hF6⟩ := pushed HF HR (f i) (by omega)
            skip
            have m1 := HR.cellc hi
            have d0 := (hR5.ref hi).cell0
            have d1 := (hR5.ref hi).cell1
            have m6 := hR6.cellc hi
            have hcp := ccopy_at _ _ _ _ _ _ (hF6.c i hi)
            clear HF HR HS hR5 hst
            go_wp2_with (at_builtin; first | (refine wpList_append_run rfl _ _ 29 rfl _ _ _ _ rfl rfl r1 ?_; clear r1) | (refine wpList_append_run rfl _ _ 30 rfl _ _ _ _ rfl rfl r2 ?_; clear r2))
            refine hcp.mono ?_
            rintro e w7 ⟨p, b, d, rfl, hC7, hk7, lp, lb, ld⟩
            have hst7 := copied_state hF6 hR6 hi hC7 hk7 lp lb ld
            have m7 := (hR6.same hk7).cellc hi
            have z7 := frozen_of_block (hR6.same hk7).ac i
            have HS7 : Hid _ := hst7
            clear hst7 hcp hC7 hk7 lp lb ld
            clear hF6 hR6 m6 d0 d1 m1
            go_wp2_with fail
            go_roundw
            case rel => exact ⟨k + 1, _, L ++ [f i], by omega, by go_num, by simp; omega, HS7.out.1, HS7.out.2⟩
            case measure => simp [intOf]; omega
          · have h20' : ¬ (L.length : Int) < 20 := by omega
            have m1 := HR.cellc hi
            have hcp := ccopy_at _ _ _ _ _ _ (HF.c i hi)
            clear HS hst
            go_wp2_with fail
            refine hcp.mono ?_
            rintro e w7 ⟨p, b, d, rfl, hC7, hk7, lp, lb, ld⟩
            have hst7 := copied_state HF HR hi hC7 hk7 lp lb ld
            have m7 := (HR.same hk7).cellc hi
            have z7 := frozen_of_block (HR.same hk7).ac i
            have HS7 : Hid _ := hst7
            clear hst7 hcp hC7 hk7 lp lb ld
            clear HF HR m1
            go_wp2_with fail
            go_roundw
            case rel => exact ⟨k + 1, _, L, by omega, by go_num, by omega, HS7.out.1.less, HS7.out.2⟩
            case measure => simp [intOf]; omega
    · have hlt' : ¬ (k : Int) < (l : Int) := by omega
      clear hst
      go_wp2_with fail
      go_loopw [7, 8, 13] (fun v u i wr => ∃ j : Nat, j ≤ 2 ∧ i = .int .i64 j ∧ Fam wr (Fx w v u) f L ∧ Rws w wr f v u (L ++ (List.range j).map f) (L ++ (List.range j).map f)) (fun _ _ i _ => 2 - (intOf i).toNat)
      case atStart => exact ⟨0, by omega, rfl, hF, by simpa using hR⟩
      case round =>
        clear hF hR
        obtain ⟨j, hj, rfl, hF, hR⟩ := hrel
        by_cases hj2 : j < 2
        · have hj' : (j : Int) < 2 := by omega
          have hj0 : (0 : Int) ≤ (j : Int) := by omega
          obtain ⟨v', w5, r1, hR5, u', w6, r2, hR6, hF6⟩ := pushed hF hR (f j) (by simp; omega)
          have m1 := hR.cellc hj2
          have d0 := (hR5.ref hj2).cell0
          have d1 := (hR5.ref hj2).cell1
          rw [range_more] at hR6
          have HX : Hid (Fam w6 (Fx w v' u') f L ∧ Rws w w6 f v' u' (L ++ (List.range (j + 1)).map f) (L ++ (List.range (j + 1)).map f)) := ⟨hF6, hR6⟩
          clear hF hR hR5 hR6 hF6
          go_wp2_with (at_builtin; first | (refine wpList_append_run rfl _ _ 29 rfl _ _ _ _ rfl rfl r1 ?_; clear r1) | (refine wpList_append_run rfl _ _ 30 rfl _ _ _ _ rfl rfl r2 ?_; clear r2))
          go_roundw
          case rel => exact ⟨j + 1, by omega, by go_num, HX.out⟩
          case measure => simp [intOf]; omega
        · obtain rfl : j = 2 := by omega
          rw [range_two] at hR
          obtain ⟨ha, hp, hx⟩ := hF.all
          have hlen : (L ++ [f 0, f 1]).length = L.length + 2 := by simp
          generalize L ++ [f 0, f 1] = M at *
          obtain ⟨gv, cv, rfl, hcv⟩ := own_cells hR.ov (by omega)
          obtain ⟨gu, cu, rfl, hcu⟩ := own_cells hR.ou (by omega)
          clear hcv hcu hF
          have hM : M.length < 1000 := by omega
          have hM0 : 0 < M.length := by omega
          clear hlen
          go_wp2_with fail
          go_loopw [14] (fun i wr => ∃ j : Nat, j ≤ M.length ∧ i = .int .i64 j ∧ (∀ d ∈ M.drop j, d.At wr) ∧ Rws w wr f (.slice (some ⟨gv, 0, none⟩) M.length cv) (.slice (some ⟨gu, 0, none⟩) M.length cu) M M) (fun i _ => M.length - (intOf i).toNat)
          case atStart => exact ⟨0, by omega, rfl, by simpa using ha, hR⟩
          case round =>
            clear ha hR
            obtain ⟨j, hj, rfl, ha, hR⟩ := hrel
            by_cases hjm : j < M.length
            · have hj' : (j : Int) < (M.length : Int) := by omega
              obtain ⟨d, hd⟩ : ∃ d, M[j]? = some d := ⟨_, List.getElem?_eq_getElem hjm⟩
              have hdm : d ∈ M.drop j := List.mem_iff_getElem?.2 ⟨0, by rw [List.getElem?_drop]; exact hd⟩
              have cv0 := own_cell hR.ov (by omega) (ptrs_at M j d hd)
              have cu0 := own_cell hR.ou (by omega) (nums_at M j d hd).1
              have cu1 := own_cell hR.ou (by omega) (nums_at M j d hd).2
              have hq : ∀ W0, Like W0 wr → Calls Try.prog 11 #[.pointer (some ⟨d.p, 0, none⟩)] W0 fun e w' => e = .returned (.int .i64 d.st) ∧ w' = W0 := fun W0 hl => steps_at d.p d.b d.c d.x d.st W0 (hl.clk (ha d hdm))
              have hld : ∀ W0, Like W0 wr → Calls Try.prog 12 #[.pointer (some ⟨d.p, 0, none⟩)] W0 fun e w' => e = .returned (.tuple #[.int .u64 d.x, .int .i64 0]) ∧ w'.cell? ⟨gu, j * 2, none⟩ = some (.int .u64 d.x) ∧ Hid ((∀ e ∈ M.drop (j + 1), e.At w') ∧ Rws w w' f (.slice (some ⟨gv, 0, none⟩) M.length cv) (.slice (some ⟨gu, 0, none⟩) M.length cu) M M) := fun W0 hl => by
                refine (cload_at d.p d.b d.c d.x d.st W0 (hl.clk (ha d hdm))).mono ?_
                rintro e w' ⟨he, _, hk⟩
                have hk2 : Keeps d.own wr w' := hl.keeps'.trans hk
                have hR2 := hR.keeps hk2 (hx d (List.mem_of_getElem? hd))
                exact ⟨he, own_cell hR2.ou (by omega) (nums_at M j d hd).1, next_ones hp hd ha hk2, hR2⟩
              have z1 : (d.st != d.st) = false := by simp
              have z2 : (d.x != d.x) = false := by simp
              clear ha hR hd hdm
              go_wp2_with fail
              go_quiet ((go_at_call 11; exact (hq _ (by exact ⟨rfl, rfl, rfl, rfl⟩)).mono (fun _ _ ⟨h1, h2⟩ => ⟨h1, _, h2⟩)))
              go_wp2_with fail
              refine (hld _ (by exact ⟨rfl, rfl, rfl, rfl⟩)).mono ?_
              rintro e w8 ⟨rfl, cu8, hH⟩
              clear hld hq cv0 cu0 cu1
              go_wp2_with fail
              refine ⟨?_, ?measure3⟩
              (repeat apply Exists.intro)
              refine ⟨?rel3, ?eq3⟩
              case eq3 => rfl
              case rel3 => exact ⟨j + 1, by omega, by go_num, hH.out⟩
              case measure3 => simp [intOf]; omega
            · have hj' : ¬ (j : Int) < (M.length : Int) := by omega
              have hkk := hR.kp
              clear ha hR
              go_wp2_with fail
              refine (known_any _).mono ?_
              rintro e w9 ⟨rfl, k9⟩
              go_wp2_with fail
              go_ret
              exact ⟨rfl, hkk.trans k9⟩

end Go.Proofs.Ytlldffbohojppaa
