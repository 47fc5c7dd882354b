
/- The law SkipRound walked (layer 22). No statement of the seat is proved here. -/
import Derived.Test.YtjgibkofenkehaaSkV
import Derived.Test.YtjgibkofenkehaaSkS
import Derived.Test.YtjgibkofenkehaaSkK
import Derived.Test.YtjgibkofenkehaaSkOb
namespace Go.Proofs.Ytjgibkofenkehaa
open Go.RowKit

def R0 : Wd := ⟨List.replicate 60 0, [], 0, 0⟩
theorem WdAt.put1 {T : TypeId} {w : World} {b g c : Nat} {s : Wd} (h : WdAt T w b g c s) (i : Nat) {x : Int} (hx : isW x) (hi : i < s.W.length) : Hs T w b g c (w.setCell ⟨g, i, none⟩ (.int .u64 x)) { s with W := s.W.set i x } := ⟨(h.store i hx hi).1, (h.store i hx hi).2⟩
theorem len_r {b g c : Nat} {s : Wd} {at_ x1 e1 : Int} {s1 : Wd} (heq : Hid (s.len at_ = ((x1, e1), s1))) (hat : isW at_) (rms : Rm s 131100) {w : World} (h : WdAt 27 w b g c s) :
    Calls Try.prog 19 #[.iface 24 (.pointer (some ⟨b, 0, none⟩)), .int .u64 at_] w fun e w' => e = .returned (.tuple #[.int .i64 x1, .int .i64 e1]) ∧ Hs 27 w b g c w' s1 := by
  have q := len_any b g c s at_ hat rms w h
  rw [heq.out] at q
  exact q
theorem has_r {b g c : Nat} {s : Wd} {at_ x : Int} {b1 : Bool} {e1 : Int} {s1 : Wd} (heq : Hid (s.has at_ x = ((b1, e1), s1))) (hat : isW at_) (rms : Rm s 131090) {w : World} (h : WdAt 27 w b g c s) :
    Calls Try.prog 25 #[.iface 24 (.pointer (some ⟨b, 0, none⟩)), .int .u64 at_, .int .u64 x] w fun e w' => e = .returned (.tuple #[.bool b1, .int .i64 e1]) ∧ Hs 27 w b g c w' s1 := by
  have q := has_any b g c s at_ x hat rms w h
  rw [heq.out] at q
  exact q
set_option maxRecDepth 100000 in
set_option maxHeartbeats 4000000 in
theorem round_walk (w : World) : Calls Try.prog 7 #[] w fun e w' => e = .returned (.bool true) ∧ Keeps (fun _ => False) w w' := by
  have hmk : ∀ w : World, (Instr.makeSlice 22 (.int .i64 60) (.int .i64 60)).run Try.prog w = .ok (.slice (some ⟨w.heap.size, 0, none⟩) 60 60) (w.alloc (.cells (madeCells #[.int .u64 0] 60) 32)) := run_made 60 (by omega)
  have HWD : Hid (Hs 27 ((w.alloc (.cells (madeCells #[.int .u64 0] 60) 32)).alloc (.cells #[.slice (some ⟨w.heap.size, 0, none⟩) 60 60, .slice none 0 0, .int .i64 0, .int .i64 0] 27 (0, 0))) (w.heap.size + 1) w.heap.size 60 ((w.alloc (.cells (madeCells #[.int .u64 0] 60) 32)).alloc (.cells #[.slice (some ⟨w.heap.size, 0, none⟩) 60 60, .slice none 0 0, .int .i64 0, .int .i64 0] 27 (0, 0))) R0) := hid (Hs.start (wd_made _ w 60 (by omega) (by omega) 0 0))
  have HK0 : Hid (Keeps (fun _ => False) w ((w.alloc (.cells (madeCells #[.int .u64 0] 60) 32)).alloc (.cells #[.slice (some ⟨w.heap.size, 0, none⟩) 60 60, .slice none 0 0, .int .i64 0, .int .i64 0] 27 (0, 0)))) := hid ((keeps_new w _).alloc _)
  have HOW : Hid (∀ i, own ((w.alloc (.cells (madeCells #[.int .u64 0] 60) 32)).alloc (.cells #[.slice (some ⟨w.heap.size, 0, none⟩) 60 60, .slice none 0 0, .int .i64 0, .int .i64 0] 27 (0, 0))) (w.heap.size + 1) w.heap.size i → w.heap.size ≤ i) := by
    refine hid fun i hi => ?_
    rcases hi with e | e | ⟨x, v, y, z, t, fr, e1, e2⟩
    · omega
    · omega
    · have b1 := alloc_block (w.alloc (.cells (madeCells #[.int .u64 0] 60) 32)) (.cells #[.slice (some ⟨w.heap.size, 0, none⟩) 60 60, .slice none 0 0, .int .i64 0, .int .i64 0] 27 (0, 0))
      rw [show (w.alloc (.cells (madeCells #[.int .u64 0] 60) 32)).heap.size = w.heap.size + 1 by simp] at b1
      rw [b1] at e1
      simp at e1
      obtain ⟨⟨_, rfl, _⟩, _⟩ := e1
      simp [Value.ownBlock] at e2
  have w20 : isW 20 := lit_isW 20 (by omega)
  have w9 : isW 9 := lit_isW 9 (by omega)
  have w5 : isW 5 := lit_isW 5 (by omega)
  have w1 : isW 1 := lit_isW 1 (by omega)
  have w41 : isW 41 := lit_isW 41 (by omega)
  go_enter Try.func7, Try.ntmps7
  go_wp2_with fail
  generalize ((w.alloc (.cells (madeCells #[.int .u64 0] 60) 32)).alloc (.cells #[.slice (some ⟨w.heap.size, 0, none⟩) 60 60, .slice none 0 0, .int .i64 0, .int .i64 0] 27 (0, 0))) = X0 at HWD HK0 HOW ⊢
  clear hmk
  have c0 : X0.cell? ⟨w.heap.size + 1, 0, none⟩ = some (.slice (some ⟨w.heap.size, 0, none⟩) 60 60) := by
    have q := HWD.out.wd.cell0
    rw [adr_pos (by omega)] at q
    exact q
  refine wp_region_tail 16 (by kernel_rfl) (by kernel_rfl) ?_
  simp only [List.take_succ_cons, List.take_zero, List.drop_succ_cons, List.drop_zero]
  repeat (go_big_quiet_step (fail))
  refine wpQuiet_nil ?_
  intro _ hw'
  obtain ⟨nq, hw''⟩ := hw'
  subst hw''
  try simp only [World.drewN_drewN]
  have HD := hid (HWD.out.drewN nq)
  clear HWD c0
  generalize X0.drewN nq = X1 at HD ⊢
  have hst := fun i (hi : i < 60) => HD.out.wd.wcell i (by show i < (List.replicate 60 (0 : Int)).length; simpa using hi)
  have hfr := fun i => HD.out.wd.wfrozen i (by show 0 < (List.replicate 60 (0 : Int)).length; simp)
  have s20 := hst 20 (by omega)
  have s40 := hst 40 (by omega)
  have s41 := hst 41 (by omega)
  have s42 := hst 42 (by omega)
  clear hst
  have HS4 : Hid (∃ s : Wd, Rs 1 s ∧ s.L.length = 0 ∧ Hs 27 X0 (w.heap.size + 1) w.heap.size 60 ((((X1.setCell ⟨w.heap.size, 20, none⟩ (.int .u64 41)).setCell ⟨w.heap.size, 40, none⟩ (.int .u64 5)).setCell ⟨w.heap.size, 41, none⟩ (.int .u64 1)).setCell ⟨w.heap.size, 42, none⟩ (.int .u64 41)) s) := by
    have a1 := HD.out.trans (HD.out.wd.put1 20 w41 (by show 20 < (List.replicate 60 (0 : Int)).length; simp))
    have a2 := a1.trans (a1.wd.put1 40 w5 (by show 40 < ((List.replicate 60 (0 : Int)).set 20 41).length; simp))
    have a3 := a2.trans (a2.wd.put1 41 w1 (by show 41 < (((List.replicate 60 (0 : Int)).set 20 41).set 40 5).length; simp))
    have a4 := a3.trans (a3.wd.put1 42 w41 (by show 42 < ((((List.replicate 60 (0 : Int)).set 20 41).set 40 5).set 41 1).length; simp))
    exact hid ⟨_, ⟨rfl, rfl⟩, rfl, a4⟩
  go_wp2_with fail
  clear s20 s40 s41 s42 hfr HD
  generalize ((((X1.setCell ⟨w.heap.size, 20, none⟩ (.int .u64 41)).setCell ⟨w.heap.size, 40, none⟩ (.int .u64 5)).setCell ⟨w.heap.size, 41, none⟩ (.int .u64 1)).setCell ⟨w.heap.size, 42, none⟩ (.int .u64 41)) = X2 at HS4 ⊢
  obtain ⟨s0, r0, l0, h0⟩ := HS4.out
  clear HS4
  obtain ⟨s1, e1, r1, g1, l1⟩ := round_keys r0
  obtain ⟨s2, e2, r2, g2, l2⟩ := round_len r1
  obtain ⟨s3, e3, r3, g3, l3⟩ := round_has r2
  have E1 : Hid (_ = _) := e1
  have E2 : Hid (_ = _) := e2
  have E3 : Hid (_ = _) := e3
  have m0 : Rm s0 131100 := by unfold Rm; omega
  have m1 : Rm s1 131100 := by unfold Rm; omega
  have m2 : Rm s2 131090 := by unfold Rm; omega
  have m3 : Rm s3 131200 := by unfold Rm; omega
  have HL : Hid (s1.L.length = 131073) := hid (by omega)
  have HR3 := hid r3
  have H0 := hid h0
  clear e1 e2 e3 l0 l1 l2 l3 g1 g2 g3 r0 r1 r2 r3 h0
  refine (keys_r E1 w20 m0 H0.out.wd).mono ?_
  rintro e_ x1 ⟨v, rfl, q1, q2, q3⟩
  obtain ⟨av, cv, rfl⟩ := q1.form
  have H1 := hid (H0.out.trans q3)
  clear q1 q2 q3 H0 E1
  obtain ⟨al, cl, hcl⟩ := H1.out.wd.cell1
  obtain ⟨nl, hnl⟩ : ∃ n, s1.L.length = n := ⟨_, rfl⟩
  have hnl2 : (nl : Int) = 131073 := by have := HL.out; omega
  rw [hnl] at hcl
  clear hnl HL
  go_wp2_with fail
  refine (len_r E2 w20 m1 H1.out.wd).mono ?_
  rintro e_ x2 ⟨rfl, q3⟩
  have H2 := hid (H1.out.trans q3)
  clear q3 H1 E2 hcl
  go_wp2_with fail
  refine (has_r E3 w20 m2 H2.out.wd).mono ?_
  rintro e_ x3 ⟨rfl, q3⟩
  have H3 := hid (H2.out.trans q3)
  clear q3 H2 E3
  have hl60 : s3.W.length = 60 := by rw [HR3.out.w, rw_len]
  have c0 : x3.cell? ⟨w.heap.size + 1, 0, none⟩ = some (.slice (some ⟨w.heap.size, 0, none⟩) 60 60) := by
    have q := H3.out.wd.cell0
    rw [adr_pos (by omega), hl60] at q
    exact q
  have s41 := H3.out.wd.wcell 41 (by omega)
  have hfr := H3.out.wd.wfrozen 41 (by omega)
  have HS9 : Hid (∃ s : Wd, Rs 9 s ∧ Rm s 131200 ∧ Hs 27 X0 (w.heap.size + 1) w.heap.size 60 (x3.setCell ⟨w.heap.size, 41, none⟩ (.int .u64 9)) s) := by
    have a1 := H3.out.trans (H3.out.wd.put1 41 w9 (by omega))
    refine hid ⟨{ s3 with W := s3.W.set 41 9 }, ⟨?_, HR3.out.c⟩, m3, a1⟩
    show s3.W.set 41 9 = RW 9
    rw [HR3.out.w]
    rfl
  clear hl60 m3
  go_wp2_with fail
  clear s41 hfr c0 H3 HR3
  generalize x3.setCell ⟨w.heap.size, 41, none⟩ (.int .u64 9) = x4 at HS9 ⊢
  obtain ⟨s4, r4, m4, h4⟩ := HS9.out
  clear HS9
  obtain ⟨s5, e5⟩ := round_rem r4
  have E5 : Hid (_ = _) := e5
  have H4 := hid h4
  clear r4 h4 e5
  refine (rem_r E5 w20 m4 H4.out.wd).mono ?_
  rintro e_ x5 ⟨rfl, q3⟩
  have H5 := hid (H4.out.trans q3)
  clear q3 H4 E5
  go_wp2_with fail
  refine (num_any _ _).mono ?_
  rintro e_ w_ ⟨rfl, hw_⟩
  subst w_
  go_wp2_with fail
  refine (num_any _ _).mono ?_
  rintro e_ w_ ⟨rfl, hw_⟩
  subst w_
  go_wp2_with fail
  refine (num_any _ _).mono ?_
  rintro e_ w_ ⟨rfl, hw_⟩
  subst w_
  go_wp2_with fail
  refine (num_any _ _).mono ?_
  rintro e_ w_ ⟨rfl, hw_⟩
  subst w_
  go_wp2_with fail
  refine (known_any _).mono ?_
  rintro e_ x6 ⟨rfl, k6⟩
  have HZ : Hid (Keeps (fun _ => False) w x6) := hid ((Hs.kept HK0.out H5.out HOW.out).trans k6)
  clear k6 H5
  go_wp2_with fail
  go_ret
  exact ⟨rfl, HZ.out⟩
end Go.Proofs.Ytjgibkofenkehaa
