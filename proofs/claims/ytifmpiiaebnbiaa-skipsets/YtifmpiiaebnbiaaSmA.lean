
/- The law SkipSets, walked (layer 22). No statement of the seat is proved here. -/
import Derived.Test.YtifmpiiaebnbiaaSlIM
namespace Go.Proofs.Ytifmpiiaebnbiaa
open Go.RowKit

def bx1 (w : World) : World := (w.alloc (.cells (madeCells #[.int .u64 0] 600) 32)).alloc (.cells #[.slice (some ⟨w.heap.size, 0, none⟩) 600 600, .slice none 0 0, .int .i64 0, .int .i64 0] 27 (0, 0))
def bx2 (w : World) : World := (w.alloc (.cells (madeCells #[.int .u64 0] 600) 32)).alloc (.cells #[.slice (some ⟨w.heap.size, 0, none⟩) 600 600, .slice none 0 0, .int .i64 0, .int .i64 0] 30 (0, 0))
theorem box_own (w : World) (T : TypeId) : ∀ i, own ((w.alloc (.cells (madeCells #[.int .u64 0] 600) 32)).alloc (.cells #[.slice (some ⟨w.heap.size, 0, none⟩) 600 600, .slice none 0 0, .int .i64 0, .int .i64 0] T (0, 0))) (w.heap.size + 1) w.heap.size i → w.heap.size ≤ i := by
  intro i hi
  rcases hi with e | e | ⟨x, v, y, z, t, fr, e1, e2⟩
  · omega
  · omega
  · have b1 := alloc_block (w.alloc (.cells (madeCells #[.int .u64 0] 600) 32)) (.cells #[.slice (some ⟨w.heap.size, 0, none⟩) 600 600, .slice none 0 0, .int .i64 0, .int .i64 0] T (0, 0))
    rw [show (w.alloc (.cells (madeCells #[.int .u64 0] 600) 32)).heap.size = w.heap.size + 1 by simp] at b1
    rw [b1] at e1
    simp at e1
    obtain ⟨⟨_, rfl, _⟩, _⟩ := e1
    simp [Value.ownBlock] at e2
def M0 : Wd := ⟨List.replicate 600 0, [], 0, 0⟩
def M1 : Wd := pl ⟨10, 0, 0, 0, 40, 600⟩ M0
def M2 : Wd := pl ⟨1, 0, 0, 20, 0, 0⟩ M1
theorem rmM0 : Rm M0 131300 := of_decide_eq_true (p := M0.L.length + 131300 ≤ 1000000) (by kernel_rfl)
theorem rmM1 : Rm M1 131300 := of_decide_eq_true (p := M1.L.length + 131300 ≤ 1000000) (by kernel_rfl)
theorem lnM2 : M2.L.length ≤ 100 := of_decide_eq_true (p := M2.L.length ≤ 100) (by kernel_rfl)
theorem sets_start (w : World) : Du (bx2 (bx1 w)) (w.heap.size + 1) w.heap.size 600 (w.heap.size + 1 + 1 + 1) (w.heap.size + 1 + 1) 600 (bx2 (bx1 w)) M0 M0 ∧ ∀ X s1 s2, Du (bx2 (bx1 w)) (w.heap.size + 1) w.heap.size 600 (w.heap.size + 1 + 1 + 1) (w.heap.size + 1 + 1) 600 X s1 s2 → Keeps (fun _ => False) w X := by
  have e1 : (bx1 w).heap.size = w.heap.size + 2 := by unfold bx1; simp
  have t1 : WdAt 27 (bx1 w) (w.heap.size + 1) w.heap.size 600 M0 := wd_made _ w 600 (by omega) (by omega) 0 0
  have t2 : WdAt 30 (bx2 (bx1 w)) ((bx1 w).heap.size + 1) (bx1 w).heap.size 600 M0 := wd_made _ (bx1 w) 600 (by omega) (by omega) 0 0
  have o1 : ∀ i, own (bx1 w) (w.heap.size + 1) w.heap.size i → w.heap.size ≤ i := box_own w _
  have o2 : ∀ i, own (bx2 (bx1 w)) ((bx1 w).heap.size + 1) (bx1 w).heap.size i → (bx1 w).heap.size ≤ i := box_own (bx1 w) _
  have kA : Keeps (fun _ => False) w (bx1 w) := (keeps_new w _).alloc _
  have kB : Keeps (fun _ => False) (bx1 w) (bx2 (bx1 w)) := (keeps_new (bx1 w) _).alloc _
  have ho1 := own_kept (g := w.heap.size) t1.ltb kB (fun _ _ f => f)
  rw [e1] at t2 o2
  refine ⟨Du.start (t1.kept kB (fun _ _ f => f)) t2 (fun i q1 q2 => ?_), fun X s1 s2 d => (kA.trans kB).step d.k (fun i hi e => ?_)⟩
  · have p1 := t1.lto ((ho1 i).1 q1)
    have p2 := o2 i q2
    omega
  · rcases e with e | e
    · have := o1 i ((ho1 i).1 e); omega
    · have := o2 i e; omega

set_option maxRecDepth 100000 in
set_option maxHeartbeats 4000000 in
theorem sets_walk (a : Option Addr) (n c : Nat) (w : World) (ho : StepsAt w a n) :
    Calls Try.prog 3 #[.slice a n c] w fun e w' => e = .returned (.bool true) ∧ Keeps (fun _ => False) w w' := by
  have hmk : ∀ w : World, (Instr.makeSlice 24 (.int .i64 600) (.int .i64 600)).run Try.prog w = .ok (.slice (some ⟨w.heap.size, 0, none⟩) 600 600) (w.alloc (.cells (madeCells #[.int .u64 0] 600) 32)) := run_made 600 (by omega)
  have HD := hid (sets_start w).1
  have HK := hid (sets_start w).2
  have HO := hid ho
  have ok10 : St.Ok ⟨10, 0, 0, 0, 40, 600⟩ := ⟨zero_isW, zero_isW, lit_isW 40 (by omega), lit_isW 600 (by omega), by decide, by decide⟩
  have ok1 : St.Ok ⟨1, 0, 0, 20, 0, 0⟩ := ⟨zero_isW, lit_isW 20 (by omega), zero_isW, zero_isW, by decide, by decide⟩
  have ok8 : St.Ok ⟨8, 0, 0, 20, 0, 0⟩ := ok1
  have ok9 : St.Ok ⟨9, 0, 0, 20, 0, 0⟩ := ok1
  obtain ⟨W0, hW0⟩ : ∃ W0, W0 = bx2 (bx1 w) := ⟨_, rfl⟩
  rw [← hW0] at HD HK
  have HW0 : Hid ((((w.alloc (.cells (madeCells #[.int .u64 0] 600) 32)).alloc (.cells #[.slice (some ⟨w.heap.size, 0, none⟩) 600 600, .slice none 0 0, .int .i64 0, .int .i64 0] 27 (0, 0))).alloc (.cells (madeCells #[.int .u64 0] 600) 32)).alloc (.cells #[.slice (some ⟨w.heap.size + 1 + 1, 0, none⟩) 600 600, .slice none 0 0, .int .i64 0, .int .i64 0] 30 (0, 0)) = W0) := by
    rw [hW0]
    unfold bx2
    have e1 : (bx1 w).heap.size = w.heap.size + 1 + 1 := by unfold bx1; simp
    rw [e1]
    rfl
  clear ho hW0
  go_enter Try.func3, Try.ntmps3
  go_wp2_with fail
  rw [HW0.out]
  clear HW0 hmk
  refine (plays_10 0 0 0 40 600 ok10 _ _ _ _ _ _ M0 rmM0 W0 HD.out).mono ?_
  rintro e_ w1 ⟨rfl, d1⟩
  replace HD := hid (Du.trans HD.out d1)
  clear d1
  go_wp2_with fail
  refine (plays_1 0 0 20 0 0 ok1 _ _ _ _ _ _ M1 rmM1 w1 (Du.start HD.out.t HD.out.r HD.out.dj)).mono ?_
  rintro e_ w2 ⟨rfl, d1⟩
  replace HD := hid (Du.trans HD.out d1)
  clear d1
  go_wp2_with fail
  go_loopw [5] (fun i wr => ∃ k : Nat, k ≤ n ∧ k ≤ 300 ∧ i = .int .i64 k ∧ Hid (∃ s, s.L.length ≤ 100 ∧ Du W0 (w.heap.size + 1) w.heap.size 600 (w.heap.size + 1 + 1 + 1) (w.heap.size + 1 + 1) 600 wr s s)) (fun i _ => 300 - (intOf i).toNat)
  case atStart => exact ⟨0, by omega, by omega, rfl, hid ⟨M2, lnM2, HD.out⟩⟩
  case round =>
    obtain ⟨k, hk, hk2, rfl, hr⟩ := hrel
    clear HD
    obtain ⟨s, hsL, hD⟩ := hr.out
    have HDr := hid hD
    have HSL := hid hsL
    clear hr
    by_cases hlt : k < n
    · have hlt' : (k : Int) < (n : Int) := by omega
      by_cases h300 : k < 300
      · have h300' : (k : Int) < 300 := by omega
        obtain ⟨gs, off, rfl, ⟨kd, lv, ro, at_, x, y⟩, hs, hc⟩ := (HO.out.keeps (HK.out _ _ _ hD)) k hlt
        have d0 := hc 0 _ rfl
        have d1 := hc 1 _ rfl
        have d2 := hc 2 _ rfl
        have d3 := hc 3 _ rfl
        have d4 := hc 4 _ rfl
        have d5 := hc 5 _ rfl
        dsimp only at d0 d1 d2 d3 d4 d5
        rw [Nat.add_zero] at d0
        have hok' : St.Ok ⟨kd, lv, 0, 20, x, y⟩ := ⟨zero_isW, lit_isW 20 (by omega), hs.2.2.1, hs.2.2.2.1, hs.2.2.2.2.1, hs.2.2.2.2.2⟩
        have HDn := hid (hD.new ((Keeps.refl (fun _ => False) wr).alloc (stO ⟨kd, lv, 0, 20, x, y⟩)))
        have HP := hid (plays_any kd lv 0 20 x y hok' (w.heap.size + 1) w.heap.size 600 (w.heap.size + 1 + 1 + 1) (w.heap.size + 1 + 1) 600 s (by unfold Rm; omega) (wr.alloc (stO ⟨kd, lv, 0, 20, x, y⟩)) (Du.start HDn.out.t HDn.out.r HDn.out.dj))
        clear hc hs hsL hD HO HDr HSL hok'
        unfold stO at HP HDn
        by_cases h1 : kd = 1
        · subst h1
          clear HP
          go_wp2_with fail
          refine (again_any _ _ _ _ _ _ s s _ (Du.start HDn.out.t HDn.out.r HDn.out.dj)).mono ?_
          rintro e_ w4 ⟨rfl, h4⟩
          have HD4 := hid (Du.trans HDn.out h4)
          clear HDn h4
          go_wp2_with fail
          go_roundw
          case rel => exact ⟨k + 1, by omega, by omega, by go_num, hid ⟨s.mute, Nat.zero_le _, HD4.out⟩⟩
          case measure => simp [intOf]; omega
        by_cases h2 : kd = 2
        · subst h2
          clear HP
          go_wp2_with fail
          refine (again_any _ _ _ _ _ _ s s _ (Du.start HDn.out.t HDn.out.r HDn.out.dj)).mono ?_
          rintro e_ w4 ⟨rfl, h4⟩
          have HD4 := hid (Du.trans HDn.out h4)
          clear HDn h4
          go_wp2_with fail
          go_roundw
          case rel => exact ⟨k + 1, by omega, by omega, by go_num, hid ⟨s.mute, Nat.zero_le _, HD4.out⟩⟩
          case measure => simp [intOf]; omega
        by_cases h10 : kd = 10
        · subst h10
          clear HP
          go_wp2_with fail
          refine (again_any _ _ _ _ _ _ s s _ (Du.start HDn.out.t HDn.out.r HDn.out.dj)).mono ?_
          rintro e_ w4 ⟨rfl, h4⟩
          have HD4 := hid (Du.trans HDn.out h4)
          clear HDn h4
          go_wp2_with fail
          go_roundw
          case rel => exact ⟨k + 1, by omega, by omega, by go_num, hid ⟨s.mute, Nat.zero_le _, HD4.out⟩⟩
          case measure => simp [intOf]; omega
        go_wp2_with fail
        refine HP.out.mono ?_
        rintro e_ w3 ⟨rfl, s', h3⟩
        replace HDn := hid (Du.trans HDn.out h3)
        clear HP h3 d0 d1 d2 d3 d4 d5
        go_wp2_with fail
        refine (again_any _ _ _ _ _ _ s' s' _ (Du.start HDn.out.t HDn.out.r HDn.out.dj)).mono ?_
        rintro e_ w4 ⟨rfl, h4⟩
        have HD4 := hid (Du.trans HDn.out h4)
        clear HDn h4
        go_wp2_with fail
        go_roundw
        case rel => exact ⟨k + 1, by omega, by omega, by go_num, hid ⟨s'.mute, Nat.zero_le _, HD4.out⟩⟩
        case measure => simp [intOf]; omega
      · have h300' : ¬ (k : Int) < 300 := by omega
        have HP := hid (plays_8 0 0 20 0 0 ok8 (w.heap.size + 1) w.heap.size 600 (w.heap.size + 1 + 1 + 1) (w.heap.size + 1 + 1) 600 s (by unfold Rm; have := HSL.out; omega) wr (Du.start HDr.out.t HDr.out.r HDr.out.dj))
        have hln : (pl ⟨8, 0, 0, 20, 0, 0⟩ s).L.length ≤ 200000 := by rw [pl8]; have p := keys_len HDr.out.t.ok (at_ := 20) (lit_isW 20 (by omega)); have := HSL.out; omega
        have HLN := hid hln
        clear hln hD hsL HSL HO
        go_wp2_with fail
        refine HP.out.mono ?_
        rintro e_ w3 ⟨rfl, h3⟩
        have HD3 := hid (Du.trans HDr.out h3)
        clear HP h3 HDr
        go_wp2_with fail
        refine (plays_9 0 0 20 0 0 ok9 _ _ _ _ _ _ _ (by unfold Rm; have := HLN.out; omega) w3 (Du.start HD3.out.t HD3.out.r HD3.out.dj)).mono ?_
        rintro e_ w4 ⟨rfl, h4⟩
        have HF := hid (HK.out _ _ _ (Du.trans HD3.out h4))
        clear HD3 h4 HK HLN
        go_wp2_with fail
        refine (known_any _).mono ?_
        rintro e_ w5 ⟨rfl, k5⟩
        have HF5 := hid (HF.out.trans k5)
        clear HF k5
        go_wp2_with fail
        go_ret
        exact ⟨rfl, HF5.out⟩
    · have hlt' : ¬ (k : Int) < (n : Int) := by omega
      have HP := hid (plays_8 0 0 20 0 0 ok8 (w.heap.size + 1) w.heap.size 600 (w.heap.size + 1 + 1 + 1) (w.heap.size + 1 + 1) 600 s (by unfold Rm; have := HSL.out; omega) wr (Du.start HDr.out.t HDr.out.r HDr.out.dj))
      have hln : (pl ⟨8, 0, 0, 20, 0, 0⟩ s).L.length ≤ 200000 := by rw [pl8]; have p := keys_len HDr.out.t.ok (at_ := 20) (lit_isW 20 (by omega)); have := HSL.out; omega
      have HLN := hid hln
      clear hln hD hsL HSL HO
      go_wp2_with fail
      refine HP.out.mono ?_
      rintro e_ w3 ⟨rfl, h3⟩
      have HD3 := hid (Du.trans HDr.out h3)
      clear HP h3 HDr
      go_wp2_with fail
      refine (plays_9 0 0 20 0 0 ok9 _ _ _ _ _ _ _ (by unfold Rm; have := HLN.out; omega) w3 (Du.start HD3.out.t HD3.out.r HD3.out.dj)).mono ?_
      rintro e_ w4 ⟨rfl, h4⟩
      have HF := hid (HK.out _ _ _ (Du.trans HD3.out h4))
      clear HD3 h4 HK HLN
      go_wp2_with fail
      refine (known_any _).mono ?_
      rintro e_ w5 ⟨rfl, k5⟩
      have HF5 := hid (HF.out.trans k5)
      clear HF k5
      go_wp2_with fail
      go_ret
      exact ⟨rfl, HF5.out⟩
end Go.Proofs.Ytifmpiiaebnbiaa
