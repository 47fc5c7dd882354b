
/- The law SkipPlays, walked (layer 22). No statement of the seat is proved here. -/
import Derived.Test.YtjgibkofenkehaaSlIM
namespace Go.Proofs.Ytjgibkofenkehaa
open Go.RowKit

set_option maxRecDepth 100000 in
set_option maxHeartbeats 4000000 in
theorem plays_walk (vw : Value) (xs : List Int) (hxs : ∀ x ∈ xs, isW x) (a : Option Addr) (n c : Nat) (gd er : Int) (w : World) (hv : Lies w vw xs) (hb : xs.length * 8 ≤ 140737488351232) (ho : StepsAt w a n) (hn : n * 48 ≤ 140737488351232) :
    Calls Try.prog 3 #[vw, .slice a n c, .int .i64 gd, .int .i64 er] w fun e w' => e = .returned (.bool true) ∧ Keeps (fun _ => False) w w' := by
  obtain ⟨ad1, g1, c1, w1, r1, k1, t1, o1⟩ := wd_app 27 w vw xs hxs hv hb gd er
  have kA : Keeps (fun _ => False) w (w1.alloc (.cells #[.slice ad1 xs.length c1, .slice none 0 0, .int .i64 gd, .int .i64 er] 27 (0, 0))) := k1.alloc _
  obtain ⟨ad2, g2, c2, w2, r2, k2, t2, o2⟩ := wd_app 30 (w1.alloc (.cells #[.slice ad1 xs.length c1, .slice none 0 0, .int .i64 gd, .int .i64 er] 27 (0, 0))) vw xs hxs (hv.keeps kA (fun _ _ _ _ f => f)) hb gd er
  have kB : Keeps (fun _ => False) (w1.alloc (.cells #[.slice ad1 xs.length c1, .slice none 0 0, .int .i64 gd, .int .i64 er] 27 (0, 0))) (w2.alloc (.cells #[.slice ad2 xs.length c2, .slice none 0 0, .int .i64 gd, .int .i64 er] 30 (0, 0))) := k2.alloc _
  have ho1 := own_kept (g := g1) t1.ltb kB (fun _ _ f => f)
  have hsz := kA.size
  have HK : Hid (∀ X s1 s2, Du (w2.alloc (.cells #[.slice ad2 xs.length c2, .slice none 0 0, .int .i64 gd, .int .i64 er] 30 (0, 0))) w1.heap.size g1 c1 w2.heap.size g2 c2 X s1 s2 → Keeps (fun _ => False) w X) := hid (fun X s1 s2 d => (kA.trans kB).step d.k (fun i hi e => by
    rcases e with e | e
    · have := o1 i ((ho1 i).1 e); omega
    · have := o2 i e; omega))
  have HD : Hid (Du (w2.alloc (.cells #[.slice ad2 xs.length c2, .slice none 0 0, .int .i64 gd, .int .i64 er] 30 (0, 0))) w1.heap.size g1 c1 w2.heap.size g2 c2 (w2.alloc (.cells #[.slice ad2 xs.length c2, .slice none 0 0, .int .i64 gd, .int .i64 er] 30 (0, 0))) ⟨xs, [], gd, er⟩ ⟨xs, [], gd, er⟩) :=
    hid (Du.start (t1.kept kB (fun _ _ f => f)) t2 (fun i e1 e2 => by
      have q1 := t1.lto ((ho1 i).1 e1)
      have q2 := o2 i e2
      omega))
  have HR1 := hid r1
  have HR2 := hid r2
  have HO := hid ho
  obtain ⟨W0, hW0⟩ : ∃ W0, W0 = w2.alloc (.cells #[.slice ad2 xs.length c2, .slice none 0 0, .int .i64 gd, .int .i64 er] 30 (0, 0)) := ⟨_, rfl⟩
  rw [← hW0] at HK HD
  have HW0 := hid hW0
  obtain ⟨av, cv, rfl, _⟩ := hv
  clear kA kB ho1 hsz t1 t2 o1 o2 r1 r2 k1 k2 ho hW0 hb hxs
  go_enter Try.func3, Try.ntmps3
  go_wp2_with (at_builtin; first | (refine wpList_append_run rfl _ _ 22 rfl rfl rfl HR1.out ?_; clear HR1) | (refine wpList_append_run rfl _ _ 22 rfl rfl rfl HR2.out ?_; clear HR2))
  go_loopw [11] (fun i wr => ∃ k : Nat, k ≤ n ∧ k ≤ 200 ∧ i = .int .i64 k ∧ Hid (∃ s, s.L = [] ∧ Du W0 w1.heap.size g1 c1 w2.heap.size g2 c2 wr s s)) (fun i _ => 200 - (intOf i).toNat)
  case atStart => exact ⟨0, by omega, by omega, rfl, hid ⟨⟨xs, [], gd, er⟩, rfl, by have q := HD.out; rw [HW0.out] at q ⊢; exact q⟩⟩
  case round =>
    obtain ⟨k, hk, hk2, rfl, hr⟩ := hrel
    clear HD HW0
    by_cases hlt : k < n
    · have hlt' : (k : Int) < (n : Int) := by omega
      by_cases h200 : k < 200
      · have h200' : (k : Int) < 200 := by omega
        obtain ⟨s, hsL, hD⟩ := hr.out
        obtain ⟨gs, off, rfl, ⟨kd, lv, ro, at_, x, y⟩, hs, hc⟩ := (HO.out.keeps (HK.out _ _ _ hD)) k hlt
        have d0 := hc 0 _ rfl
        have d1 := hc 1 _ rfl
        have d2 := hc 2 _ rfl
        have d3 := hc 3 _ rfl
        have d4 := hc 4 _ rfl
        have d5 := hc 5 _ rfl
        dsimp only at d0 d1 d2 d3 d4 d5
        rw [Nat.add_zero] at d0
        have HP := hid (plays_any kd lv ro at_ x y hs w1.heap.size g1 c1 w2.heap.size g2 c2 s (by unfold Rm; rw [hsL]; show 0 + 131300 ≤ 1000000; omega) wr (Du.start hD.t hD.r hD.dj))
        have HDr := hid hD
        clear hc hs hsL hD hr HO
        go_wp2_with fail
        refine HP.out.mono ?_
        rintro e_ w3 ⟨rfl, s', h3⟩
        have HD3 : Hid (Du W0 w1.heap.size g1 c1 w2.heap.size g2 c2 w3 s' s') := hid (Du.trans HDr.out h3)
        clear HP HDr h3 d0 d1 d2 d3 d4 d5
        go_wp2_with fail
        refine (again_any w1.heap.size g1 c1 w2.heap.size g2 c2 s' s' w3 (Du.start HD3.out.t HD3.out.r HD3.out.dj)).mono ?_
        rintro e_ w4 ⟨rfl, h4⟩
        have HD4 : Hid (Du W0 w1.heap.size g1 c1 w2.heap.size g2 c2 w4 s'.mute s'.mute) := hid (Du.trans HD3.out h4)
        clear HD3 h4
        go_wp2_with fail
        go_roundw
        case rel => exact ⟨k + 1, by omega, by omega, by go_num, hid ⟨s'.mute, rfl, HD4.out⟩⟩
        case measure => simp [intOf]; omega
      · have h200' : ¬ (k : Int) < 200 := by omega
        have HF : Hid (Keeps (fun _ => False) w wr) := by obtain ⟨s, _, hD⟩ := hr.out; exact hid (HK.out _ _ _ hD)
        clear hr HO HK
        go_wp2_with fail
        refine (known_any _).mono ?_
        rintro e_ w5 ⟨rfl, k5⟩
        have HF5 := hid (HF.out.trans k5)
        clear HF k5
        go_wp2_with fail
        go_ret
        exact ⟨rfl, HF5.out⟩
    · have hlt' : ¬ (k : Int) < (n : Int) := by omega
      have HF : Hid (Keeps (fun _ => False) w wr) := by obtain ⟨s, _, hD⟩ := hr.out; exact hid (HK.out _ _ _ hD)
      clear hr HO HK
      go_wp2_with fail
      refine (known_any _).mono ?_
      rintro e_ w5 ⟨rfl, k5⟩
      have HF5 := hid (HF.out.trans k5)
      clear HF k5
      go_wp2_with fail
      go_ret
      exact ⟨rfl, HF5.out⟩
end Go.Proofs.Ytjgibkofenkehaa
