
/- The walk of RoomPlays (layer 20). No statement of the seat is proved here. -/
import Derived.Test.YthelfalmjihkdaaRmO
import Derived.Test.YthelfalmjihkdaaASeg
namespace Go.Proofs.Ythelfalmjihkdaa
open Go.RowKit

set_option maxRecDepth 100000 in
set_option maxHeartbeats 8000000 in
theorem plays_walk (vw : Value) (xs : List Int) (hxs : ∀ x ∈ xs, isW x) (a : Option Addr) (n c : Nat) (w : World) (hv : Lies w vw xs) (hb : xs.length * 8 ≤ 140737488351232) (ho : OpsAt w a n) (hn : n * 32 ≤ 140737488351232) :
    Calls Try.prog 3 #[vw, .slice a n c] w fun e w' => e = .returned (.bool true) ∧ Keeps (fun _ => False) w w' := by
  obtain ⟨g, cg, A1, r1, o1, k1⟩ := app_copy w vw xs hv hb
  have e1 : ∀ (x : World) (o : Obj), (x.alloc o).heap.size = x.heap.size + 1 := fun x o => by simp
  have hok : Wd.Ok ⟨xs, -1, 0, 0⟩ := ⟨hxs, by show xs.length ≤ _; omega⟩
  have hA1 := wd_made (w := A1) (b := A1.heap.size) (g := g) (c := cg) (s := ⟨xs, -1, 0, 0⟩) rfl (copy_row o1).1 hok
  have hA2 := tw_made (t := A1.heap.size + 1) (by rw [e1]) hA1
  have kA : Keeps (fun _ => False) w ((A1.alloc (.cells #[.slice (some ⟨g, 0, none⟩) xs.length cg, .int .i64 (-1), .int .i64 0, .int .i64 0] 27)).alloc (.cells #[.pointer (some ⟨A1.heap.size, 0, none⟩)] 29)) := (k1.alloc _).alloc _
  obtain ⟨g', cg', B1, r2, o2, k2⟩ := app_copy _ vw xs (hv.keeps kA (fun _ _ _ _ f => f)) hb
  have hB1 := wd_made (w := B1) (b := B1.heap.size) (g := g') (c := cg') (s := ⟨xs, -1, 0, 0⟩) rfl (copy_row o2).1 hok
  have hlt := hA1.ltg
  have hg0 := lt_of_block (copy_row o1).1.choose_spec.1
  have hg2 := (copy_row o2).2
  have hg3 := lt_of_block (copy_row o2).1.choose_spec.1
  have hsz := k2.size
  simp only [e1] at hg2 hsz
  rw [e1, e1] at r2
  have kF2 : Keeps (fun _ => False) ((A1.alloc (.cells #[.slice (some ⟨g, 0, none⟩) xs.length cg, .int .i64 (-1), .int .i64 0, .int .i64 0] 27)).alloc (.cells #[.pointer (some ⟨A1.heap.size, 0, none⟩)] 29)) (B1.alloc (.cells #[.slice (some ⟨g', 0, none⟩) xs.length cg', .int .i64 (-1), .int .i64 0, .int .i64 0] 27)) := k2.alloc _
  have HB : Hid (Bo (B1.alloc (.cells #[.slice (some ⟨g', 0, none⟩) xs.length cg', .int .i64 (-1), .int .i64 0, .int .i64 0] 27)) (A1.heap.size + 1) A1.heap.size g cg B1.heap.size g' cg' ⟨xs, -1, 0, 0⟩ ⟨xs, -1, 0, 0⟩) :=
    ⟨⟨hA2.tx.kept kF2 (fun f => f), hA2.wd.kept kF2 (fun f => f) (fun f => f), hA2.ne⟩, hB1, by omega, by omega, by omega, by omega, by omega, by omega⟩
  have HK : Hid (Keeps (fun _ => False) w (B1.alloc (.cells #[.slice (some ⟨g', 0, none⟩) xs.length cg', .int .i64 (-1), .int .i64 0, .int .i64 0] 27))) := kA.trans kF2
  have HR1 := hid r1
  have HR2 := hid r2
  have HO := hid ho
  have hA1w := k1.size
  have hgw := (copy_row o1).2
  have HP : Hid (w.heap.size ≤ A1.heap.size ∧ w.heap.size ≤ g ∧ w.heap.size ≤ B1.heap.size ∧ w.heap.size ≤ g') := ⟨hA1w, hgw, by omega, by omega⟩
  have HX := hid hb
  obtain ⟨av, cv, rfl, _⟩ := hv
  clear hok hA1 hA2 kA kF2 hB1 hlt hg0 hg2 hg3 hsz r1 r2 o1 o2 k1 k2 ho hA1w hgw e1 hb hxs
  go_enter Try.func3, Try.ntmps3
  go_wp2_with (at_builtin; first | (refine wpList_append_run rfl _ _ 22 rfl rfl rfl HR1.out ?_; clear HR1) | (refine wpList_append_run rfl _ _ 22 rfl rfl rfl HR2.out ?_; clear HR2))
  go_loopw [7] (fun i wr => ∃ k : Nat, k ≤ n ∧ i = .int .i64 k ∧ Hid (∃ s, Bo wr (A1.heap.size + 1) A1.heap.size g cg B1.heap.size g' cg' s s ∧ Keeps (fun _ => False) w wr)) (fun i _ => n - (intOf i).toNat)
  case atStart => exact ⟨0, by omega, rfl, hid ⟨_, HB.out, HK.out⟩⟩
  case round =>
    obtain ⟨k, hk, rfl, hr⟩ := hrel
    clear HB HK
    by_cases hlt : k < n
    · obtain ⟨s, hB, hK⟩ := hr.out
      obtain ⟨gs, off, rfl, kd, x, y, z, qx, qy, qz, c0, c1, c2, c3⟩ := (HO.out.keeps hK) k hlt
      have hkn : (k : Int) < (n : Int) := by omega
      have HS : Hid (∀ q, Calls Try.prog 5 #[.pointer (some ⟨A1.heap.size + 1, 0, none⟩), .pointer (some ⟨B1.heap.size, 0, none⟩), .agg #[.int .i64 kd, .int .u64 x, .int .u64 y, .int .u64 z]] (wr.drewN q) fun e w' => e = .returned (.bool true) ∧ ∃ s2, Bo w' (A1.heap.size + 1) A1.heap.size g cg B1.heap.size g' cg' s2 s2 ∧ Keeps (fun _ => False) w w') := fun q =>
        (step_any _ _ _ _ _ _ _ s kd x y z qx qy qz (wr.drewN q) (hB.new ((Keeps.refl _ _).drewN q))).mono fun e w' h => ⟨h.1, h.2.choose, h.2.choose_spec.1, (hK.drewN q).step h.2.choose_spec.2 (fun i hi e => by
          have p := HP.out
          rcases e with e | e <;> rcases e with rfl | rfl <;> omega)⟩
      clear hB hK hr HO qx qy qz
      go_wp2_with fail
      refine wp_region_segs [(true, 6), (false, 3), (true, 28)] (by kernel_rfl) (by kernel_rfl) ?_
      intro q0
      simp only [wpSeg, List.take_succ_cons, List.take_zero, List.drop_succ_cons, List.drop_zero]
      repeat (go_big_quiet_step (fail))
      refine wpQuiet_nil ?_
      intro _ hw'
      obtain ⟨q1, hw''⟩ := hw'
      subst hw''
      try simp only [World.drewN_drewN]
      intro K hK'
      go_wp2_with fail
      refine (HS.out _).mono ?_
      rintro e_ w2 ⟨rfl, s2, B2, kk2⟩
      have f0 := B2.tw.tx.cell
      have f1 := B2.tw.wd.cell0
      have f2 := B2.tw.wd.cell3
      have f3 := B2.rw.cell0
      have f4 := B2.rw.cell3
      have HW : Hid (∀ q, Calls Try.prog 6 #[.slice (some ⟨g, 0, none⟩) s2.W.length cg, .slice (some ⟨g', 0, none⟩) s2.W.length cg'] (w2.drewN q) fun e w' => e = .returned (.bool true) ∧ ∃ m, w' = w2.drewN m) := fun q =>
        (words_same _ _ s2.W B2.tw.wd.ok.2 (w2.drewN q) ⟨_, _, rfl, fun i hi => ⟨g, 0, rfl, by rw [Nat.zero_add]; exact (B2.tw.wd.drewN q).wcell i hi⟩⟩ ⟨_, _, rfl, fun i hi => ⟨g', 0, rfl, by rw [Nat.zero_add]; exact (B2.rw.drewN q).wcell i hi⟩⟩).mono fun e w' h => ⟨h.1, by obtain ⟨m, hm⟩ := h.2; exact ⟨q + m, by rw [hm, World.drewN_drewN]⟩⟩
      have HF : Hid (∀ q, Bo (w2.drewN q) (A1.heap.size + 1) A1.heap.size g cg B1.heap.size g' cg' s2 s2 ∧ Keeps (fun _ => False) w (w2.drewN q)) := fun q => ⟨B2.new ((Keeps.refl _ _).drewN q), kk2.drewN q⟩
      clear B2 kk2 HS c0 c1 c2 c3
      go_wp2_with fail
      repeat (go_big_quiet_step ((go_at_call 6; exact HW.out _)))
      refine wpQuiet_nil ?_
      intro _ hw'
      obtain ⟨q2, hw''⟩ := hw'
      subst hw''
      try simp only [World.drewN_drewN]
      clear HW
      go_wp2_with fail
      go_roundw
      case rel => exact ⟨k + 1, by omega, by go_num, hid ⟨s2, HF.out _⟩⟩
      case measure => simp [intOf]; omega
    · obtain rfl : k = n := by omega
      have HD : Hid (Keeps (fun _ => False) w wr) := hr.out.choose_spec.2
      clear hlt hr HO
      go_wp2_with fail
      refine (nothing_any wr).mono ?_
      rintro e_ w_ ⟨rfl, hw_⟩
      subst w_
      go_wp2_with fail
      refine (works_any wr).mono ?_
      rintro e_ w9 ⟨rfl, k9⟩
      have HE := hid (HD.out.trans k9)
      clear k9 HD
      go_wp2_with fail
      go_ret
      exact ⟨rfl, HE.out⟩
end Go.Proofs.Ythelfalmjihkdaa
