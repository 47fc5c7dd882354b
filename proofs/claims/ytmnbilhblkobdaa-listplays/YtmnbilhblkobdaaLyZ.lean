
/- The law ListPlays, walked (layer 21). No statement of the seat is proved here. -/
import Derived.Test.YtmnbilhblkobdaaLyZa
namespace Go.Proofs.Ytmnbilhblkobdaa
open Go.RowKit

set_option maxRecDepth 100000 in
set_option maxHeartbeats 4000000 in
theorem plays_walk (size : Int) (a : Option Addr) (n c' : Nat) (w : World) (ho : StepsAt w a n) (hnb : n * 24 ≤ 140737488351232) : Calls Try.prog 3 #[.int .i64 size, .slice a n c'] w fun e w' => e = .returned (.bool true) ∧ Keeps (fun _ => False) w w' := by
  have HO := hid ho
  clear ho
  have hnn : n < 9223372036854775808 := by omega
  clear hnb
  by_cases hbig : 400 < n
  · have hb' : (400 : Int) < (n : Int) := by omega
    go_enter Try.func3, Try.ntmps3
    go_wp2_with fail
    refine (cells_any size _).mono ?_
    rintro e_ w_ ⟨m, hm1, hm2, rfl, hw_⟩
    subst w_
    go_wp2_with fail
    refine (begin_any m hm1 hm2 _).mono ?_
    rintro e_ x0 ⟨b, g, c, rfl, h0, k0, lb, lg⟩
    have KK := hid k0
    clear h0 k0 lb lg
    go_wp2_with fail
    replace KK := hid (KK.out.alloc (.cells #[.int .u64 18, .int .u64 20] 26))
    refine (known_any _).mono ?_
    rintro e_ w1 ⟨rfl, k1⟩
    replace KK := hid (KK.out.trans k1)
    clear k1
    go_wp2_with fail
    go_ret
    exact ⟨rfl, KK.out⟩
  · have hb' : (n : Int) ≤ 400 := by omega
    clear hbig
    go_enter Try.func3, Try.ntmps3
    go_wp2_with fail
    refine (cells_any size _).mono ?_
    rintro e_ w_ ⟨m, hm1, hm2, rfl, hw_⟩
    subst w_
    go_wp2_with fail
    refine (begin_any m hm1 hm2 _).mono ?_
    rintro e_ x0 ⟨b, g, c, rfl, h0, k0, lb, lg⟩
    have HE : Hid (Pw w b g c x0.heap.size (x0.heap.size + 1) ((x0.alloc (.cells #[.int .u64 18, .int .u64 20] 26)).alloc (.cells #[.slice none 0 0, .slice none 0 0] 31)) ((x0.alloc (.cells #[.int .u64 18, .int .u64 20] 26)).alloc (.cells #[.slice none 0 0, .slice none 0 0] 31)) (B3 m) (.slice none 0 0) (.slice none 0 0)) := by
      have hb := h0.ltb
      have hg := h0.ltg
      have kn := keeps_new x0 (.cells #[.int .u64 18, .int .u64 20] 26)
      have kn2 := keeps_new (x0.alloc (.cells #[.int .u64 18, .int .u64 20] 26)) (.cells #[.slice none 0 0, .slice none 0 0] 31)
      have q2 := alloc_block (x0.alloc (.cells #[.int .u64 18, .int .u64 20] 26)) (.cells #[.slice none 0 0, .slice none 0 0] 31)
      have hs1 : (x0.alloc (.cells #[.int .u64 18, .int .u64 20] 26)).heap.size = x0.heap.size + 1 := by simp
      rw [hs1] at q2
      have hk := k0.size
      exact hid ⟨(k0.trans kn).trans kn2, (h0.kept kn (fun f => f) (fun f => f)).kept kn2 (fun f => f) (fun f => f), ArAt.keeps (b := 20) (alloc_block x0 _) kn2 (fun f => f), q2, KH.refl _ _, by omega, by simp⟩
    have HK : Hid (Pk ((x0.alloc (.cells #[.int .u64 18, .int .u64 20] 26)).alloc (.cells #[.slice none 0 0, .slice none 0 0] 31)) (x0.heap.size + 1) m (B3 m).W (.slice none 0 0) (.slice none 0 0) [] [] ∧ (B3 m).f = -1) := hid ⟨⟨.inl ⟨rfl, rfl⟩, .inl ⟨rfl, rfl⟩, (fun a m c e => by cases e), (fun a m c e => by cases e), [], beg_rm hm1 hm2⟩, (beg_of hm1 hm2).2.2.2.2⟩
    clear h0 k0 lb lg
    go_wp2_with fail
    go_loopw [10] (fun i wr => ∃ k : Nat, k ≤ n ∧ i = .int .i64 k ∧ Hid (∃ s v0 v1 N0 N1, Pw w b g c x0.heap.size (x0.heap.size + 1) wr wr s v0 v1 ∧ Pk wr (x0.heap.size + 1) m s.W v0 v1 N0 N1 ∧ s.f = -1)) (fun i _ => n - (intOf i).toNat)
    case atStart => exact ⟨0, by omega, rfl, hid ⟨_, _, _, [], [], HE.out, HK.out.1, HK.out.2⟩⟩
    case round =>
      obtain ⟨k, hk, rfl, hr⟩ := hrel
      clear HE HK
      by_cases hlt : k < n
      · obtain ⟨s, v0, v1, N0, N1, hE, hP, hf⟩ := hr.out
        obtain ⟨gs, off, rfl, kd, on, key, hkey, c0, c1, c2⟩ := (HO.out.keeps hE.k) k hlt
        have hkn : (k : Int) < (n : Int) := by omega
        have hwk : IntKind.i64.wrap ((k : Int) + 1) = ((k + 1 : Nat) : Int) := by rw [IntKind.wrap_i64]; omega
        obtain ⟨kk, hkk, hon1, hon2⟩ := kk_of on
        obtain ⟨a0, e0, rfl⟩ : ∃ a0 e0, v0 = .slice a0 N0.length e0 := by obtain ⟨a, c, h, _⟩ := hP.r0.lies; exact ⟨a, c, by rw [h, List.length_map]⟩
        obtain ⟨a1, e1, rfl⟩ : ∃ a1 e1, v1 = .slice a1 N1.length e1 := by obtain ⟨a, c, h, _⟩ := hP.r1.lies; exact ⟨a, c, by rw [h, List.length_map]⟩
        have hln := hP.len
        have hz1 : IntKind.i64.wrap ((m : Int) - 18) = (m : Int) - 18 := by rw [IntKind.wrap_i64]; omega
        have hz2 : IntKind.i64.wrap ((m : Int) - 18 - 4) = ((m - 22 : Nat) : Int) := by rw [IntKind.wrap_i64]; omega
        have hz3 : (((m - 22 : Nat) : Int)).tdiv 2 = (((m - 22) / 2 : Nat) : Int) := by rw [Int.tdiv_eq_ediv_of_nonneg (by omega)]; omega
        have hz4 : IntKind.i64.wrap (((m - 22) / 2 : Nat) : Int) = (((m - 22) / 2 : Nat) : Int) := by rw [IntKind.wrap_i64]; omega
        have hz5 : IntKind.i64.wrap ((N0.length : Int) + (N1.length : Int)) = ((N0.length + N1.length : Nat) : Int) := by rw [IntKind.wrap_i64]; omega
        have HX := hid (hE.new (keeps_new wr (.cells #[.int .i64 kd, .int .i64 on, .int .u64 key] 33)))
        have HB : Hid (∀ X, Keeps (fun _ => False) (wr.alloc (.cells #[.int .i64 kd, .int .i64 on, .int .u64 key] 33)) X → X.heap[wr.heap.size]? = some (.cells #[.int .i64 kd, .int .i64 on, .int .u64 key] 33 (0, 0))) := fun X kX => (kX.block _ (by simp) (fun f => f)).trans (alloc_block wr _)
        have d2 := HX.out.wd.cell2
        have d0 := HX.out.wd.cell0
        have HWl : Hid (s.W.length = m) := by obtain ⟨F, q⟩ := hP.rm; exact hid q.len
        obtain ⟨gb, cb, w1, hrunb, kb, hcb, hwb, _⟩ := app_nil _ _ s.W HX.out.wd.lies (by rw [HWl.out]; omega)
        obtain ⟨adb, hadb⟩ : ∃ adb, adr gb cb = adb := ⟨_, rfl⟩
        rw [hadb] at hrunb hwb
        replace HX := hid (HX.out.new kb).base
        have HBF := hid (And.intro hwb.lies (hwb.ab (lo := x0.heap.size + 1) (by have := hE.hi; simp; omega)))
        replace HB := hid (HB.out w1 kb)
        have HP : Hid (Pk w1 (x0.heap.size + 1) m s.W (.slice a0 N0.length e0) (.slice a1 N1.length e1) N0 N1) := hid (hP.kh ((KH.refl _ _).step ((keeps_new wr _).trans kb) (fun _ f => f.elim)))
        have y0 := HX.out.v 0 (by omega)
        have y1 := HX.out.v 1 (by omega)
        simp only [ky, if_true] at y0
        rw [show ky 1 (Value.slice a0 N0.length e0) (.slice a1 N1.length e1) = .slice a1 N1.length e1 from rfl] at y1
        have HR1 := hid hrunb
        have HQ11 : Hid (x0.heap.size + 1 < wr.heap.size) := hid hE.hi
        clear hE hP hr hrunb kb hwb hcb hadb
        go_wp2_with (at_builtin; refine wpList_append_run rfl _ _ 30 rfl rfl rfl HR1.out ?_; clear HR1)
        have hkk' : (kk : Int) < 2 := by omega
        obtain ⟨vk, hvk⟩ : ∃ vk, ky kk (Value.slice a0 N0.length e0) (.slice a1 N1.length e1) = vk := ⟨_, rfl⟩
        obtain ⟨sp, hsp⟩ : ∃ sp, decide ((N0.length : Int) + (N1.length : Int) < ((m - 22 : Nat) : Int) / 2) = sp := ⟨_, rfl⟩
        replace HX := hid (HX.out.new ((Keeps.refl _ w1).drew)).base
        replace HB : Hid (w1.drew.heap[wr.heap.size]? = _) := HB
        have hS0 : S15 w1.drew wr.heap.size (x0.heap.size + 1) kk kd on key vk := s15_of HB.out (by rw [← hvk]; exact HX.out.v kk hkk)
        have HKR : Hid (KR w1.drew vk ((ky kk N0 N1).map Prod.snd) ∧ Ab (x0.heap.size + 1) vk) := by
          have q := HP.out.at_ kk hkk
          rw [hvk] at q
          exact hid ⟨q.1.keeps ((Keeps.refl _ w1).drew), q.2.1⟩
        have HKL : Hid (((ky kk N0 N1).map Prod.snd).length ≤ 1000) := by
          rcases (show kk = 0 ∨ kk = 1 by omega) with rfl | rfl <;> (simp only [ky, List.length_map]; exact hid (by simp; omega))
        refine wp_held_end (S := fun W : World => S15 W wr.heap.size (x0.heap.size + 1) kk kd on key vk) 14 rfl hmxp ?_
        simp only [Array.replicate_succ, Array.replicate_zero, List.push_toArray, List.nil_append, List.cons_append]
        refine held_take (i := 0) (v := (.int .i64 (kk : Int))) 79 rfl rfl (by kernel_rfl) (by kernel_rfl) (by kernel_rfl) rfl (fun w' hw' => by obtain ⟨q0, q1, q2, q3⟩ := hw'; go_simp) hS0 ?_
        simp only [Act.put, List.setIfInBounds_toArray, List.set_cons_zero, List.set_cons_succ]
        refine held_take (i := 1) (v := (.pointer (some ⟨x0.heap.size + 1, kk, none⟩))) 80 rfl rfl (by kernel_rfl) (by kernel_rfl) (by kernel_rfl) rfl (fun w' hw' => by obtain ⟨q0, q1, q2, q3⟩ := hw'; go_simp) hS0 ?_
        simp only [Act.put, List.setIfInBounds_toArray, List.set_cons_zero, List.set_cons_succ]
        refine held_take (i := 2) (v := (vk)) 81 rfl rfl (by kernel_rfl) (by kernel_rfl) (by kernel_rfl) rfl (fun w' hw' => by obtain ⟨q0, q1, q2, q3⟩ := hw'; go_simp) hS0 ?_
        simp only [Act.put, List.setIfInBounds_toArray, List.set_cons_zero, List.set_cons_succ]
        refine held_take (i := 3) (v := (.agg #[.int .i64 kd, .int .i64 on, .int .u64 key])) 82 rfl rfl (by kernel_rfl) (by kernel_rfl) (by kernel_rfl) rfl (fun w' hw' => by obtain ⟨q0, q1, q2, q3⟩ := hw'; go_simp) hS0 ?_
        simp only [Act.put, List.setIfInBounds_toArray, List.set_cons_zero, List.set_cons_succ]
        refine held_take (i := 4) (v := (.int .i64 ((N0.length + N1.length : Nat) : Int))) 83 rfl rfl (by kernel_rfl) (by kernel_rfl) (by kernel_rfl) rfl (fun w' hw' => by obtain ⟨q0, q1, q2, q3⟩ := hw'; go_simp) hS0 ?_
        simp only [Act.put, List.setIfInBounds_toArray, List.set_cons_zero, List.set_cons_succ]
        refine held_take (i := 5) (v := (.int .i64 (((m - 22) / 2 : Nat) : Int))) 84 rfl rfl (by kernel_rfl) (by kernel_rfl) (by kernel_rfl) rfl (fun w' hw' => by obtain ⟨q0, q1, q2, q3⟩ := hw'; go_simp) hS0 ?_
        simp only [Act.put, List.setIfInBounds_toArray, List.set_cons_zero, List.set_cons_succ]
        refine held_take (i := 6) (v := (.bool sp)) 85 rfl rfl (by kernel_rfl) (by kernel_rfl) (by kernel_rfl) rfl (fun w' hw' => by obtain ⟨q0, q1, q2, q3⟩ := hw'; go_simp) hS0 ?_
        simp only [Act.put, List.setIfInBounds_toArray, List.set_cons_zero, List.set_cons_succ]
        refine held_call3_alloc (i := 7) (j := 11) (f := 7) (args := #[vk, .agg #[.int .i64 kd, .int .i64 on, .int .u64 key], .bool sp]) (o := rp0) (R15v w1.drew (x0.heap.size + 1) ((ky kk N0 N1).map Prod.snd) kd key sp) 86 17 78 87 88 8 9 10 (by kernel_rfl) (by kernel_rfl) (by kernel_rfl) rfl rfl rfl rfl rfl rfl rfl rfl rfl rfl (by decide) (by decide) (fun t => rfl) (fun t => rfl) (fun t => rfl) (fun t => rfl) (fun t => rfl) (by kernel_rfl) ⟨by kernel_rfl, by kernel_rfl⟩ ⟨by kernel_rfl, by kernel_rfl⟩ ⟨by kernel_rfl, by kernel_rfl⟩ ⟨by kernel_rfl, by kernel_rfl⟩ ⟨by kernel_rfl, by kernel_rfl⟩ ⟨by kernel_rfl, by kernel_rfl⟩ (fun w' hw' => by go_simp) (fun w' v hw' => by go_simp) (fun w' => by go_simp; rfl) (fun a' w' => by go_simp; rfl) (fun y z w' hw' => by go_simp) (fun y z w' hw' => by go_simp) (fun y z w' hw' => by go_simp) (fun y z p w' hw' => by go_simp) (fun y z p w' hw' => by go_simp) (fun y z p w' hw' => by go_simp) hS0 (hS0.keeps (keeps_new _ _)) (r15_a HKL.out HKR.out.1 HKR.out.2 HX.out.hi hS0) (r15_b HKL.out HKR.out.1 HKR.out.2 HX.out.hi hS0) ?_
        rintro q17 y z Y ⟨ix, v1, rfl, hR⟩
        obtain ⟨av, cv, hv1, _⟩ := hR.l1
        subst hv1
        have HR := hid hR
        have hS1 := hS0.keeps hR.k
        have z0 := hR.at_.fr 0
        have z1 := hR.at_.fr 1
        have z2 := hR.at_.fr 2
        have z3 := hR.at_.fr 3
        have zc0 := hR.at_.c0
        have zc1 := hR.at_.c1
        have zc2 := hR.at_.c2
        have zc3 := hR.at_.c3
        clear hR
        refine ⟨hS1, ?_⟩
        simp only [Act.put, List.setIfInBounds_toArray, List.set_cons_zero, List.set_cons_succ]
        have HQ : Hid (Pl ((ky kk N0 N1).map Prod.snd) key ix ∧ Lies Y (.slice av (ansR ((ky kk N0 N1).map Prod.snd) kd key sp ix).L.length cv) (ansR ((ky kk N0 N1).map Prod.snd) kd key sp ix).L ∧ Lies Y z (ansK ((ky kk N0 N1).map Prod.snd) kd key sp ix) ∧ Ab (x0.heap.size + 1) (.slice av (ansR ((ky kk N0 N1).map Prod.snd) kd key sp ix).L.length cv) ∧ Ab (x0.heap.size + 1) z ∧ Keeps (fun _ => False) w1.drew Y ∧ w1.drew.heap.size ≤ q17) := hid ⟨HR.out.pl, HR.out.l1, HR.out.l2, HR.out.a1, HR.out.a2, HR.out.k, HR.out.lo⟩
        have HOF : Hid (Off (.slice av (ansR ((ky kk N0 N1).map Prod.snd) kd key sp ix).L.length cv) (ansR ((ky kk N0 N1).map Prod.snd) kd key sp ix).L q17 ∧ Off z (ansK ((ky kk N0 N1).map Prod.snd) kd key sp ix) q17) := hid ⟨HR.out.d1, HR.out.d2⟩
        have HRP := hid HR.out.at_
        clear HR
        generalize hRR : (ansR ((ky kk N0 N1).map Prod.snd) kd key sp ix) = RR at HQ HOF ⊢
        have HRR := hid hRR
        clear hRR
        have HT : Hid (RpAt ((((Y.setCell ⟨q17, 0, none⟩ (.int .u64 RR.w)).setCell ⟨q17, 1, none⟩ (.bool RR.h)).setCell ⟨q17, 2, none⟩ (.slice av RR.L.length cv)).setCell ⟨q17, 3, none⟩ (.int .i64 RR.e)) q17 RR.w RR.h (.slice av RR.L.length cv) RR.e ∧ Keeps (fun i => i = q17) Y ((((Y.setCell ⟨q17, 0, none⟩ (.int .u64 RR.w)).setCell ⟨q17, 1, none⟩ (.bool RR.h)).setCell ⟨q17, 2, none⟩ (.slice av RR.L.length cv)).setCell ⟨q17, 3, none⟩ (.int .i64 RR.e))) := hid ⟨(((HRP.out.set0 _).set1 _).set2 _).set3 _, (((keeps_cell Y q17 0 _).trans (keeps_cell _ q17 1 _)).trans (keeps_cell _ q17 2 _)).trans (keeps_cell _ q17 3 _)⟩
        have hlo : x0.heap.size + 1 < q17 ∧ wr.heap.size < q17 := by
          have q1 := HQ.out.2.2.2.2.2.2
          have q2 := HX.out.hi
          have q3 := World.block_lt_of_cell? _ _ hS0.f0
          simp only at q1 q2 q3
          omega
        have hS2 : S15 ((((Y.setCell ⟨q17, 0, none⟩ (.int .u64 RR.w)).setCell ⟨q17, 1, none⟩ (.bool RR.h)).setCell ⟨q17, 2, none⟩ (.slice av RR.L.length cv)).setCell ⟨q17, 3, none⟩ (.int .i64 RR.e)) wr.heap.size (x0.heap.size + 1) kk kd on key vk := by
          have k := HT.out.2
          have b0 := k.block wr.heap.size (World.block_lt_of_cell? _ _ hS1.f0) (by omega)
          have b9 := k.block (x0.heap.size + 1) (World.block_lt_of_cell? _ _ hS1.f3) (by omega)
          exact ⟨(World.cell?_of_block b0).trans hS1.f0, (World.cell?_of_block b0).trans hS1.f1, (World.cell?_of_block b0).trans hS1.f2, (World.cell?_of_block b9).trans hS1.f3⟩
        refine held_none (i := 12) (w' := ((((Y.setCell ⟨q17, 0, none⟩ (.int .u64 RR.w)).setCell ⟨q17, 1, none⟩ (.bool RR.h)).setCell ⟨q17, 2, none⟩ (.slice av RR.L.length cv)).setCell ⟨q17, 3, none⟩ (.int .i64 RR.e))) (by kernel_rfl) rfl rfl rfl (by go_simp) hS2 ?_
        simp only [List.setIfInBounds_toArray, List.set_cons_zero, List.set_cons_succ]
        refine held_val (i := 13) (v := z) (w' := ((((Y.setCell ⟨q17, 0, none⟩ (.int .u64 RR.w)).setCell ⟨q17, 1, none⟩ (.bool RR.h)).setCell ⟨q17, 2, none⟩ (.slice av RR.L.length cv)).setCell ⟨q17, 3, none⟩ (.int .i64 RR.e))) (some 18) (by kernel_rfl) rfl rfl rfl (by go_simp) hS2 ?_
        simp only [Act.put, List.setIfInBounds_toArray, List.set_cons_zero, List.set_cons_succ]
        refine held_end (by kernel_rfl) ?_ _
        clear z0 z1 z2 z3 zc0 zc1 zc2 zc3 hS0 hS1 y0 y1 d0 d2 hz1 hz2 hz3 hz4 hz5 c0 c1 c2 hon1 hon2
        generalize ((((Y.setCell ⟨q17, 0, none⟩ (.int .u64 RR.w)).setCell ⟨q17, 1, none⟩ (.bool RR.h)).setCell ⟨q17, 2, none⟩ (.slice av RR.L.length cv)).setCell ⟨q17, 3, none⟩ (.int .i64 RR.e)) = Y2 at HT hS2 ⊢
        have hvs : ky kk (Value.slice a0 N0.length e0) (.slice a1 N1.length e1) = vk := hvk
        have HZ2 : Hid (Z2 w b g c x0.heap.size (x0.heap.size + 1) wr.heap.size q17 m kk kd on key s (.slice a0 N0.length e0) (.slice a1 N1.length e1) N0 N1 RR (.slice av RR.L.length cv) z (.slice adb s.W.length cb) (ansK ((ky kk N0 N1).map Prod.snd) kd key sp ix) Y2) := by
          have hq := HQ.out
          have k17 : ∀ i, i = q17 → w1.drew.heap.size ≤ i := fun i e => by rw [e]; exact hq.2.2.2.2.2.2
          have hp1 := (HX.out.new hq.2.2.2.2.2.1).own HT.out.2 k17
          have KY : KH (x0.heap.size + 1) w1 Y2 := (((KH.refl _ w1).step ((Keeps.refl (fun _ => False) w1).drew) (fun _ f => f.elim)).step hq.2.2.2.2.2.1 (fun _ f => f.elim)).step HT.out.2 (fun i e => .inr (k17 i e))
          exact hid ⟨hp1.base, HP.out.kh KY, HBF.out.1.kh HBF.out.2 KY, HBF.out.2, hq.2.1.off HOF.out.1 HT.out.2, hq.2.2.2.1, hq.2.2.1.off HOF.out.2 HT.out.2, hq.2.2.2.2.1, HT.out.1, hS2.f0, hS2.f1, hS2.f2, hlo.1, HQ11.out⟩
        obtain ⟨⟨R, s1⟩, hcall⟩ : ∃ r, s.call 0 (ky kk 18 20 : Int) kd key = r := ⟨_, rfl⟩
        have HPZ : Hid (Pz m kk kd key s s1 R RR N0 N1 (ansK ((ky kk N0 N1).map Prod.snd) kd key sp ix)) := hid (pz_of HP.out hkk hf hkey HQ.out.1 hsp hcall HRR.out)
        have HCL : Hid (_ = _) := hcall
        have hf0 : s.f < 0 := by rw [hf]; decide
        replace HZ2 := hid (HZ2.out.new ((Keeps.refl (fun _ => False) Y2).drew))
        obtain ⟨Y3, hY3⟩ : ∃ Y3, Y2.drew = Y3 := ⟨_, rfl⟩
        rw [hY3] at HZ2
        have HY3 := hid hY3
        clear hY3
        have HRA := hid (r16_a HZ2.out hkk hf0 hkey HCL)
        have HRB := hid (r16_b HZ2.out hkk hf0 hkey HCL)
        have hS6 : S16 Y3 wr.heap.size x0.heap.size kk kd on key := HZ2.out.s16 hkk
        have hS7 : S16 (Y3.alloc rp0) wr.heap.size x0.heap.size kk kd on key := hS6.keeps (keeps_new _ _) (fun f => f) (fun f => f)
        have HSK : Hid (0 ≤ s.p ∨ True) := hid (.inr trivial)
        have HLE : Hid (∀ X sx, Pw w b g c x0.heap.size (x0.heap.size + 1) Y3 X sx (.slice a0 N0.length e0) (.slice a1 N1.length e1) → S16 X wr.heap.size x0.heap.size kk kd on key) := hid (fun X sx p => pw_s16 HZ2.out hkk p)
        generalize hK2 : ansK ((ky kk N0 N1).map Prod.snd) kd key sp ix = K2 at HZ2 HPZ
        clear hcall HSK hS2 HQ HOF HT HRP HKR HKL HX HB HBF HQ11 hlo hvs hK2 HRR HCL HP
        clear hvk hsp hkey
        go_wp2_with fail
        refine wp_held_end (S := fun W : World => S16 W wr.heap.size x0.heap.size kk kd on key) 9 rfl hmxp ?_
        simp only [Array.replicate_succ, Array.replicate_zero, List.push_toArray, List.nil_append, List.cons_append]
        rw [HY3.out]
        clear HY3
        refine held_take (i := 0) (v := (.pointer (some ⟨b, 0, none⟩))) 89 rfl rfl (by kernel_rfl) (by kernel_rfl) (by kernel_rfl) rfl (fun w' hw' => by obtain ⟨q0, q1, q2, q3⟩ := hw'; go_simp) hS6 ?_
        simp only [Act.put, List.setIfInBounds_toArray, List.set_cons_zero, List.set_cons_succ]
        refine held_take (i := 1) (v := (.iface 24 (.pointer (some ⟨b, 0, none⟩)))) 90 rfl rfl (by kernel_rfl) (by kernel_rfl) (by kernel_rfl) rfl (fun w' hw' => by obtain ⟨q0, q1, q2, q3⟩ := hw'; go_simp) hS6 ?_
        simp only [Act.put, List.setIfInBounds_toArray, List.set_cons_zero, List.set_cons_succ]
        refine held_take (i := 2) (v := (.int .i64 (kk : Int))) 91 rfl rfl (by kernel_rfl) (by kernel_rfl) (by kernel_rfl) rfl (fun w' hw' => by obtain ⟨q0, q1, q2, q3⟩ := hw'; go_simp) hS6 ?_
        simp only [Act.put, List.setIfInBounds_toArray, List.set_cons_zero, List.set_cons_succ]
        refine held_take (i := 3) (v := (.pointer (some ⟨x0.heap.size, kk, none⟩))) 92 rfl rfl (by kernel_rfl) (by kernel_rfl) (by kernel_rfl) rfl (fun w' hw' => by obtain ⟨q0, q1, q2, q3⟩ := hw'; go_simp) hS6 ?_
        simp only [Act.put, List.setIfInBounds_toArray, List.set_cons_zero, List.set_cons_succ]
        refine held_take (i := 4) (v := (.int .u64 (ky kk 18 20 : Int))) 93 rfl rfl (by kernel_rfl) (by kernel_rfl) (by kernel_rfl) rfl (fun w' hw' => by obtain ⟨q0, q1, q2, q3⟩ := hw'; go_simp) hS6 ?_
        simp only [Act.put, List.setIfInBounds_toArray, List.set_cons_zero, List.set_cons_succ]
        refine held_take (i := 5) (v := (.agg #[.int .i64 kd, .int .i64 on, .int .u64 key])) 94 rfl rfl (by kernel_rfl) (by kernel_rfl) (by kernel_rfl) rfl (fun w' hw' => by obtain ⟨q0, q1, q2, q3⟩ := hw'; go_simp) hS6 ?_
        simp only [Act.put, List.setIfInBounds_toArray, List.set_cons_zero, List.set_cons_succ]
        refine held_call_alloc (i := 6) (j := 7) (f := 8) (args := #[.iface 24 (.pointer (some ⟨b, 0, none⟩)), .int .u64 0, .int .u64 (ky kk 18 20 : Int), .agg #[.int .i64 kd, .int .i64 on, .int .u64 key]]) (o := rp0) (R16v w b g c x0.heap.size (x0.heap.size + 1) Y3 s1 (.slice a0 N0.length e0) (.slice a1 N1.length e1) R) 95 19 (by kernel_rfl) (by kernel_rfl) (by kernel_rfl) rfl rfl rfl rfl (by decide) (by decide) (fun t => rfl) (fun t => rfl) (fun w' hw' => by go_simp) (fun w' v hw' => by go_simp) (fun w' => by go_simp; rfl) (fun w' v => by go_simp; rfl) hS6 hS7 HRA.out HRB.out ?_
        rintro q19 y X hR
        obtain ⟨vL, rfl, hRp, hRt, hRw, hRn, hRl⟩ := id hR
        have HZ3 := hid (Z3.of hR)
        have hS8 := HLE.out X s1 hRp
        have z0 := hRt.fr 0
        have z1 := hRt.fr 1
        have z2 := hRt.fr 2
        have z3 := hRt.fr 3
        have zc0 := hRt.c0
        have zc1 := hRt.c1
        have zc2 := hRt.c2
        have zc3 := hRt.c3
        obtain ⟨lL, cL, hvL⟩ := hRw.form
        subst hvL
        clear hR hRt hRp hRw hRn hRl HRA HRB hS6 hS7
        refine ⟨hS8, ?_⟩
        simp only [Act.put, List.setIfInBounds_toArray, List.set_cons_zero, List.set_cons_succ]
        have hS9 := HLE.out _ s1 HZ3.out.pw
        refine held_none (i := 8) (w' := ((((X.setCell ⟨q19, 0, none⟩ (.int .u64 R.w)).setCell ⟨q19, 1, none⟩ (.bool R.h)).setCell ⟨q19, 2, none⟩ (.slice lL R.L.length cL)).setCell ⟨q19, 3, none⟩ (.int .i64 R.e))) (by kernel_rfl) rfl rfl rfl (by go_simp) hS9 ?_
        simp only [List.setIfInBounds_toArray, List.set_cons_zero, List.set_cons_succ]
        refine held_end (by kernel_rfl) ?_ _
        clear z0 z1 z2 z3 zc0 zc1 zc2 zc3 hS8 hS9
        generalize ((((X.setCell ⟨q19, 0, none⟩ (.int .u64 R.w)).setCell ⟨q19, 1, none⟩ (.bool R.h)).setCell ⟨q19, 2, none⟩ (.slice lL R.L.length cL)).setCell ⟨q19, 3, none⟩ (.int .i64 R.e)) = ZZ at HZ3 ⊢
        obtain ⟨M, hM⟩ : ∃ M : Act → World → Prop, M = fun a w' => a.defers = [] ∧ Fz size gs off n c' m b x0.heap.size k kk q19 z a.tmps ∧ ∃ x h e L, L.length = R.L.length ∧ Z3 w b g c x0.heap.size (x0.heap.size + 1) q19 Y3 w' s1 (.slice a0 N0.length e0) (.slice a1 N1.length e1) x h (.slice lL R.L.length cL) e L := ⟨_, rfl⟩
        have HM := hid hM
        clear hM
        refine then_back (by assumption) ?_
        refine wp_mid2 M ?first ?rest
        case first =>
          by_cases h9 : kd = 9
          · subst h9
            have hn9 := HPZ.out.nine rfl
            have g0 : ZZ.cell? ⟨q19, 0, none⟩ = some (.int .u64 (ky kk 18 20 : Int)) := by rw [← hn9.1]; exact HZ3.out.gt.c0
            have f7 := HZ3.out.pw.ar.fr kk
            have a7 := HZ3.out.pw.a kk hkk
            have h8 := HZ3.out.put7 hkk
            have g8 := h8.gt.c0
            have f8 := h8.gt.fr 0
            rw [hn9.1] at g8
            have HN : Hid (Z3 w b g c x0.heap.size (x0.heap.size + 1) q19 Y3 ((ZZ.setCell ⟨x0.heap.size, kk, none⟩ (.int .u64 (ky kk 18 20))).setCell ⟨q19, 0, none⟩ (.int .u64 0)) s1 (.slice a0 N0.length e0) (.slice a1 N1.length e1) 0 R.h (.slice lL R.L.length cL) R.e R.L) := hid (h8.x0 0)
            have cz := Z3.cell HZ2.out HZ3.out
            clear h8
            have hlk : lkB 9 = false := hn9.2.2
            have HRE : Hid (R.e = 0) := hid hn9.2.1
            clear hn9
            have hRR : RR = ⟨0, R.h, R.L, R.e⟩ := by have q := HPZ.out.rep; rwa [if_pos rfl] at q
            subst hRR
            have c0 := Z3.cell HZ2.out HN.out
            have y0 := HN.out.gt.c0
            have y1 := HN.out.gt.c1
            have y2 := HN.out.gt.c2
            have y3 := HN.out.gt.c3
            have t0 := (Z3.wt HZ2.out HN.out).c0
            have t1 := (Z3.wt HZ2.out HN.out).c1
            have t2 := (Z3.wt HZ2.out HN.out).c2
            have t3 := (Z3.wt HZ2.out HN.out).c3
            dsimp only at t0 t1 t2 t3
            have hlw0 := Z3.lw HZ2.out HN.out
            have HLW : Hid (Lies ((ZZ.setCell ⟨x0.heap.size, kk, none⟩ (.int .u64 (ky kk 18 20))).setCell ⟨q19, 0, none⟩ (.int .u64 0)) (.slice av R.L.length cv) R.L) := hlw0
            clear hlw0
            go_wp2_with fail
            refine (same_any 0 R.e R.h (.slice lL R.L.length cL) (.slice av R.L.length cv) R.L (by have := HPZ.out.len; omega) _ HN.out.gl.lies HLW.out).mono ?_
            rintro e_ w20 ⟨rfl, k20⟩
            have HN2 := hid (HN.out.new k20)
            clear c0 y0 y1 y2 y3 t0 t1 t2 t3 k20
            clear HLW
            clear g0 f7 a7 g8 f8 cz
            have c0 := Z3.cell HZ2.out HN2.out
            have y3 := HN2.out.gt.c3
            have b2 := HN2.out.pw.wd.cell2
            rw [HRE.out] at y3
            go_wp2_with fail
            refine (looks_any 9 w20).mono ?_
            rintro e_ w_ ⟨rfl, hw_⟩
            subst w_
            rw [hlk]
            go_wp2_with fail
            rw [HM.out]
            exact ⟨rfl, ⟨rfl, rfl, rfl, rfl, rfl, rfl, rfl, rfl, rfl, rfl, rfl, rfl, rfl, rfl, rfl, rfl, rfl, rfl, rfl, rfl, rfl, rfl, rfl, rfl, rfl, rfl, rfl, rfl, rfl, rfl, rfl, rfl, rfl, rfl⟩, _, _, _, _, rfl, HN2.out⟩
          · by_cases hlk : lkB kd = true
            · skip
              have HN := HZ3
              have hRR : RR = ⟨R.w, R.h, R.L, R.e⟩ := by have q := HPZ.out.rep; rwa [if_neg h9] at q
              have HRE : Hid (R.e = 0) := hid (HPZ.out.look hlk).2
              have hpp : s1.p = s.p := (HPZ.out.look hlk).1
              subst hRR
              have c0 := Z3.cell HZ2.out HN.out
              have y0 := HN.out.gt.c0
              have y1 := HN.out.gt.c1
              have y2 := HN.out.gt.c2
              have y3 := HN.out.gt.c3
              have t0 := (Z3.wt HZ2.out HN.out).c0
              have t1 := (Z3.wt HZ2.out HN.out).c1
              have t2 := (Z3.wt HZ2.out HN.out).c2
              have t3 := (Z3.wt HZ2.out HN.out).c3
              dsimp only at t0 t1 t2 t3
              have hlw0 := Z3.lw HZ2.out HN.out
              have HLW : Hid (Lies ZZ (.slice av R.L.length cv) R.L) := hlw0
              clear hlw0
              go_wp2_with fail
              refine (same_any R.w R.e R.h (.slice lL R.L.length cL) (.slice av R.L.length cv) R.L (by have := HPZ.out.len; omega) _ HN.out.gl.lies HLW.out).mono ?_
              rintro e_ w20 ⟨rfl, k20⟩
              have HN2 := hid (HN.out.new k20)
              clear c0 y0 y1 y2 y3 t0 t1 t2 t3 k20
              clear HLW
              have c0 := Z3.cell HZ2.out HN2.out
              have y3 := HN2.out.gt.c3
              have b2 := HN2.out.pw.wd.cell2
              rw [HRE.out] at y3
              rw [hpp] at b2
              go_wp2_with fail
              refine (looks_any kd w20).mono ?_
              rintro e_ w_ ⟨rfl, hw_⟩
              subst w_
              rw [hlk]
              go_wp2_with fail
              rw [HM.out]
              exact ⟨rfl, ⟨rfl, rfl, rfl, rfl, rfl, rfl, rfl, rfl, rfl, rfl, rfl, rfl, rfl, rfl, rfl, rfl, rfl, rfl, rfl, rfl, rfl, rfl, rfl, rfl, rfl, rfl, rfl, rfl, rfl, rfl, rfl, rfl, rfl, rfl⟩, _, _, _, _, rfl, HN2.out⟩
            · have hlk : lkB kd = false := by simpa using hlk
              by_cases hRe : R.e = 0
              · skip
                have HN := HZ3
                have hRR : RR = ⟨R.w, R.h, R.L, R.e⟩ := by have q := HPZ.out.rep; rwa [if_neg h9] at q
                have HRE : Hid (R.e = 0) := hid hRe
                clear hRe
                subst hRR
                have c0 := Z3.cell HZ2.out HN.out
                have y0 := HN.out.gt.c0
                have y1 := HN.out.gt.c1
                have y2 := HN.out.gt.c2
                have y3 := HN.out.gt.c3
                have t0 := (Z3.wt HZ2.out HN.out).c0
                have t1 := (Z3.wt HZ2.out HN.out).c1
                have t2 := (Z3.wt HZ2.out HN.out).c2
                have t3 := (Z3.wt HZ2.out HN.out).c3
                dsimp only at t0 t1 t2 t3
                have hlw0 := Z3.lw HZ2.out HN.out
                have HLW : Hid (Lies ZZ (.slice av R.L.length cv) R.L) := hlw0
                clear hlw0
                go_wp2_with fail
                refine (same_any R.w R.e R.h (.slice lL R.L.length cL) (.slice av R.L.length cv) R.L (by have := HPZ.out.len; omega) _ HN.out.gl.lies HLW.out).mono ?_
                rintro e_ w20 ⟨rfl, k20⟩
                have HN2 := hid (HN.out.new k20)
                clear c0 y0 y1 y2 y3 t0 t1 t2 t3 k20
                clear HLW
                have c0 := Z3.cell HZ2.out HN2.out
                have y3 := HN2.out.gt.c3
                have b2 := HN2.out.pw.wd.cell2
                rw [HRE.out] at y3
                go_wp2_with fail
                refine (looks_any kd w20).mono ?_
                rintro e_ w_ ⟨rfl, hw_⟩
                subst w_
                rw [hlk]
                go_wp2_with fail
                rw [HM.out]
                exact ⟨rfl, ⟨rfl, rfl, rfl, rfl, rfl, rfl, rfl, rfl, rfl, rfl, rfl, rfl, rfl, rfl, rfl, rfl, rfl, rfl, rfl, rfl, rfl, rfl, rfl, rfl, rfl, rfl, rfl, rfl, rfl, rfl, rfl, rfl, rfl, rfl⟩, _, _, _, _, rfl, HN2.out⟩
              · skip
                have HN := HZ3
                have hRR : RR = ⟨R.w, R.h, R.L, R.e⟩ := by have q := HPZ.out.rep; rwa [if_neg h9] at q
                have hpp : s1.p = s.p := (HPZ.out.err hRe).1
                have hww : s1.W = s.W := (HPZ.out.err hRe).2.1
                have hlk : lkB kd = false := (HPZ.out.err hRe).2.2.1
                subst hRR
                have c0 := Z3.cell HZ2.out HN.out
                have y0 := HN.out.gt.c0
                have y1 := HN.out.gt.c1
                have y2 := HN.out.gt.c2
                have y3 := HN.out.gt.c3
                have t0 := (Z3.wt HZ2.out HN.out).c0
                have t1 := (Z3.wt HZ2.out HN.out).c1
                have t2 := (Z3.wt HZ2.out HN.out).c2
                have t3 := (Z3.wt HZ2.out HN.out).c3
                dsimp only at t0 t1 t2 t3
                have hlw0 := Z3.lw HZ2.out HN.out
                have HLW : Hid (Lies ZZ (.slice av R.L.length cv) R.L) := hlw0
                clear hlw0
                go_wp2_with fail
                refine (same_any R.w R.e R.h (.slice lL R.L.length cL) (.slice av R.L.length cv) R.L (by have := HPZ.out.len; omega) _ HN.out.gl.lies HLW.out).mono ?_
                rintro e_ w20 ⟨rfl, k20⟩
                have HN2 := hid (HN.out.new k20)
                clear c0 y0 y1 y2 y3 t0 t1 t2 t3 k20
                clear HLW
                have c0 := Z3.cell HZ2.out HN2.out
                have y3 := HN2.out.gt.c3
                have b2 := HN2.out.pw.wd.cell2
                rw [hpp] at b2
                have b0 := HN2.out.pw.wd.cell0
                rw [hww] at b0
                obtain ⟨ag, hag⟩ : ∃ ag, adr g c = ag := ⟨_, rfl⟩
                rw [hag] at b0
                go_wp2_with fail
                refine (looks_any kd w20).mono ?_
                rintro e_ w_ ⟨rfl, hw_⟩
                subst w_
                rw [hlk]
                go_wp2_with fail
                refine (words_same _ _ s.W (by have := HPZ.out.len; have := HWl.out; omega) w20 (Z3.lb HZ2.out HN2.out) (by rw [← hag, ← hww]; exact HN2.out.pw.wd.lies)).mono ?_
                rintro e_ w21 ⟨rfl, m21, hw21⟩
                have HN3 := hid (HN2.out.new (show Keeps (fun _ => False) w20 w21 by rw [hw21]; exact (Keeps.refl _ _).drewN _))
                clear c0 y3 b2 b0 hw21
                go_wp2_with fail
                rw [HM.out]
                exact ⟨rfl, ⟨rfl, rfl, rfl, rfl, rfl, rfl, rfl, rfl, rfl, rfl, rfl, rfl, rfl, rfl, rfl, rfl, rfl, rfl, rfl, rfl, rfl, rfl, rfl, rfl, rfl, rfl, rfl, rfl, rfl, rfl, rfl, rfl, rfl, rfl⟩, _, _, _, _, rfl, HN3.out⟩
        case rest =>
          intro a w' hq
          rw [HM.out] at hq
          obtain ⟨TT, DD⟩ := a
          obtain ⟨hD, hF, xz, hz, ez, L, hL, hZ⟩ := hq
          dsimp only at hD hF
          subst hD
          clear HM
          have HZZ : Hid (Z3 w b g c x0.heap.size (x0.heap.size + 1) q19 Y3 w' s1 (.slice a0 N0.length e0) (.slice a1 N1.length e1) xz hz (.slice lL R.L.length cL) ez L) := hid hZ
          clear hZ HZ3
          refine frame_cps (G := fun T => Fz size gs off n c' m b x0.heap.size k kk q19 z T → Code.wp Try.prog _ _ ⟨T, []⟩ w') TT hF.1 ?_ hF
          clear hF TT
          intro u0 u1 u2 u3 u4 u5 u6 u7 u8 u9 u10 u11 u12 u13 u14 u15 u16 u17 u18 u19 u20 u21 u22 u23 u24 u25 u26 u27 u28 u29 u30 u31 u32 u33 u34 u35 u36 u37 u38 u39 u40 u41 u42 u43 u44 u45 u46 u47 u48 u49 u50 u51 u52 u53 u54 u55 u56 u57 u58 u59 u60 u61 u62 u63 u64 u65 u66 u67 u68 u69 u70 u71 u72 u73 u74 u75 u76 u77 u78 u79 u80 u81 u82 u83 u84 u85 u86 u87 u88 u89 u90 u91 u92 u93 u94 u95 u96 u97 u98 u99 u100 u101 u102 u103 u104 u105 u106 u107 u108 u109 u110 u111 u112 u113 u114 u115 u116 u117 u118 u119 u120 u121 u122 u123 u124 u125 u126 u127 u128 u129 u130 u131 u132 u133 u134 u135 u136 u137 u138 u139 u140 u141 u142 u143 u144 u145 u146 u147 u148 u149 u150 u151 u152 u153 u154 u155 u156 u157 u158 u159 u160 u161 u162 u163 u164 u165 u166 u167 u168 u169 u170 u171 u172 u173 u174 u175 u176 u177 u178 u179 u180 u181 u182 u183 u184 u185 u186 u187 u188 u189 u190 u191 u192 u193 u194 hF
          obtain ⟨_, g0, g1, g2, g3, g5, g6, g7, g8, g9, g10, g12, g18, g19, g24, g25, g26, g27, g28, g29, g30, g31, g32, g33, g34, g35, g36, g37, g38, g39, g40, g41, g42, g194⟩ := hF
          replace g0 : u0 = .int .i64 size := g0
          replace g1 : u1 = .slice (some ⟨gs, off, none⟩) n c' := g1
          replace g2 : u2 = undef := g2
          replace g3 : u3 = undef := g3
          replace g5 : u5 = .int .i64 (m : Int) := g5
          replace g6 : u6 = .pointer (some ⟨b, 0, none⟩) := g6
          replace g7 : u7 = .pointer (some ⟨x0.heap.size, 0, none⟩) := g7
          replace g8 : u8 = .bool true := g8
          replace g9 : u9 = .pointer (some ⟨x0.heap.size + 1, 0, none⟩) := g9
          replace g10 : u10 = .int .i64 (k : Int) := g10
          replace g12 : u12 = .int .i64 (kk : Int) := g12
          replace g18 : u18 = z := g18
          replace g19 : u19 = .pointer (some ⟨q19, 0, none⟩) := g19
          replace g24 : u24 = .int .i64 size := g24
          replace g25 : u25 = .int .i64 (m : Int) := g25
          replace g26 : u26 = .tuple #[.pointer (some ⟨b, 0, none⟩), .agg #[.int .u64 18, .int .u64 20], .bool true] := g26
          replace g27 : u27 = .int .i64 (m : Int) := g27
          replace g28 : u28 = .tuple #[.pointer (some ⟨b, 0, none⟩), .agg #[.int .u64 18, .int .u64 20], .bool true] := g28
          replace g29 : u29 = .pointer (some ⟨b, 0, none⟩) := g29
          replace g30 : u30 = .agg #[.int .u64 18, .int .u64 20] := g30
          replace g31 : u31 = .bool true := g31
          replace g32 : u32 = .bool true := g32
          replace g33 : u33 = .bool false := g33
          replace g34 : u34 = .bool false := g34
          replace g35 : u35 = .slice (some ⟨gs, off, none⟩) n c' := g35
          replace g36 : u36 = .int .i64 (n : Int) := g36
          replace g37 : u37 = .bool (decide (400 < (n : Int))) := g37
          replace g38 : u38 = .bool (decide (400 < (n : Int))) := g38
          replace g39 : u39 = undef := g39
          replace g40 : u40 = undef := g40
          replace g41 : u41 = undef := g41
          replace g42 : u42 = undef := g42
          replace g194 : u194 = undef := g194
          subst g0 g1 g2 g3 g5 g6 g7 g8 g9 g10 g12 g18 g19 g24 g25 g26 g27 g28 g29 g30 g31 g32 g33 g34 g35 g36 g37 g38 g39 g40 g41 g42 g194
          obtain ⟨rl, hrl⟩ : ∃ rl, R.L.length = rl := ⟨_, rfl⟩
          rw [hrl] at HZZ hL
          have HRL : Hid (rl ≤ 1000) := hid (by rw [← hrl]; exact HPZ.out.len)
          have hrl1 : rl ≤ 1000 := HRL.out
          clear hrl
          go_wp2_with fail
          go_loopw [20] (fun jv wr' => ∃ j : Nat, j ≤ rl ∧ jv = .int .i64 (j : Int) ∧ Hid (∃ L', L'.length = rl ∧ Z3 w b g c x0.heap.size (x0.heap.size + 1) q19 Y3 wr' s1 (.slice a0 N0.length e0) (.slice a1 N1.length e1) xz hz (.slice lL rl cL) ez L')) (fun jv _ => rl - (intOf jv).toNat)
          case atStart => exact ⟨0, by omega, rfl, hid ⟨L, hL, HZZ.out⟩⟩
          case round =>
            obtain ⟨j, hjl, rfl, hrj⟩ := hrel
            clear HZZ hL
            generalize wr = Wj at *
            obtain ⟨L', hL', hZ⟩ := hrj.out
            have y2 := hZ.gt.c2
            by_cases hlj : j < rl
            · have hlj' : (j : Int) < (rl : Int) := by omega
              obtain ⟨gv, cv', hv, hcell⟩ := hZ.gl.at_ (k := j) (by omega)
              injection hv with hv1 hv2 hv3
              subst hv1
              have hfz := (hZ.gl.blk (g := gv) rfl).2.2 j
              have HF : Hid (∃ L', L'.length = rl ∧ Z3 w b g c x0.heap.size (x0.heap.size + 1) q19 Y3 (Wj.setCell ⟨gv, j, none⟩ (.int .u64 99)) s1 (.slice a0 N0.length e0) (.slice a1 N1.length e1) xz hz (.slice (some ⟨gv, 0, none⟩) rl cL) ez L') := hid ⟨_, by rw [List.length_set]; exact hL', hZ.put (by omega) rfl 99⟩
              clear hrj hZ hL' hv2 hv3
              go_wp2_with fail
              go_roundw
              case rel => exact ⟨j + 1, by omega, by go_num, HF⟩
              case measure => simp [intOf]; omega
            · have hlj' : ¬ (j : Int) < (rl : Int) := by omega
              obtain ⟨Mm, Ff, hRm, hMm⟩ := HPZ.out.rm
              obtain ⟨uu, w5, hrun, k5, hKR, hAb⟩ := app_nilK Wj u18 K2 (Z3.lz HZ2.out hZ) (by
                rw [← hMm, List.length_map]
                have q1 := hRm.w0
                have q2 := hRm.w0n
                have q3 := hRm.n200
                have e : (pcs (ky kk 18 20) Mm (ky kk 20 18) (ky kk N1 N0) Ff).length = Mm.length + (ky kk N1 N0).length + 2 + Ff.length := by unfold pcs; simp; omega
                omega)
              obtain ⟨au, cu, huu, _⟩ := hKR.lies
              subst huu
              have hP5 := hZ.pw.new k5
              have hq9 : x0.heap.size + 1 < Wj.heap.size := Nat.lt_of_lt_of_le hZ.pw.hi hZ.pw.kh.sz
              have hf9 := hP5.fr9 kk
              have hc9 := hP5.v kk hkk
              have hP6 := (hP5.put9 kk hkk (.slice au K2.length cu)).base
              have kh6 : KH (x0.heap.size + 1) Y3 (w5.setCell ⟨x0.heap.size + 1, kk, none⟩ (.slice au K2.length cu)) := hP5.kh.step (keeps_cell w5 (x0.heap.size + 1) kk (.slice au K2.length cu)) (fun i e => .inl (by omega))
              have hKR6 : KR (w5.setCell ⟨x0.heap.size + 1, kk, none⟩ (.slice au K2.length cu)) (.slice au K2.length cu) (Mm.map Prod.snd) := by
                rw [hMm]
                exact hKR.kh (hAb _ hq9) ((KH.refl _ w5).step (keeps_cell w5 (x0.heap.size + 1) kk (.slice au K2.length cu)) (fun i e => .inl (by omega)))
              have hK6 := HZ2.out.pk.put kh6 kk hkk hKR6 (hAb _ hq9) hRm
              obtain ⟨P0, hP0⟩ : ∃ P, ky kk Mm N0 = P := ⟨_, rfl⟩
              obtain ⟨P1, hP1⟩ : ∃ P, ky kk N1 Mm = P := ⟨_, rfl⟩
              obtain ⟨U0, hU0⟩ : ∃ U, ky kk (.slice au K2.length cu) (Value.slice a0 N0.length e0) = U := ⟨_, rfl⟩
              obtain ⟨U1, hU1⟩ : ∃ U, ky kk (Value.slice a1 N1.length e1) (.slice au K2.length cu) = U := ⟨_, rfl⟩
              rw [hU0, hU1] at hP6
              rw [hP0, hP1, hU0, hU1] at hK6
              obtain ⟨A0, C0, rfl⟩ : ∃ a c, U0 = .slice a P0.length c := by obtain ⟨a, c, h, _⟩ := hK6.r0.lies; exact ⟨a, c, by rw [h, List.length_map]⟩
              obtain ⟨A1, C1, rfl⟩ : ∃ a c, U1 = .slice a P1.length c := by obtain ⟨a, c, h, _⟩ := hK6.r1.lies; exact ⟨a, c, by rw [h, List.length_map]⟩
              have hln6 := hK6.len
              have HR5 := hid hrun
              have HP6 := hid hP6
              have HK6 := hid hK6
              have hz5 : IntKind.i64.wrap ((P0.length : Int) + (P1.length : Int)) = ((P0.length + P1.length : Nat) : Int) := by rw [IntKind.wrap_i64]; omega
              obtain ⟨oldv, hold⟩ : ∃ oldv, ky kk (Value.slice a0 N0.length e0) (.slice a1 N1.length e1) = oldv := ⟨_, rfl⟩
              rw [hold] at hc9
              clear hrj hZ hL' hrun k5 hKR hAb hP5 hq9 hP6 kh6 hKR6 hK6 hP0 hP1 hU0 hU1 hRm hMm hold HZ2
              go_wp2_with (at_builtin; refine wpList_append_run rfl _ _ 30 rfl rfl rfl HR5.out ?_; clear HR5)
              clear hf9 hc9 y2
              generalize (w5.setCell ⟨x0.heap.size + 1, kk, none⟩ (.slice au K2.length cu)) = W6 at HP6 HK6 ⊢
              go_wp2_with fail
              go_loopw [21] (fun jv wr' => ∃ j : Nat, j ≤ 2 ∧ jv = .int .i64 (j : Int) ∧ Hid (Pw w b g c x0.heap.size (x0.heap.size + 1) W6 wr' s1 (.slice A0 P0.length C0) (.slice A1 P1.length C1))) (fun jv _ => 2 - (intOf jv).toNat)
              case atStart => exact ⟨0, by omega, rfl, HP6⟩
              case round =>
                obtain ⟨j, hj2, rfl, hrj⟩ := hrel
                clear HP6
                generalize wr = Wi at *
                by_cases hlj2 : j < 2
                · have hlj2' : (j : Int) < 2 := by omega
                  obtain ⟨hk1, hk2, Fj, hk3⟩ := HK6.out.at_ j hlj2
                  have hst := stands_at hk3
                  have hcst : ((ky j 18 20 : Nat) : Int) = (ky j 18 20 : Int) := by
                    rcases (show j = 0 ∨ j = 1 by omega) with rfl | rfl <;> rfl
                  rw [hcst] at hst
                  have y0 := hrj.out.wd.cell0
                  obtain ⟨ag, hag⟩ : ∃ ag, adr g c = ag := ⟨_, rfl⟩
                  rw [hag] at y0
                  have y7 := hrj.out.a j hlj2
                  have HLW : Hid (∀ q, Lies (Wi.drewN q) (.slice ag s1.W.length c) s1.W) := hid (fun q => by rw [← hag]; exact (hrj.out.new ((Keeps.refl _ _).drewN q)).wd.lies)
                  have HST := hid (And.intro hst hk3.ws)
                  have hlen1 : s1.W.length ≤ 1000000 := by rw [hk3.len]; have := hk3.n200; omega
                  obtain ⟨aj, cj, hvj, _⟩ := hk1.lies
                  have HKJ : Hid (KR W6 (.slice aj ((ky j P0 P1).map Prod.snd).length cj) ((ky j P0 P1).map Prod.snd) ∧ Ab (x0.heap.size + 1) (.slice aj ((ky j P0 P1).map Prod.snd).length cj)) := by rw [← hvj]; exact hid ⟨hk1, hk2⟩
                  have HVJ := hid hvj
                  have hlj6 : ((ky j P0 P1).map Prod.snd).length ≤ 1000 := by
                    rw [List.length_map]
                    rcases (show j = 0 ∨ j = 1 by omega) with rfl | rfl
                    · exact Nat.le_trans hln6.1 (by omega)
                    · exact Nat.le_trans hln6.2 (by omega)
                  obtain ⟨KJ, hKJ⟩ : ∃ KJ, (ky j P0 P1).map Prod.snd = KJ := ⟨_, rfl⟩
                  rw [hKJ] at HKJ HVJ HST hlj6
                  clear hk1 hk2 hk3 hst hcst hvj hKJ
                  go_wp2_with fail
                  refine wp_region_segs [(true, 7), (false, 1), (true, 5)] (by kernel_rfl) (by kernel_rfl) ?_
                  intro qa
                  simp only [wpSeg, List.take_succ_cons, List.take_zero, List.drop_succ_cons, List.drop_zero]
                  repeat (go_big_quiet_step (fail))
                  refine wpQuiet_nil ?_
                  intro _ hw'
                  obtain ⟨qb, hw''⟩ := hw'
                  subst hw''
                  try simp only [World.drewN_drewN]
                  intro Kz hKz
                  go_wp2_with fail
                  refine (stands_any _ s1.W (ky j 18 20) (ky_isW hlj2) HST.out.2 hlen1 _ (HLW.out _)).mono ?_
                  rintro e_ w7 ⟨v7, rfl, hv7, k7⟩
                  rw [HST.out.1] at hv7 ⊢
                  dsimp only at hv7 ⊢
                  obtain ⟨a7, c7, hf7⟩ := hv7.form
                  subst hf7
                  have HP7 : Hid (∀ X, Keeps (fun _ => False) w7 X → Pw w b g c x0.heap.size (x0.heap.size + 1) W6 X s1 (.slice A0 P0.length C0) (.slice A1 P1.length C1) ∧ Lies X (.slice a7 KJ.length c7) KJ) := hid (fun X kX => ⟨hrj.out.new (((Keeps.refl _ _).drewN _).trans (k7.trans kX)), hv7.lies.keeps kX (fun _ _ _ _ f => f)⟩)
                  clear y0 y7 hrj hv7 k7 HLW hag
                  go_wp2_with fail
                  repeat (go_big_quiet_step (fail))
                  refine wpQuiet_nil ?_
                  intro _ hw'
                  obtain ⟨qc, hw''⟩ := hw'
                  subst hw''
                  try simp only [World.drewN_drewN]
                  have h7 := HP7.out (w7.drewN qc) ((Keeps.refl _ _).drewN _)
                  have y9 := h7.1.v j hlj2
                  rw [HVJ.out] at y9
                  have HL7 := hid (And.intro h7.2 (HKJ.out.1.kh HKJ.out.2 h7.1.kh).lies)
                  clear h7
                  go_wp2_with fail
                  refine (words_same _ _ KJ (by omega) _ HL7.out.1 HL7.out.2).mono ?_
                  rintro e_ w8 ⟨rfl, m8, hw8⟩
                  have HF : Hid (Pw w b g c x0.heap.size (x0.heap.size + 1) W6 w8 s1 (.slice A0 P0.length C0) (.slice A1 P1.length C1)) := hid (HP7.out w8 (by rw [hw8]; exact ((Keeps.refl _ _).drewN _).drewN _)).1
                  clear hw8 HL7 y9 HP7 HKJ HVJ HST
                  go_wp2_with fail
                  go_roundw
                  case rel => exact ⟨j + 1, by omega, by go_num, HF⟩
                  case measure => simp [intOf]; omega
                · have hlj2' : ¬ (j : Int) < 2 := by omega
                  obtain ⟨Fj, hk3⟩ := HK6.out.rm
                  have y0 := hrj.out.v 0 (by omega)
                  have y1 := hrj.out.v 1 (by omega)
                  rw [show ky 0 (Value.slice A0 P0.length C0) (.slice A1 P1.length C1) = .slice A0 P0.length C0 from rfl] at y0
                  rw [show ky 1 (Value.slice A0 P0.length C0) (.slice A1 P1.length C1) = .slice A1 P1.length C1 from rfl] at y1
                  have HLF := hid (lefts_any b g c m 18 20 s1 P0 P1 Fj hk3 Wi hrj.out.wd)
                  have HPJ := hid hrj.out
                  clear hk3 hrj
                  go_wp2_with fail
                  refine HLF.out.mono ?_
                  rintro e_ w9 ⟨rfl, k9⟩
                  have hp9 := HPJ.out.new k9
                  have HF : Hid (∃ s v0 v1 N0 N1, Pw w b g c x0.heap.size (x0.heap.size + 1) w9 w9 s v0 v1 ∧ Pk w9 (x0.heap.size + 1) m s.W v0 v1 N0 N1 ∧ s.f = -1) := hid ⟨s1, _, _, P0, P1, hp9.base, HK6.out.kh hp9.kh, HPZ.out.f⟩
                  clear HLF HPJ HK6 hp9 k9 y0 y1 HPZ
                  go_wp2_with fail

                  go_roundw

                  case rel => exact ⟨k + 1, by omega, by simp, HF⟩
                  case measure => simp [intOf]; omega
      · have hkn0 : ¬ (k : Int) < (n : Int) := by omega
        obtain ⟨s, v0, v1, N0, N1, hE, hP, hf⟩ := hr.out
        have HF : Hid (Keeps (fun _ => False) w wr) := hid hE.k
        clear hr hE hP hf HO
        go_wp2_with fail
        refine (known_any _).mono ?_
        rintro e_ w9 ⟨rfl, k9⟩
        have HE9 := hid (HF.out.trans k9)
        clear HF k9
        go_wp2_with fail
        go_ret
        exact ⟨rfl, HE9.out⟩
end Go.Proofs.Ytmnbilhblkobdaa
