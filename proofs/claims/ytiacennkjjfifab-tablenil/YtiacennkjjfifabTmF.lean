
/- The walk of part (layer 25). No statement of the seat is proved here. -/
import Derived.Test.YtiacennkjjfifabTmE
namespace Go.Proofs.Ytiacennkjjfifab
open Go.RowKit

theorem Rm.snew {s s1 : Wd} {room x e : Int} {j : Nat} (h : Rm s (j + 20)) (heq : s.snew room = ((x, e), s1)) : Rm s1 j := by
  unfold Wd.snew at heq
  obtain ⟨⟨⟨a, f⟩, s2⟩, h1⟩ : ∃ r, s.take room 16 = r := ⟨_, rfl⟩
  rw [h1] at heq
  dsimp only at heq
  have r2 : Rm s2 (j + 16) := Rm.take (k := j + 16) h h1
  by_cases hf : f = 0
  · rw [if_neg (fun q => q hf)] at heq
    obtain ⟨⟨f2, s3⟩, h2⟩ : ∃ r, s2.slay a = r := ⟨_, rfl⟩
    rw [h2] at heq
    dsimp only at heq
    have r3 : Rm s3 j := Rm.slay (k := j) r2 h2
    by_cases hf2 : f2 = 0
    · rw [if_neg (fun q => q hf2)] at heq
      simp only [Prod.mk.injEq] at heq
      rw [← heq.2]
      exact r3
    · rw [if_pos hf2] at heq
      simp only [Prod.mk.injEq] at heq
      rw [← heq.2]
      exact r3
  · rw [if_pos hf] at heq
    simp only [Prod.mk.injEq] at heq
    rw [← heq.2]
    exact r2.le (by omega)
theorem snew_ok {s s1 : Wd} {room x e : Int} (h : s.Ok) (heq : s.snew room = ((x, e), s1)) : isW x ∧ s1.Ok := by
  unfold Wd.snew at heq
  obtain ⟨⟨⟨a, f⟩, s2⟩, h1⟩ : ∃ r, s.take room 16 = r := ⟨_, rfl⟩
  have q := h.take room 16
  rw [h1] at heq q
  dsimp only at heq
  by_cases hf : f = 0
  · rw [if_neg (fun q => q hf)] at heq
    obtain ⟨⟨f2, s3⟩, h2⟩ : ∃ r, s2.slay a = r := ⟨_, rfl⟩
    have q2 : s3.Ok := by
      have z := slay_ok a s2 q.1 16
      have z2 : Go.Proofs.Ytiacennkjjfifab.slay a 16 s2 = (f2, s3) := h2
      rw [z2] at z
      exact z
    rw [h2] at heq
    dsimp only at heq
    by_cases hf2 : f2 = 0
    · rw [if_neg (fun q => q hf2)] at heq
      simp only [Prod.mk.injEq] at heq
      rw [← heq.2, ← heq.1.1]
      exact ⟨q.2, q2⟩
    · rw [if_pos hf2] at heq
      simp only [Prod.mk.injEq] at heq
      rw [← heq.2, ← heq.1.1]
      exact ⟨zero_isW, q2⟩
  · rw [if_pos hf] at heq
    simp only [Prod.mk.injEq] at heq
    rw [← heq.2, ← heq.1.1]
    exact ⟨zero_isW, q.1⟩
/-- While a leaf is pushed down: the tx, and the box of where the way ended. -/
structure Pd (w : World) (b g c : Nat) (e : En) (X : World) (s : Wd) : Prop where
  hs : Hs 65 w b g c X s
  bx : Lo X b g w.heap.size (.cells (enC e) 50 (0, 0))
theorem Pd.acc {w X X' : World} {b g c : Nat} {e : En} {s s' : Wd} (h : Pd w b g c e X s) (k : Hs 65 X b g c X' s') : Pd w b g c e X' s' := ⟨h.hs.trans k, h.bx.hs k⟩
set_option maxRecDepth 100000 in
set_option maxHeartbeats 8000000 in
theorem part_any {b g c : Nat} {s s1 : Wd} {room k v e1 : Int} {E : En} (heq : Hid (partF room E k v s = (((), e1), s1))) (hr : isW room) (hk : isW k) (hv : isW v) (hE : E.Ok) (rms : Rm s 330) {w : World} (h : WdAt 65 w b g c s) :
    Calls Try.prog 34 #[E.v, .iface 62 (.pointer (some ⟨b, 0, none⟩)), .int .u64 room, .int .u64 k, .int .u64 v] w fun e w' => e = .returned (.int .i64 e1) ∧ Hs 65 w b g c w' s1 := by
  have mp := meth_put b
  have np := nil_put b
  have HE := hid hE
  have hd15 := hE.d
  have hwd0 : IntKind.i64.wrap ((E.d : Int) + 1) = ((E.d + 1 : Nat) : Int) := by rw [IntKind.wrap_i64]; omega
  have HP : Hid (Pd w b g c E (w.alloc (.cells (enC E) 50)) s ∧ partK room E k v (16 - (E.d + 1)) E.cell (E.d + 1) s = (((), e1), s1) ∧ Rm s (21 * (16 - (E.d + 1)) + 8) ∧ isW E.cell) := by
    have q := heq.out
    unfold partF at q
    rw [show 15 - E.d = 16 - (E.d + 1) by omega] at q
    exact hid ⟨⟨(Hs.start h).new (keeps_new w _), Lo.new h _⟩, q, rms.le (by omega), hE.cell⟩
  have he := HP.out.1.bx.at_
  have ce0 : (w.alloc (.cells (enC E) 50)).cell? ⟨w.heap.size, 0, none⟩ = some (.int .u64 E.cell) := by rw [cell_of_block he]; rfl
  have ce2 : (w.alloc (.cells (enC E) 50)).cell? ⟨w.heap.size, 2, none⟩ = some (.int .i64 E.d) := by rw [cell_of_block he]; rfl
  clear heq h rms hE he
  unfold En.v
  dsimp only [enC] at ce0 ce2 ⊢
  go_enter Try.func34, Try.ntmps34
  go_wp2_with fail
  go_loopw [11, 12] (fun cv dv wr => ∃ (d : Nat) (cell : Int) (s' : Wd), cv = .int .u64 cell ∧ dv = .int .i64 d ∧ d ≤ 16 ∧ Hid (Pd w b g c E wr s' ∧ partK room E k v (16 - d) cell d s' = (((), e1), s1) ∧ Rm s' (21 * (16 - d) + 8) ∧ isW cell)) (fun _ dv _ => 16 - (intOf dv).toNat)
  case atStart => exact ⟨E.d + 1, E.cell, s, rfl, rfl, by omega, HP⟩
  case round =>
    obtain ⟨d, cell, s', rfl, rfl, hd, HJ⟩ := hrel
    clear HP ce0 ce2
    by_cases hd16 : d < 16
    · obtain ⟨m, hm⟩ : ∃ m, 16 - d = m + 1 := ⟨15 - d, by omega⟩
      have hJ := HJ.out
      rw [hm] at hJ
      have hJ2 := hJ.2.1
      unfold partK at hJ2
      obtain ⟨a, f1, s2, h1, h2, h3⟩ := bnd_step hJ2
      have hn : s'.snew room = ((a, f1), s2) := h1
      have q := snew_ok hJ.1.hs.wd.ok hn
      have HA := hid q.1
      have HN := hid (snew_r (hid hn) hr (hJ.2.2.1.le (by omega)) hJ.1.hs.wd)
      have R2 : Hid (Rm s2 (21 * m + 9)) := hid (Rm.snew (j := 21 * m + 9) (hJ.2.2.1.le (by omega)) hn)
      have H2 := hid h2
      have H3 := hid h3
      have HC := hid hJ.2.2.2
      have HPd := hid hJ.1
      have HM := hid hm
      have HD := hid hd16
      have hd' : (d : Int) < 16 := by omega
      have hwd : IntKind.i64.wrap ((d : Int) + 1) = ((d + 1 : Nat) : Int) := by rw [IntKind.wrap_i64]; omega
      clear hJ hJ2 h1 h2 h3 hn q hm HJ hd
      go_wp2_with fail
      refine HN.out.mono ?_
      rintro e_ w2 ⟨rfl, k2⟩
      replace HPd := hid (HPd.out.acc k2)
      clear k2 HN
      by_cases hf1 : f1 = 0
      rotate_left
      · obtain ⟨rfl, rfl, _⟩ := H3.out hf1
        go_wp2_with fail
        go_ret
        exact ⟨rfl, HPd.out.hs⟩
      subst hf1
      obtain ⟨u1, f2, s3, h1, h2, h3⟩ := bnd_step (H2.out rfl)
      have h1' : s2.put cell (nodeW a) = (f2, s3) := by
        unfold putU at h1
        simp only [Prod.mk.injEq] at h1
        exact Prod.ext h1.1.2 h1.2
      have R3 : Hid (Rm s3 (21 * m + 8)) := hid (R2.out.put h1')
      have HU := hid h1'
      clear H2 H3
      have H2 := hid h2
      have H3 := hid h3
      clear h1 h1' h2 h3
      go_wp2_with fail
      go_region_held3 (fun _ : World => True) (exact trivial) (first
        | (go_at_call 44; refine (nodeAt_any a _).mono ?_; rintro e w' ⟨rfl, rfl⟩)
        | (go_at_call 67; refine (tput_r HU HC.out (uw_isW _) (R2.out.le (by omega)) HPd.out.hs.drew.wd).mono ?_; rintro e w3 ⟨rfl, k3⟩))
      all_goals
        have HPe : Hid (Pd w b g c E w3 s3) := hid ((⟨HPd.out.hs.drew, HPd.out.bx.like rfl⟩ : Pd w b g c E w2.drew s2).acc k3)
        clear k3 HPd HU
        by_cases hf2 : f2 = 0
        rotate_left
        · obtain ⟨rfl, rfl, _⟩ := H3.out hf2
          go_wp2_with fail
          go_ret
          exact ⟨rfl, HPe.out.hs⟩
        subst hf2
        have HH4 := hid (H2.out rfl)
        clear H2 H3
        have he := HPe.out.bx.at_
        have ce1 : w3.cell? ⟨w.heap.size, 1, none⟩ = some (.int .u64 E.word) := by rw [cell_of_block he]; rfl
        have ce5 : w3.cell? ⟨w.heap.size, 5, none⟩ = some (.int .u64 E.key) := by rw [cell_of_block he]; rfl
        clear he
        go_wp2_with fail
        refine (digit_any E.key d HD.out _).mono ?_
        rintro e_ w_ ⟨rfl, hw_⟩
        subst w_
        go_wp2_with fail
        refine (digit_any k d HD.out _).mono ?_
        rintro e_ w_ ⟨rfl, hw_⟩
        subst w_
        have h4 := HH4.out
        clear HH4
        by_cases hq : uw (a + dgK E.key d) = uw (a + dgK k d)
        · rw [if_pos hq] at h4
          have hqb : (IntKind.u64.wrap (a + dgK E.key d) == IntKind.u64.wrap (a + dgK k d)) = true := by
            have z : IntKind.u64.wrap (a + dgK E.key d) = IntKind.u64.wrap (a + dgK k d) := hq
            rw [z]
            simp
          have HX : Hid (Pd w b g c E w3 s3 ∧ partK room E k v (16 - (d + 1)) (IntKind.u64.wrap (a + dgK k d)) (d + 1) s3 = (((), e1), s1) ∧ Rm s3 (21 * (16 - (d + 1)) + 8) ∧ isW (IntKind.u64.wrap (a + dgK k d))) := by
            have := HM.out
            rw [show 16 - (d + 1) = m by omega]
            exact hid ⟨HPe.out, h4, R3.out, uw_isW _⟩
          clear h4 hq HPe R3 R2
          go_wp2_with fail
          go_roundw
          case rel => exact ⟨d + 1, _, s3, rfl, by simp, by have := HD.out; omega, HX⟩
          case measure => simp [intOf]; omega
        · rw [if_neg hq] at h4
          have hqb : (IntKind.u64.wrap (a + dgK E.key d) == IntKind.u64.wrap (a + dgK k d)) = false := by simpa [uw] using hq
          obtain ⟨u2, f3, s4, h1, h2, h3⟩ := bnd_step h4
          have h1' : s3.put (uw (a + dgK E.key d)) E.word = (f3, s4) := by
            unfold putU at h1
            simp only [Prod.mk.injEq] at h1
            exact Prod.ext h1.1.2 h1.2
          have R4 : Hid (Rm s4 (21 * m + 7)) := hid (R3.out.put h1')
          have HU := hid h1'
          clear h4 hq
          have H2 := hid h2
          have H3 := hid h3
          clear h1 h1' h2 h3
          go_wp2_with fail
          refine (tput_r HU (uw_isW _) HE.out.word (R3.out.le (by omega)) HPe.out.hs.wd).mono ?_
          rintro e_ w4 ⟨rfl, k4⟩
          replace HPe := hid (HPe.out.acc k4)
          clear k4 HU ce1 ce5
          by_cases hf3 : f3 = 0
          rotate_left
          · obtain ⟨rfl, rfl, _⟩ := H3.out hf3
            go_wp2_with fail
            go_ret
            exact ⟨rfl, HPe.out.hs⟩
          subst hf3
          have HG := hid (H2.out rfl)
          clear H2 H3
          go_wp2_with fail
          refine (hang_any HG hr (uw_isW _) hk hv (R4.out.le (by omega)) HPe.out.hs.wd).mono ?_
          rintro e_ w5 ⟨rfl, k5⟩
          have HL := hid (HPe.out.hs.trans k5)
          clear k5 HG
          go_wp2_with fail
          go_ret
          exact ⟨rfl, HL.out⟩
    · obtain rfl : d = 16 := by omega
      have h4 := HJ.out.2.1
      obtain ⟨_, rfl, rfl⟩ := err_eq (x := ()) h4
      clear h4 hd hd16
      go_wp2_with fail
      go_ret
      exact ⟨rfl, HJ.out.1.hs⟩
end Go.Proofs.Ytiacennkjjfifab
