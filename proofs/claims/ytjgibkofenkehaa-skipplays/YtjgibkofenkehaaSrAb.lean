
/- The walks of the document's Give, Lay and New (layer 22). No statement of the seat is proved here. -/
import Derived.Test.YtjgibkofenkehaaSrA
import Derived.Test.YtjgibkofenkehaaSkL
namespace Go.Proofs.Ytjgibkofenkehaa
open Go.RowKit

set_option maxHeartbeats 2000000 in
theorem rgive_any (b g c : Nat) (s : Wd) (a p n : Int) (hp : isW p) (hm : mayN n) (rms : Rm s 3) (w : World) (h : WdAt 30 w b g c s) :
    Calls Try.prog 68 #[.pointer (some ⟨b, 0, none⟩), .int .u64 a, .int .u64 p, .int .u64 n] w fun e w' => e = .returned (.int .i64 (s.give a p n).1) ∧ Hs 30 w b g c w' (s.give a p n).2 := by
  have oks : s.Ok := h.ok
  have HH := hid (Hs.start h)
  clear h
  obtain ⟨⟨⟨x, e⟩, s1⟩, eq1⟩ : ∃ r, s.get (hdA a n) = r := ⟨_, rfl⟩
  have hwx : isW x := get_isW eq1 oks
  have oks1 : s1.Ok := by have q := (oks.get (hdA a n)).1; rw [eq1] at q; exact q
  have rms1 : Rm s1 2 := rms.get eq1
  by_cases hze : e = 0
  · subst hze
    obtain ⟨⟨f, s2⟩, eq2⟩ : ∃ r, s1.put (p) (x) = r := ⟨_, rfl⟩
    have oks2 : s2.Ok := by have q := oks1.put (p) (hwx : isW (x)); rw [eq2] at q; exact q
    have rms2 : Rm s2 1 := rms1.put eq2
    by_cases hzf : f = 0
    · subst hzf
      obtain ⟨⟨f2, s3⟩, eq3⟩ : ∃ r, s2.put (hdA a n) (uw (p + 1)) = r := ⟨_, rfl⟩
      have oks3 : s3.Ok := by have q := oks2.put (hdA a n) ((uw_isW _) : isW (uw (p + 1))); rw [eq3] at q; exact q
      have rms3 : Rm s3 0 := rms2.put eq3
      have hs : s.give a p n = (f2, s3) := by
        unfold Wd.give
        simp [eq1, eq2, eq3, hm]
      rw [hs]
      have HE1 : Hid (_ = _) := eq1
      have HE2 : Hid (_ = _) := eq2
      have HE3 : Hid (_ = _) := eq3
      clear hs eq1 eq2 eq3
      go_enter Try.func68, Try.ntmps68
      go_wp2_with fail
      have hh := HH.out
      refine (wget_r HE1 (uw_isW _) (rms.le (by omega)) hh.wd).mono ?_
      rintro e_ w1 ⟨rfl, h1⟩
      replace HH := hid (hh.trans h1)
      clear hh h1
      go_wp2_with fail
      have hh := HH.out
      refine (wput_r HE2 hp hwx (rms1.le (by omega)) hh.wd).mono ?_
      rintro e_ w2 ⟨rfl, h2⟩
      replace HH := hid (hh.trans h2)
      clear hh h2
      go_wp2_with fail
      have hh := HH.out
      refine (wput_r HE3 (uw_isW _) (uw_isW _) (rms2.le (by omega)) hh.wd).mono ?_
      rintro e_ w3 ⟨rfl, h3⟩
      replace HH := hid (hh.trans h3)
      clear hh h3
      go_wp2_with fail
      go_ret
      exact ⟨rfl, HH.out⟩
    · skip
      have hs : s.give a p n = (f, s2) := by
        unfold Wd.give
        simp [eq1, eq2, hzf, hm]
      rw [hs]
      have HE1 : Hid (_ = _) := eq1
      have HE2 : Hid (_ = _) := eq2
      clear hs eq1 eq2
      go_enter Try.func68, Try.ntmps68
      go_wp2_with fail
      have hh := HH.out
      refine (wget_r HE1 (uw_isW _) (rms.le (by omega)) hh.wd).mono ?_
      rintro e_ w1 ⟨rfl, h1⟩
      replace HH := hid (hh.trans h1)
      clear hh h1
      go_wp2_with fail
      have hh := HH.out
      refine (wput_r HE2 hp hwx (rms1.le (by omega)) hh.wd).mono ?_
      rintro e_ w2 ⟨rfl, h2⟩
      replace HH := hid (hh.trans h2)
      clear hh h2
      go_wp2_with fail
      go_ret
      exact ⟨rfl, HH.out⟩
  · skip
    have hs : s.give a p n = (e, s1) := by
      unfold Wd.give
      simp [eq1, hze, hm]
    rw [hs]
    have HE1 : Hid (_ = _) := eq1
    clear hs eq1
    go_enter Try.func68, Try.ntmps68
    go_wp2_with fail
    have hh := HH.out
    refine (wget_r HE1 (uw_isW _) (rms.le (by omega)) hh.wd).mono ?_
    rintro e_ w1 ⟨rfl, h1⟩
    replace HH := hid (hh.trans h1)
    clear hh h1
    go_wp2_with fail
    go_ret
    exact ⟨rfl, HH.out⟩
theorem rgive_r {b g c : Nat} {s : Wd} {a p n : Int} {e1 : Int} {s1 : Wd} (heq : Hid (s.give a p n = (e1, s1))) (hp : isW p) (hm : mayN n) (rms : Rm s 3) {w : World} (h : WdAt 30 w b g c s) :
    Calls Try.prog 68 #[.pointer (some ⟨b, 0, none⟩), .int .u64 a, .int .u64 p, .int .u64 n] w fun e w' => e = .returned (.int .i64 e1) ∧ Hs 30 w b g c w' s1 := by
  have q := rgive_any b g c s a p n hp hm rms w h
  rw [heq.out] at q
  exact q
set_option maxHeartbeats 2000000 in
theorem rslay_any (b g c : Nat) (s : Wd) (a : Int) (rms : Rm s 8) (w : World) (h : WdAt 30 w b g c s) :
    Calls Try.prog 31 #[.pointer (some ⟨b, 0, none⟩), .int .u64 a] w fun e w' => e = .returned (.int .i64 (s.slay a).1) ∧ Hs 30 w b g c w' (s.slay a).2 := by
  have HH := hid (Hs.start h)
  clear h
  unfold Wd.slay
  go_enter Try.func31, Try.ntmps31
  go_wp2_with fail
  go_loopw [5] (fun kv wr => ∃ k : Nat, k ≤ 8 ∧ kv = .int .u64 (k : Int) ∧ (slay a k s).1 = 0 ∧ Hid (Hs 30 w b g c wr (slay a k s).2)) (fun kv _ => 8 - (intOf kv).toNat)
  case atStart => exact ⟨0, by omega, rfl, rfl, HH⟩
  case round =>
    obtain ⟨k, hk, rfl, hz, HY⟩ := hrel
    clear HH
    by_cases hlt : k < 8
    · have hki : (k : Int) < 8 := by omega
      have hwk : IntKind.u64.wrap ((k : Int) + 1) = (k : Int) + 1 := by rw [IntKind.wrap_u64]; omega
      have hrm : Rm (slay a k s).2 1 := by
        have q := slay_len a s k
        unfold Rm at rms ⊢; omega
      obtain ⟨⟨e, s1⟩, eqp⟩ : ∃ r, (slay a k s).2.put (uw (a + k)) 0 = r := ⟨_, rfl⟩
      have HN : Hid (slay a (k + 1) s = (e, s1)) := by
        show (if (slay a k s).1 = 0 then (slay a k s).2.put (uw (a + k)) 0 else slay a k s) = _
        rw [if_pos hz]
        exact eqp
      have HE : Hid (_ = _) := eqp
      clear eqp hz hlt
      go_wp2_with fail
      refine (wput_r HE (uw_isW _) zero_isW hrm HY.out.wd).mono ?_
      rintro e_ w1 ⟨rfl, h1⟩
      have H1 := hid (HY.out.trans h1)
      clear HY HE h1 hrm
      by_cases he : e = 0
      · subst he
        go_wp2_with fail
        go_roundw
        case rel => exact ⟨k + 1, by omega, by simp, by rw [HN.out], by rw [HN.out]; exact H1⟩
        case measure => simp [intOf]; omega
      · have HST : Hid (slay a 8 s = (e, s1)) := by
          have q := slay_stop a s (k + 1) (by rw [HN.out]; exact he) (8 - (k + 1))
          rw [show k + 1 + (8 - (k + 1)) = 8 by omega, HN.out] at q
          exact q
        go_wp2_with fail
        go_ret
        rw [HST.out]
        exact ⟨rfl, H1.out⟩
    · obtain rfl : k = 8 := by omega
      clear hlt hk
      go_wp2_with fail
      go_ret
      rw [hz]
      exact ⟨rfl, HY.out⟩
theorem rslay_r {b g c : Nat} {s : Wd} {a e1 : Int} {s1 : Wd} (heq : Hid (s.slay a = (e1, s1))) (rms : Rm s 8) {w : World} (h : WdAt 30 w b g c s) :
    Calls Try.prog 31 #[.pointer (some ⟨b, 0, none⟩), .int .u64 a] w fun e w' => e = .returned (.int .i64 e1) ∧ Hs 30 w b g c w' s1 := by
  have q := rslay_any b g c s a rms w h
  rw [heq.out] at q
  exact q
theorem may8 : mayN 8 := ⟨by omega, by omega⟩
set_option maxHeartbeats 2000000 in
theorem rsnew_any (b g c : Nat) (s : Wd) (room : Int) (hr : isW room) (rms : Rm s 12) (w : World) (h : WdAt 30 w b g c s) :
    Calls Try.prog 32 #[.pointer (some ⟨b, 0, none⟩), .int .u64 room] w fun e w' => e = .returned (.tuple #[.int .u64 (s.snew room).1.1, .int .i64 (s.snew room).1.2]) ∧ Hs 30 w b g c w' (s.snew room).2 := by
  have oks : s.Ok := h.ok
  have HH := hid (Hs.start h)
  clear h
  obtain ⟨⟨⟨x, e⟩, s1⟩, eq1⟩ : ∃ r, s.take room 8 = r := ⟨_, rfl⟩
  have rms1 : Rm s1 8 := Rm.take (k := 8) rms eq1
  by_cases hze : e = 0
  · subst hze
    obtain ⟨⟨f, s2⟩, eq2⟩ : ∃ r, s1.slay x = r := ⟨_, rfl⟩
    by_cases hzf : f = 0
    · subst hzf
      have hs : s.snew room = ((x, 0), s2) := by
        unfold Wd.snew
        simp [eq1, eq2]
      rw [hs]
      have HE1 : Hid (_ = _) := eq1
      have HE2 : Hid (_ = _) := eq2
      clear hs eq1 eq2
      go_enter Try.func32, Try.ntmps32
      go_wp2_with fail
      have hh := HH.out
      refine (rtake_r HE1 hr may8 (rms.le (by omega)) hh.wd).mono ?_
      rintro e_ w1 ⟨rfl, h1⟩
      replace HH := hid (hh.trans h1)
      clear hh h1
      go_wp2_with fail
      have hh := HH.out
      refine (rslay_r HE2 (rms1.le (by omega)) hh.wd).mono ?_
      rintro e_ w2 ⟨rfl, h2⟩
      replace HH := hid (hh.trans h2)
      clear hh h2
      go_wp2_with fail
      go_ret2
      exact ⟨rfl, HH.out⟩
    · skip
      have hs : s.snew room = ((0, f), s2) := by
        unfold Wd.snew
        simp [eq1, eq2, hzf]
      rw [hs]
      have HE1 : Hid (_ = _) := eq1
      have HE2 : Hid (_ = _) := eq2
      clear hs eq1 eq2
      go_enter Try.func32, Try.ntmps32
      go_wp2_with fail
      have hh := HH.out
      refine (rtake_r HE1 hr may8 (rms.le (by omega)) hh.wd).mono ?_
      rintro e_ w1 ⟨rfl, h1⟩
      replace HH := hid (hh.trans h1)
      clear hh h1
      go_wp2_with fail
      have hh := HH.out
      refine (rslay_r HE2 (rms1.le (by omega)) hh.wd).mono ?_
      rintro e_ w2 ⟨rfl, h2⟩
      replace HH := hid (hh.trans h2)
      clear hh h2
      go_wp2_with fail
      go_ret2
      exact ⟨rfl, HH.out⟩
  · skip
    have hs : s.snew room = ((0, e), s1) := by
      unfold Wd.snew
      simp [eq1, hze]
    rw [hs]
    have HE1 : Hid (_ = _) := eq1
    clear hs eq1
    go_enter Try.func32, Try.ntmps32
    go_wp2_with fail
    have hh := HH.out
    refine (rtake_r HE1 hr may8 (rms.le (by omega)) hh.wd).mono ?_
    rintro e_ w1 ⟨rfl, h1⟩
    replace HH := hid (hh.trans h1)
    clear hh h1
    go_wp2_with fail
    go_ret2
    exact ⟨rfl, HH.out⟩
theorem rsnew_r {b g c : Nat} {s : Wd} {room : Int} {x1 e1 : Int} {s1 : Wd} (heq : Hid (s.snew room = ((x1, e1), s1))) (hr : isW room) (rms : Rm s 12) {w : World} (h : WdAt 30 w b g c s) :
    Calls Try.prog 32 #[.pointer (some ⟨b, 0, none⟩), .int .u64 room] w fun e w' => e = .returned (.tuple #[.int .u64 x1, .int .i64 e1]) ∧ Hs 30 w b g c w' s1 := by
  have q := rsnew_any b g c s room hr rms w h
  rw [heq.out] at q
  exact q
end Go.Proofs.Ytjgibkofenkehaa
