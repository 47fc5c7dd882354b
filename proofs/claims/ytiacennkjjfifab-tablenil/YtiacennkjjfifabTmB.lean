
/- The walks of Lay and New (layer 25). No statement of the seat is proved here. -/
import Derived.Test.YtiacennkjjfifabTmA
import Derived.Test.YtiacennkjjfifabTkDd
namespace Go.Proofs.Ytiacennkjjfifab
open Go.RowKit

theorem slay_len (a : Int) (s : Wd) : ∀ k, (slay a k s).2.L.length ≤ s.L.length + k
  | 0 => Nat.le_refl _
  | k + 1 => by
    have ih := slay_len a s k
    show (if (slay a k s).1 = 0 then (slay a k s).2.put (uw (a + k)) 0 else slay a k s).2.L.length ≤ _
    split
    · have q := put_len (slay a k s).2 (uw (a + k)) 0
      omega
    · omega
theorem slay_ok (a : Int) (s : Wd) (h : s.Ok) : ∀ k, (slay a k s).2.Ok
  | 0 => h
  | k + 1 => by
    have ih := slay_ok a s h k
    show (if (slay a k s).1 = 0 then (slay a k s).2.put (uw (a + k)) 0 else slay a k s).2.Ok
    split
    · exact ih.put _ zero_isW
    · exact ih
theorem slay_stop (a : Int) (s : Wd) (k : Nat) (h : (slay a k s).1 ≠ 0) : ∀ j, slay a (k + j) s = slay a k s
  | 0 => rfl
  | j + 1 => by
    have ih := slay_stop a s k h j
    show (if (slay a (k + j) s).1 = 0 then (slay a (k + j) s).2.put (uw (a + ((k + j : Nat) : Int))) 0 else slay a (k + j) s) = _
    rw [ih, if_neg h]
theorem Rm.slay {s s1 : Wd} {a e : Int} {k : Nat} (h : Rm s (k + 16)) (heq : s.slay a = (e, s1)) : Rm s1 k := h.of (by have q := slay_len a s 16; have e2 : Go.Proofs.Ytiacennkjjfifab.slay a 16 s = (e, s1) := heq; rw [e2] at q; exact q)
set_option maxHeartbeats 2000000 in
theorem slay_any (b g c : Nat) (s : Wd) (a : Int) (rms : Rm s 16) (w : World) (h : WdAt 65 w b g c s) :
    Calls Try.prog 14 #[.iface 62 (.pointer (some ⟨b, 0, none⟩)), .int .u64 a] w fun e w' => e = .returned (.int .i64 (s.slay a).1) ∧ Hs 65 w b g c w' (s.slay a).2 := by
  have mp := meth_put b
  have np := nil_put b
  have HH := hid (Hs.start h)
  clear h
  unfold Wd.slay
  go_enter Try.func14, Try.ntmps14
  go_wp2_with fail
  go_loopw [9] (fun kv wr => ∃ k : Nat, k ≤ 16 ∧ kv = .int .u64 (k : Int) ∧ (slay a k s).1 = 0 ∧ Hid (Hs 65 w b g c wr (slay a k s).2)) (fun kv _ => 16 - (intOf kv).toNat)
  case atStart => exact ⟨0, by omega, rfl, rfl, HH⟩
  case round =>
    obtain ⟨k, hk, rfl, hz, HY⟩ := hrel
    clear HH
    by_cases hlt : k < 16
    · have hki : (k : Int) < 16 := by omega
      have hwk : IntKind.u64.wrap ((k : Int) + 1) = (k : Int) + 1 := by rw [IntKind.wrap_u64]; omega
      have hrm : Rm (slay a k s).2 1 := by
        have q := slay_len a s k
        unfold Rm at rms ⊢; omega
      obtain ⟨⟨e, s1⟩, eqp⟩ : ∃ r, (slay a k s).2.put (uw (a + k)) 0 = r := ⟨_, rfl⟩
      have HN : Hid (slay a (k + 1) s = (e, s1)) := by
        show (if (slay a k s).1 = 0 then (slay a k s).2.put (uw (a + k)) 0 else slay a k s) = _
        rw [if_pos hz]
        exact eqp
      have HE : Hid (_ = _) := eqp
      clear eqp hz hlt
      go_wp2_with fail
      refine (tput_r HE (uw_isW _) zero_isW hrm HY.out.wd).mono ?_
      rintro e_ w1 ⟨rfl, h1⟩
      have H1 := hid (HY.out.trans h1)
      clear HY HE h1 hrm
      by_cases he : e = 0
      · subst he
        go_wp2_with fail
        go_roundw
        case rel => exact ⟨k + 1, by omega, by simp, by rw [HN.out], by rw [HN.out]; exact H1⟩
        case measure => simp [intOf]; omega
      · have HST : Hid (slay a 16 s = (e, s1)) := by
          have q := slay_stop a s (k + 1) (by rw [HN.out]; exact he) (16 - (k + 1))
          rw [show k + 1 + (16 - (k + 1)) = 16 by omega, HN.out] at q
          exact q
        go_wp2_with fail
        go_ret
        rw [HST.out]
        exact ⟨rfl, H1.out⟩
    · obtain rfl : k = 16 := by omega
      clear hlt hk
      go_wp2_with fail
      go_ret
      rw [hz]
      exact ⟨rfl, HY.out⟩
theorem slay_r {b g c : Nat} {s : Wd} {a e1 : Int} {s1 : Wd} (heq : Hid (s.slay a = (e1, s1))) (rms : Rm s 16) {w : World} (h : WdAt 65 w b g c s) :
    Calls Try.prog 14 #[.iface 62 (.pointer (some ⟨b, 0, none⟩)), .int .u64 a] w fun e w' => e = .returned (.int .i64 e1) ∧ Hs 65 w b g c w' s1 := by
  have q := slay_any b g c s a rms w h
  rw [heq.out] at q
  exact q
set_option maxHeartbeats 2000000 in
theorem snew_any (b g c : Nat) (s : Wd) (room : Int) (hr : isW room) (rms : Rm s 20) (w : World) (h : WdAt 65 w b g c s) :
    Calls Try.prog 4 #[.iface 62 (.pointer (some ⟨b, 0, none⟩)), .int .u64 room] w fun e w' => e = .returned (.tuple #[.int .u64 (s.snew room).1.1, .int .i64 (s.snew room).1.2]) ∧ Hs 65 w b g c w' (s.snew room).2 := by
  have mg := meth_get b
  have mp := meth_put b
  have ng := nil_get b
  have np := nil_put b
  have oks : s.Ok := h.ok
  have HH := hid (Hs.start h)
  clear h
  obtain ⟨⟨⟨x, e⟩, s1⟩, eq1⟩ : ∃ r, s.take room 16 = r := ⟨_, rfl⟩
  have rms1 : Rm s1 16 := Rm.take (k := 16) rms eq1
  by_cases hze : e = 0
  · subst hze
    obtain ⟨⟨f, s2⟩, eq2⟩ : ∃ r, s1.slay x = r := ⟨_, rfl⟩
    by_cases hzf : f = 0
    · subst hzf
      have hs : s.snew room = ((x, 0), s2) := by
        unfold Wd.snew
        simp [eq1, eq2]
      rw [hs]
      have HE1 : Hid (_ = _) := eq1
      have HE2 : Hid (_ = _) := eq2
      clear hs eq1 eq2
      go_enter Try.func4, Try.ntmps4
      go_wp2_with fail
      have hh := HH.out
      refine (take_r HE1 hr (rms.le (by omega)) hh.wd).mono ?_
      rintro e_ w1 ⟨rfl, h1⟩
      replace HH := hid (hh.trans h1)
      clear hh h1
      go_wp2_with fail
      have hh := HH.out
      refine (slay_r HE2 (rms1.le (by omega)) hh.wd).mono ?_
      rintro e_ w2 ⟨rfl, h2⟩
      replace HH := hid (hh.trans h2)
      clear hh h2
      go_wp2_with fail
      go_ret2
      exact ⟨rfl, HH.out⟩
    · skip
      have hs : s.snew room = ((0, f), s2) := by
        unfold Wd.snew
        simp [eq1, eq2, hzf]
      rw [hs]
      have HE1 : Hid (_ = _) := eq1
      have HE2 : Hid (_ = _) := eq2
      clear hs eq1 eq2
      go_enter Try.func4, Try.ntmps4
      go_wp2_with fail
      have hh := HH.out
      refine (take_r HE1 hr (rms.le (by omega)) hh.wd).mono ?_
      rintro e_ w1 ⟨rfl, h1⟩
      replace HH := hid (hh.trans h1)
      clear hh h1
      go_wp2_with fail
      have hh := HH.out
      refine (slay_r HE2 (rms1.le (by omega)) hh.wd).mono ?_
      rintro e_ w2 ⟨rfl, h2⟩
      replace HH := hid (hh.trans h2)
      clear hh h2
      go_wp2_with fail
      go_ret2
      exact ⟨rfl, HH.out⟩
  · skip
    have hs : s.snew room = ((0, e), s1) := by
      unfold Wd.snew
      simp [eq1, hze]
    rw [hs]
    have HE1 : Hid (_ = _) := eq1
    clear hs eq1
    go_enter Try.func4, Try.ntmps4
    go_wp2_with fail
    have hh := HH.out
    refine (take_r HE1 hr (rms.le (by omega)) hh.wd).mono ?_
    rintro e_ w1 ⟨rfl, h1⟩
    replace HH := hid (hh.trans h1)
    clear hh h1
    go_wp2_with fail
    go_ret2
    exact ⟨rfl, HH.out⟩
theorem snew_r {b g c : Nat} {s : Wd} {room : Int} {x1 e1 : Int} {s1 : Wd} (heq : Hid (s.snew room = ((x1, e1), s1))) (hr : isW room) (rms : Rm s 20) {w : World} (h : WdAt 65 w b g c s) :
    Calls Try.prog 4 #[.iface 62 (.pointer (some ⟨b, 0, none⟩)), .int .u64 room] w fun e w' => e = .returned (.tuple #[.int .u64 x1, .int .i64 e1]) ∧ Hs 65 w b g c w' s1 := by
  have q := snew_any b g c s room hr rms w h
  rw [heq.out] at q
  exact q
end Go.Proofs.Ytiacennkjjfifab
