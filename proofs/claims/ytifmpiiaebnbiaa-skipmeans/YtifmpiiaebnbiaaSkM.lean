
/- The walks of write and levelOf (layer 22). No statement of the seat is proved here. -/
import Derived.Test.YtifmpiiaebnbiaaSkJ
namespace Go.Proofs.Ytifmpiiaebnbiaa
open Go.RowKit

set_option maxHeartbeats 2000000 in
theorem write_any (b g c : Nat) (s : Wd) (node x lv : Int) (hn : isW node) (hx : isW x) (hl : isW lv) (rms : Rm s 2) (w : World) (h : WdAt 27 w b g c s) :
    Calls Try.prog 48 #[.iface 23 (.pointer (some ⟨b, 0, none⟩)), .int .u64 node, .int .u64 x, .int .u64 lv] w fun e w' => e = .returned (.int .i64 (s.write node x lv).1) ∧ Hs 27 w b g c w' (s.write node x lv).2 := by
  have mg := meth_get b
  have mp := meth_put b
  have ng := nil_get b
  have np := nil_put b
  have oks : s.Ok := h.ok
  have HH := hid (Hs.start h)
  clear h
  obtain ⟨⟨e, s1⟩, eq1⟩ : ∃ r, s.put (node) (x) = r := ⟨_, rfl⟩
  have oks1 : s1.Ok := by have q := oks.put (node) (hx : isW (x)); rw [eq1] at q; exact q
  have rms1 : Rm s1 1 := rms.put eq1
  by_cases hze : e = 0
  · subst hze
    obtain ⟨⟨f, s2⟩, eq2⟩ : ∃ r, s1.put (uw (node + 1)) (lv) = r := ⟨_, rfl⟩
    have oks2 : s2.Ok := by have q := oks1.put (uw (node + 1)) (hl : isW (lv)); rw [eq2] at q; exact q
    have rms2 : Rm s2 0 := rms1.put eq2
    have hs : s.write node x lv = (f, s2) := by
      unfold Wd.write
      simp [eq1, eq2]
    rw [hs]
    have HE1 : Hid (_ = _) := eq1
    have HE2 : Hid (_ = _) := eq2
    clear hs eq1 eq2
    go_enter Try.func48, Try.ntmps48
    go_wp2_with fail
    have hh := HH.out
    refine (tput_r HE1 hn hx (rms.le (by omega)) hh.wd).mono ?_
    rintro e_ w1 ⟨rfl, h1⟩
    replace HH := hid (hh.trans h1)
    clear hh h1
    go_wp2_with fail
    have hh := HH.out
    refine (tput_r HE2 (uw_isW _) hl (rms1.le (by omega)) hh.wd).mono ?_
    rintro e_ w2 ⟨rfl, h2⟩
    replace HH := hid (hh.trans h2)
    clear hh h2
    go_wp2_with fail
    go_ret
    exact ⟨rfl, HH.out⟩
  · skip
    have hs : s.write node x lv = (e, s1) := by
      unfold Wd.write
      simp [eq1, hze]
    rw [hs]
    have HE1 : Hid (_ = _) := eq1
    clear hs eq1
    go_enter Try.func48, Try.ntmps48
    go_wp2_with fail
    have hh := HH.out
    refine (tput_r HE1 hn hx (rms.le (by omega)) hh.wd).mono ?_
    rintro e_ w1 ⟨rfl, h1⟩
    replace HH := hid (hh.trans h1)
    clear hh h1
    go_wp2_with fail
    go_ret
    exact ⟨rfl, HH.out⟩
theorem write_r {b g c : Nat} {s : Wd} {node x lv : Int} {e1 : Int} {s1 : Wd} (heq : Hid (s.write node x lv = (e1, s1))) (hn : isW node) (hx : isW x) (hl : isW lv) (rms : Rm s 2) {w : World} (h : WdAt 27 w b g c s) :
    Calls Try.prog 48 #[.iface 23 (.pointer (some ⟨b, 0, none⟩)), .int .u64 node, .int .u64 x, .int .u64 lv] w fun e w' => e = .returned (.int .i64 e1) ∧ Hs 27 w b g c w' s1 := by
  have q := write_any b g c s node x lv hn hx hl rms w h
  rw [heq.out] at q
  exact q
theorem write_len (s : Wd) (node x lv : Int) : (s.write node x lv).2.L.length ≤ s.L.length + 2 := by
  unfold Wd.write
  obtain ⟨⟨e, s1⟩, eq1⟩ : ∃ r, s.put node x = r := ⟨_, rfl⟩
  have h1 := put_len s node x
  have h2 := put_len s1 (uw (node + 1)) lv
  rw [eq1] at h1 ⊢
  have h1' : s1.L.length = s.L.length + 1 := h1
  dsimp only
  split
  · show s1.L.length ≤ _; omega
  · omega
theorem Wd.Ok.write {s : Wd} (h : s.Ok) (node : Int) {x lv : Int} (hx : isW x) (hl : isW lv) : (s.write node x lv).2.Ok := by
  unfold Wd.write
  obtain ⟨⟨e, s1⟩, eq1⟩ : ∃ r, s.put node x = r := ⟨_, rfl⟩
  have h1 := h.put node hx
  rw [eq1] at h1 ⊢
  dsimp only
  split
  · exact h1
  · exact h1.put _ hl
theorem Rm.write {s s1 : Wd} {node x lv e : Int} {k : Nat} (h : Rm s (k + 2)) (heq : s.write node x lv = (e, s1)) : Rm s1 k := h.of (by have q := write_len s node x lv; rw [heq] at q; exact q)
set_option maxHeartbeats 2000000 in
theorem levelOf_any (b g c : Nat) (s : Wd) (node : Int)  (rms : Rm s 1) (w : World) (h : WdAt 27 w b g c s) :
    Calls Try.prog 53 #[.iface 23 (.pointer (some ⟨b, 0, none⟩)), .int .u64 node] w fun e w' => e = .returned (.tuple #[.int .u64 (s.levelOf node).1.1, .int .i64 (s.levelOf node).1.2]) ∧ Hs 27 w b g c w' (s.levelOf node).2 := by
  have mg := meth_get b
  have mp := meth_put b
  have ng := nil_get b
  have np := nil_put b
  have oks : s.Ok := h.ok
  have HH := hid (Hs.start h)
  clear h
  obtain ⟨⟨⟨x, e⟩, s1⟩, eq1⟩ : ∃ r, s.get (uw (node + 1)) = r := ⟨_, rfl⟩
  have hwx : isW x := get_isW eq1 oks
  have oks1 : s1.Ok := by have q := (oks.get (uw (node + 1))).1; rw [eq1] at q; exact q
  have rms1 : Rm s1 0 := rms.get eq1
  by_cases hze : e = 0
  · subst hze
    by_cases hx1 : x < 1
    · skip
      have hs : s.levelOf node = ((0, 320), s1) := by
        unfold Wd.levelOf
        simp [eq1, hx1]
      rw [hs]
      have HE1 : Hid (_ = _) := eq1
      clear hs eq1
      go_enter Try.func53, Try.ntmps53
      go_wp2_with fail
      have hh := HH.out
      refine (tget_r HE1 (uw_isW _) (rms.le (by omega)) hh.wd).mono ?_
      rintro e_ w1 ⟨rfl, h1⟩
      replace HH := hid (hh.trans h1)
      clear hh h1
      go_wp2_with fail
      go_ret2
      exact ⟨rfl, HH.out⟩
    · skip
      by_cases hx8 : 8 < x
      · skip
        have hx1' : 1 ≤ x := by omega
        have hs : s.levelOf node = ((0, 320), s1) := by
          unfold Wd.levelOf
          simp [eq1, hx1, hx8]
        rw [hs]
        have HE1 : Hid (_ = _) := eq1
        clear hs eq1
        go_enter Try.func53, Try.ntmps53
        go_wp2_with fail
        have hh := HH.out
        refine (tget_r HE1 (uw_isW _) (rms.le (by omega)) hh.wd).mono ?_
        rintro e_ w1 ⟨rfl, h1⟩
        replace HH := hid (hh.trans h1)
        clear hh h1
        go_wp2_with fail
        go_ret2
        exact ⟨rfl, HH.out⟩
      · skip
        have hx1' : 1 ≤ x := by omega
        have hs : s.levelOf node = ((x, 0), s1) := by
          unfold Wd.levelOf
          simp [eq1, hx1, hx8]
        rw [hs]
        have HE1 : Hid (_ = _) := eq1
        clear hs eq1
        go_enter Try.func53, Try.ntmps53
        go_wp2_with fail
        have hh := HH.out
        refine (tget_r HE1 (uw_isW _) (rms.le (by omega)) hh.wd).mono ?_
        rintro e_ w1 ⟨rfl, h1⟩
        replace HH := hid (hh.trans h1)
        clear hh h1
        go_wp2_with fail
        go_ret2
        exact ⟨rfl, HH.out⟩
  · skip
    have hs : s.levelOf node = ((0, e), s1) := by
      unfold Wd.levelOf
      simp [eq1, hze]
    rw [hs]
    have HE1 : Hid (_ = _) := eq1
    clear hs eq1
    go_enter Try.func53, Try.ntmps53
    go_wp2_with fail
    have hh := HH.out
    refine (tget_r HE1 (uw_isW _) (rms.le (by omega)) hh.wd).mono ?_
    rintro e_ w1 ⟨rfl, h1⟩
    replace HH := hid (hh.trans h1)
    clear hh h1
    go_wp2_with fail
    go_ret2
    exact ⟨rfl, HH.out⟩
theorem levelOf_r {b g c : Nat} {s : Wd} {node : Int} {x1 e1 : Int} {s1 : Wd} (heq : Hid (s.levelOf node = ((x1, e1), s1)))  (rms : Rm s 1) {w : World} (h : WdAt 27 w b g c s) :
    Calls Try.prog 53 #[.iface 23 (.pointer (some ⟨b, 0, none⟩)), .int .u64 node] w fun e w' => e = .returned (.tuple #[.int .u64 x1, .int .i64 e1]) ∧ Hs 27 w b g c w' s1 := by
  have q := levelOf_any b g c s node  rms w h
  rw [heq.out] at q
  exact q
theorem levelOf_ok {s s1 : Wd} {node x e : Int} (h : s.Ok) (heq : s.levelOf node = ((x, e), s1)) : s1.Ok ∧ isW x ∧ s1.L.length ≤ s.L.length + 1 ∧ (e = 0 → 1 ≤ x ∧ x ≤ 8) := by
  unfold Wd.levelOf at heq
  obtain ⟨⟨⟨y, f⟩, s2⟩, eq1⟩ : ∃ r, s.get (uw (node + 1)) = r := ⟨_, rfl⟩
  have h1 := h.get (uw (node + 1))
  have h2 := get_len s (uw (node + 1))
  rw [eq1] at h1 h2 heq
  have h2' : s2.L.length = s.L.length + 1 := h2
  dsimp only at heq
  split at heq
  · simp only [Prod.mk.injEq] at heq; obtain ⟨⟨rfl, rfl⟩, rfl⟩ := heq; exact ⟨h1.1, zero_isW, by omega, fun e0 => absurd e0 ‹_›⟩
  · split at heq
    · simp only [Prod.mk.injEq] at heq; obtain ⟨⟨rfl, rfl⟩, rfl⟩ := heq; exact ⟨h1.1, zero_isW, by omega, fun e0 => by cases e0⟩
    · simp only [Prod.mk.injEq] at heq; obtain ⟨⟨rfl, rfl⟩, rfl⟩ := heq; exact ⟨h1.1, h1.2.1, by omega, fun _ => by omega⟩
theorem Rm.levelOf {s s1 : Wd} {node x e : Int} {k : Nat} (h : Rm s (k + 1)) (hok : s.Ok) (heq : s.levelOf node = ((x, e), s1)) : Rm s1 k := h.of (levelOf_ok hok heq).2.2.1
end Go.Proofs.Ytifmpiiaebnbiaa
