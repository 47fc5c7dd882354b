
/- The walks of Clear and Drop (layer 21). No statement of the seat is proved here. -/
import Derived.Test.YtmnbilhblkobdaaLqJ
namespace Go.Proofs.Ytmnbilhblkobdaa
open Go.RowKit

theorem giveN_nn (s : Wd) (r l : Int) : 0 ≤ (s.giveNodes r l).1.1 := by
  unfold Wd.giveNodes
  split
  · exact Int.le_refl _
  · split
    · exact Int.le_refl _
    · exact Int.natCast_nonneg _
set_option maxHeartbeats 1000000 in
theorem clear_any (b g c : Nat) (s : Wd) (r l : Int) (hl : isW l) (hce : s.c ≠ 0 ∨ s.f < 0) (w : World) (h : WdAt w b g c s) :
    Calls Try.prog 28 #[.iface 24 (.pointer (some ⟨b, 0, none⟩)), .int .u64 r, .int .u64 l] w fun e w' => e = .returned (.tuple #[.int .u64 (s.clear r l).1.1, .int .i64 (s.clear r l).1.2]) ∧ WdAt w' b g c (s.clear r l).2 ∧ Keeps (two b g) w w' := by
  have mg := meth_get b
  have mp := meth_put b
  have ng := nil_get b
  have np := nil_put b
  have oks : s.Ok := h.ok
  have HH := hid (Hs.start h)
  clear h
  obtain ⟨⟨⟨x, e⟩, s1⟩, eq1⟩ : ∃ r_, s.giveNodes r l = r_ := ⟨_, rfl⟩
  have hx0 : 0 ≤ x := by have q := giveN_nn s r l; rw [eq1] at q; exact q
  by_cases hze : e = 0
  · subst hze
    by_cases hzx : x = 0
    · subst hzx
      have hs : s.clear r l = ((0, 0), s1) := by
        unfold Wd.clear
        simp [eq1]
      rw [hs]
      have HE1 : Hid (_ = _) := eq1
      clear hs eq1
      go_enter Try.func28, Try.ntmps28
      go_wp2_with fail
      have hh := HH.out
      refine (giveN_r HE1 hl hce hh.wd).mono ?_
      rintro e_ w1 ⟨rfl, h1, k1⟩
      replace HH := hid (hh.acc k1 h1)
      clear hh h1 k1
      go_wp2_with fail
      go_ret2
      exact ⟨rfl, HH.out.wd, HH.out.k⟩
    · skip
      have hxp : 0 < x := by omega
      obtain ⟨⟨f, s2⟩, eq2⟩ : ∃ r_, s1.empty l = r_ := ⟨_, rfl⟩
      by_cases hzf : f = 0
      · subst hzf
        have hs : s.clear r l = ((x, 0), s2) := by
          unfold Wd.clear
          simp [eq1, eq2, hzx]
        rw [hs]
        have HE1 : Hid (_ = _) := eq1
        have HE2 : Hid (_ = _) := eq2
        clear hs eq1 eq2
        go_enter Try.func28, Try.ntmps28
        go_wp2_with fail
        have hh := HH.out
        refine (giveN_r HE1 hl hce hh.wd).mono ?_
        rintro e_ w1 ⟨rfl, h1, k1⟩
        replace HH := hid (hh.acc k1 h1)
        clear hh h1 k1
        go_wp2_with fail
        have hh := HH.out
        refine (empty_r HE2 hl hh.wd).mono ?_
        rintro e_ w2 ⟨rfl, h2, k2⟩
        replace HH := hid (hh.acc k2 h2)
        clear hh h2 k2
        go_wp2_with fail
        go_ret2
        exact ⟨rfl, HH.out.wd, HH.out.k⟩
      · skip
        have hs : s.clear r l = ((0, f), s2) := by
          unfold Wd.clear
          simp [eq1, eq2, hzx, hzf]
        rw [hs]
        have HE1 : Hid (_ = _) := eq1
        have HE2 : Hid (_ = _) := eq2
        clear hs eq1 eq2
        go_enter Try.func28, Try.ntmps28
        go_wp2_with fail
        have hh := HH.out
        refine (giveN_r HE1 hl hce hh.wd).mono ?_
        rintro e_ w1 ⟨rfl, h1, k1⟩
        replace HH := hid (hh.acc k1 h1)
        clear hh h1 k1
        go_wp2_with fail
        have hh := HH.out
        refine (empty_r HE2 hl hh.wd).mono ?_
        rintro e_ w2 ⟨rfl, h2, k2⟩
        replace HH := hid (hh.acc k2 h2)
        clear hh h2 k2
        go_wp2_with fail
        go_ret2
        exact ⟨rfl, HH.out.wd, HH.out.k⟩
  · skip
    have hs : s.clear r l = ((0, e), s1) := by
      unfold Wd.clear
      simp [eq1, hze]
    rw [hs]
    have HE1 : Hid (_ = _) := eq1
    clear hs eq1
    go_enter Try.func28, Try.ntmps28
    go_wp2_with fail
    have hh := HH.out
    refine (giveN_r HE1 hl hce hh.wd).mono ?_
    rintro e_ w1 ⟨rfl, h1, k1⟩
    replace HH := hid (hh.acc k1 h1)
    clear hh h1 k1
    go_wp2_with fail
    go_ret2
    exact ⟨rfl, HH.out.wd, HH.out.k⟩
theorem clear_r {b g c : Nat} {s : Wd} {r l : Int} {x1 e1 : Int} {s1 : Wd} (heq : Hid (s.clear r l = ((x1, e1), s1))) (hl : isW l) (hce : s.c ≠ 0 ∨ s.f < 0) {w : World} (h : WdAt w b g c s) :
    Calls Try.prog 28 #[.iface 24 (.pointer (some ⟨b, 0, none⟩)), .int .u64 r, .int .u64 l] w fun e w' => e = .returned (.tuple #[.int .u64 x1, .int .i64 e1]) ∧ WdAt w' b g c s1 ∧ Keeps (two b g) w w' := by
  have q := clear_any b g c s r l hl hce w h
  rw [heq.out] at q
  exact q
set_option maxHeartbeats 1000000 in
theorem drop_any (b g c : Nat) (s : Wd) (r l : Int) (hl : isW l) (hce : s.c ≠ 0 ∨ s.f < 0) (w : World) (h : WdAt w b g c s) :
    Calls Try.prog 29 #[.iface 24 (.pointer (some ⟨b, 0, none⟩)), .int .u64 r, .int .u64 l] w fun e w' => e = .returned (.int .i64 (s.drop r l).1) ∧ WdAt w' b g c (s.drop r l).2 ∧ Keeps (two b g) w w' := by
  have mg := meth_get b
  have mp := meth_put b
  have ng := nil_get b
  have np := nil_put b
  have oks : s.Ok := h.ok
  have HH := hid (Hs.start h)
  clear h
  obtain ⟨⟨⟨x, e⟩, s1⟩, eq1⟩ : ∃ r_, s.giveNodes r l = r_ := ⟨_, rfl⟩
  by_cases hze : e = 0
  · subst hze
    obtain ⟨⟨f, s2⟩, eq2⟩ : ∃ r_, s1.give r l 2 = r_ := ⟨_, rfl⟩
    have hs : s.drop r l = (f, s2) := by
      unfold Wd.drop
      simp [eq1, eq2]
    rw [hs]
    have HE1 : Hid (_ = _) := eq1
    have HE2 : Hid (_ = _) := eq2
    clear hs eq1 eq2
    go_enter Try.func29, Try.ntmps29
    go_wp2_with fail
    have hh := HH.out
    refine (giveN_r HE1 hl hce hh.wd).mono ?_
    rintro e_ w1 ⟨rfl, h1, k1⟩
    replace HH := hid (hh.acc k1 h1)
    clear hh h1 k1
    go_wp2_with fail
    have hh := HH.out
    refine (give_r HE2 hl hh.wd).mono ?_
    rintro e_ w2 ⟨rfl, h2, k2⟩
    replace HH := hid (hh.acc k2 h2)
    clear hh h2 k2
    go_wp2_with fail
    go_ret
    exact ⟨rfl, HH.out.wd, HH.out.k⟩
  · skip
    have hs : s.drop r l = (e, s1) := by
      unfold Wd.drop
      simp [eq1, hze]
    rw [hs]
    have HE1 : Hid (_ = _) := eq1
    clear hs eq1
    go_enter Try.func29, Try.ntmps29
    go_wp2_with fail
    have hh := HH.out
    refine (giveN_r HE1 hl hce hh.wd).mono ?_
    rintro e_ w1 ⟨rfl, h1, k1⟩
    replace HH := hid (hh.acc k1 h1)
    clear hh h1 k1
    go_wp2_with fail
    go_ret
    exact ⟨rfl, HH.out.wd, HH.out.k⟩
theorem drop_r {b g c : Nat} {s : Wd} {r l : Int} {e1 : Int} {s1 : Wd} (heq : Hid (s.drop r l = (e1, s1))) (hl : isW l) (hce : s.c ≠ 0 ∨ s.f < 0) {w : World} (h : WdAt w b g c s) :
    Calls Try.prog 29 #[.iface 24 (.pointer (some ⟨b, 0, none⟩)), .int .u64 r, .int .u64 l] w fun e w' => e = .returned (.int .i64 e1) ∧ WdAt w' b g c s1 ∧ Keeps (two b g) w w' := by
  have q := drop_any b g c s r l hl hce w h
  rw [heq.out] at q
  exact q
end Go.Proofs.Ytmnbilhblkobdaa
