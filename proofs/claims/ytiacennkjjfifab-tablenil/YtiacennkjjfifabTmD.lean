
/- The walks of reach and hang (layer 25). No statement of the seat is proved here. -/
import Derived.Test.YtiacennkjjfifabTmC
namespace Go.Proofs.Ytiacennkjjfifab
open Go.RowKit

theorem Rm.wayF {s s1 : Wd} {at_ k e : Int} {E : En} {j : Nat} (h : Rm s (j + 16)) (heq : wayF at_ k s = ((E, e), s1)) (ok : s.Ok) : Rm s1 j := h.of (by
  have q := (wayK_ok k 16 at_ 0 s ok (by omega)).2.2
  have e2 : wayK k 16 at_ 0 s = ((E, e), s1) := heq
  rw [e2] at q
  exact q)
theorem wayF_ok {s s1 : Wd} {at_ k e : Int} {E : En} (heq : wayF at_ k s = ((E, e), s1)) (ok : s.Ok) : E.Ok ∧ s1.Ok := by
  have q := wayK_ok k 16 at_ 0 s ok (by omega)
  have e2 : wayK k 16 at_ 0 s = ((E, e), s1) := heq
  rw [e2] at q
  exact ⟨q.1, q.2.1⟩
theorem reachF_ok {s s1 : Wd} {at_ k e : Int} {E : En} (heq : reachF at_ k s = ((E, e), s1)) (ok : s.Ok) : E.Ok ∧ s1.Ok := by
  obtain ⟨E0, f, s2, h1, h2, h3⟩ := bnd_step heq
  have q := wayF_ok h1 ok
  by_cases hf : f = 0
  · have h4 := h2 hf
    by_cases hw : E0.what = 1
    · rw [if_pos hw] at h4
      obtain ⟨x, g, s3, h5, h6, h7⟩ := bnd_step h4
      have hx := get_isW h5 q.2
      have ok3 : s3.Ok := by have z := (q.2.get (uw E0.leaf)).1; rw [h5] at z; exact z
      by_cases hg : g = 0
      · obtain ⟨rfl, _, rfl⟩ := rtn_eq (h6 hg)
        exact ⟨⟨q.1.cell, q.1.word, q.1.leaf, hx, q.1.d⟩, ok3⟩
      · obtain ⟨_, rfl, rfl⟩ := h7 hg
        exact ⟨En.zero_ok, ok3⟩
    · rw [if_neg hw] at h4
      obtain ⟨rfl, _, rfl⟩ := rtn_eq h4
      exact q
  · obtain ⟨_, rfl, rfl⟩ := h3 hf
    exact ⟨En.zero_ok, q.2⟩
theorem Rm.reachF {s s1 : Wd} {at_ k e : Int} {E : En} {j : Nat} (h : Rm s (j + 17)) (heq : reachF at_ k s = ((E, e), s1)) (ok : s.Ok) : Rm s1 j := by
  obtain ⟨E0, f, s2, h1, h2, h3⟩ := bnd_step heq
  have r2 : Rm s2 (j + 1) := Rm.wayF (j := j + 1) (h.le (by omega)) h1 ok
  by_cases hf : f = 0
  · have h4 := h2 hf
    by_cases hw : E0.what = 1
    · rw [if_pos hw] at h4
      obtain ⟨x, g, s3, h5, h6, h7⟩ := bnd_step h4
      have r3 := r2.get h5
      by_cases hg : g = 0
      · obtain ⟨_, _, rfl⟩ := rtn_eq (h6 hg)
        exact r3
      · obtain ⟨_, rfl, _⟩ := h7 hg
        exact r3
    · rw [if_neg hw] at h4
      obtain ⟨_, _, rfl⟩ := rtn_eq h4
      exact r2.le (by omega)
  · obtain ⟨_, rfl, _⟩ := h3 hf
    exact r2.le (by omega)
set_option maxHeartbeats 2000000 in
theorem hang_any {b g c : Nat} {s s1 : Wd} {room cell k v e1 : Int} (heq : Hid (hangF room cell k v s = (((), e1), s1))) (hr : isW room) (hc : isW cell) (hk : isW k) (hv : isW v) (rms : Rm s 7) {w : World} (h : WdAt 65 w b g c s) :
    Calls Try.prog 33 #[.iface 62 (.pointer (some ⟨b, 0, none⟩)), .int .u64 room, .int .u64 cell, .int .u64 k, .int .u64 v] w fun e w' => e = .returned (.int .i64 e1) ∧ Hs 65 w b g c w' s1 := by
  have mp := meth_put b
  have np := nil_put b
  obtain ⟨a, f1, s2, h1, h2, h3⟩ := bnd_step heq.out
  have ok2 : s2.Ok := by have q := (h.ok.take room 2).1; rw [h1] at q; exact q
  have HAW : Hid (isW a) := by have q := (h.ok.take room 2).2; rw [h1] at q; exact hid q
  have r2 : Rm s2 3 := Rm.take (k := 3) rms h1
  have HC := hid (take_r (hid h1) hr (rms.le (by omega)) h)
  have H2 := hid h2
  have H3 := hid h3
  have R2 := hid r2
  clear h1 h2 h3 ok2 r2 rms h
  go_enter Try.func33, Try.ntmps33
  go_wp2_with fail
  refine HC.out.mono ?_
  rintro e_ w1 ⟨rfl, k1⟩
  have HH := hid k1
  clear k1 HC
  by_cases he1 : f1 = 0
  rotate_left
  · obtain ⟨rfl, rfl, _⟩ := H3.out he1
    go_wp2_with fail
    go_ret
    exact ⟨rfl, HH.out⟩
  subst he1
  obtain ⟨u1, f2, s3, h1, h2, h3⟩ := bnd_step (H2.out rfl)
  have h1' : s2.put (uw a) k = (f2, s3) := by
    unfold putU at h1
    simp only [Prod.mk.injEq] at h1
    exact Prod.ext h1.1.2 h1.2
  have r3 := R2.out.put h1'
  have HC := hid (tput_r (hid h1') (uw_isW _) hk (R2.out.le (by omega)) HH.out.wd)
  clear H2 H3 R2
  have H2 := hid h2
  have H3 := hid h3
  have R3 := hid r3
  clear h1 h1' h2 h3 r3
  go_wp2_with fail
  refine HC.out.mono ?_
  rintro e_ w2 ⟨rfl, k2⟩
  replace HH := hid (HH.out.trans k2)
  clear k2 HC
  by_cases he2 : f2 = 0
  rotate_left
  · obtain ⟨rfl, rfl, _⟩ := H3.out he2
    go_wp2_with fail
    go_ret
    exact ⟨rfl, HH.out⟩
  subst he2
  obtain ⟨u2, f3, s4, h1, h2, h3⟩ := bnd_step (H2.out rfl)
  have h1' : s3.put (uw (a + 1)) v = (f3, s4) := by
    unfold putU at h1
    simp only [Prod.mk.injEq] at h1
    exact Prod.ext h1.1.2 h1.2
  have r4 := R3.out.put h1'
  have HC := hid (tput_r (hid h1') (uw_isW _) hv (R3.out.le (by omega)) HH.out.wd)
  clear H2 H3 R3
  have H2 := hid h2
  have H3 := hid h3
  have R4 := hid r4
  clear h1 h1' h2 h3 r4
  go_wp2_with fail
  refine HC.out.mono ?_
  rintro e_ w3 ⟨rfl, k3⟩
  replace HH := hid (HH.out.trans k3)
  clear k3 HC
  by_cases he3 : f3 = 0
  rotate_left
  · obtain ⟨rfl, rfl, _⟩ := H3.out he3
    go_wp2_with fail
    go_ret
    exact ⟨rfl, HH.out⟩
  subst he3
  have h1 := H2.out rfl
  have h1' : s4.put cell (leafW a) = (e1, s1) := by
    unfold putU at h1
    simp only [Prod.mk.injEq] at h1
    exact Prod.ext h1.1.2 h1.2
  have HP := hid h1'
  clear h1 h1' H2 H3
  go_wp2_with fail
  go_region_held3 (fun _ : World => True) (exact trivial) (first
    | (go_at_call 43; refine (leafAt_any a _).mono ?_; rintro e w' ⟨rfl, rfl⟩)
    | (go_at_call 67; refine (tput_r HP hc (uw_isW _) R4.out HH.out.drew.wd).mono ?_; rintro e w4 ⟨rfl, k4⟩))
  all_goals go_wp2_with fail
  all_goals go_ret
  all_goals exact ⟨rfl, HH.out.drew.trans k4⟩
end Go.Proofs.Ytiacennkjjfifab
