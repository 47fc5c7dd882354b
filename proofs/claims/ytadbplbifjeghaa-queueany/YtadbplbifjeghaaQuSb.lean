
/- The walk of queue's unhang (layer 23). No statement of the seat is proved here. -/
import Derived.Test.YtadbplbifjeghaaQuR
namespace Go.Proofs.Ytadbplbifjeghaa
open Go.RowKit

set_option maxHeartbeats 2000000 in
theorem unhang0_any (t b g c : Nat) (s : Wd) (q : Int) (hq : isW q) (w : World) (h : Tw w t b g c s) :
    Calls Try.prog 41 #[.iface 24 (.pointer (some ⟨t, 0, none⟩)), .int .u64 q, .int .u64 0] w fun e w' => e = .returned (.int .i64 (unhangU q 0 s).1.2) ∧ Tw w' t b g c (unhangU q 0 s).2 ∧ Keeps (two b g) w w' := by
  have mg := meth_get t
  have mp := meth_put t
  have ng := nil_get t
  have np := nil_put t
  have oks : s.Ok := h.wd.ok
  have HH := hid h
  clear h
  have hq0 : IntKind.u64.wrap q = q := uw_id hq
  have hq1 : IntKind.u64.wrap (q + 0) = q := by rw [Int.add_zero]; exact uw_id hq
  obtain ⟨⟨e, s1⟩, eq1⟩ : ∃ r, s.put (q) (0) = r := ⟨_, rfl⟩
  have oks1 : s1.Ok := by have q := oks.put (q) (zero_isW : isW (0)); rw [eq1] at q; exact q
  by_cases hze : e = 0
  · subst hze
    obtain ⟨⟨f, s2⟩, eq2⟩ : ∃ r, s1.put (q1 q) (0) = r := ⟨_, rfl⟩
    have hs : unhangU q 0 s = (((), f), s2) := by
      unfold unhangU
      simp [eq1, eq2, bnd, putU]
    rw [hs]
    have HE1 : Hid (_ = _) := eq1
    have HE2 : Hid (_ = _) := eq2
    clear hs eq1 eq2
    have kk : Hid (Keeps (two b g) w w) := Keeps.refl _ w
    go_enter Try.func41, Try.ntmps41
    go_wp2_with fail
    have hh := HH.out
    refine (tput_r HE1 hq zero_isW hh).mono ?_
    rintro e_ w1 ⟨rfl, h1, k1⟩
    replace HH := hid h1
    replace kk := hid (kk.out.trans k1)
    clear hh h1 k1
    go_wp2_with fail
    have hh := HH.out
    refine (tput_r HE2 (uw_isW _) zero_isW hh).mono ?_
    rintro e_ w2 ⟨rfl, h2, k2⟩
    replace HH := hid h2
    replace kk := hid (kk.out.trans k2)
    clear hh h2 k2
    go_wp2_with fail
    go_ret
    exact ⟨rfl, HH.out, kk.out⟩
  · skip
    have hs : unhangU q 0 s = (((), e), s1) := by
      unfold unhangU
      simp [eq1, hze, bnd, putU]
    rw [hs]
    have HE1 : Hid (_ = _) := eq1
    clear hs eq1
    have kk : Hid (Keeps (two b g) w w) := Keeps.refl _ w
    go_enter Try.func41, Try.ntmps41
    go_wp2_with fail
    have hh := HH.out
    refine (tput_r HE1 hq zero_isW hh).mono ?_
    rintro e_ w1 ⟨rfl, h1, k1⟩
    replace HH := hid h1
    replace kk := hid (kk.out.trans k1)
    clear hh h1 k1
    go_wp2_with fail
    go_ret
    exact ⟨rfl, HH.out, kk.out⟩
set_option maxHeartbeats 2000000 in
theorem unhang1_any (t b g c : Nat) (s : Wd) (q n : Int) (hq : isW q) (hn : isW n) (hn0 : ¬ n = 0) (w : World) (h : Tw w t b g c s) :
    Calls Try.prog 41 #[.iface 24 (.pointer (some ⟨t, 0, none⟩)), .int .u64 q, .int .u64 n] w fun e w' => e = .returned (.int .i64 (unhangU q n s).1.2) ∧ Tw w' t b g c (unhangU q n s).2 ∧ Keeps (two b g) w w' := by
  have mg := meth_get t
  have mp := meth_put t
  have ng := nil_get t
  have np := nil_put t
  have oks : s.Ok := h.wd.ok
  have HH := hid h
  clear h
  have hq0 : IntKind.u64.wrap q = q := uw_id hq
  have hq1 : IntKind.u64.wrap (q + 0) = q := by rw [Int.add_zero]; exact uw_id hq
  obtain ⟨⟨e, s1⟩, eq1⟩ : ∃ r, s.put (q) (n) = r := ⟨_, rfl⟩
  have oks1 : s1.Ok := by have q := oks.put (q) (hn : isW (n)); rw [eq1] at q; exact q
  by_cases hze : e = 0
  · subst hze
    have hs : unhangU q n s = (((), 0), s1) := by
      unfold unhangU
      simp [eq1, bnd, putU, rtn, hn0]
    rw [hs]
    have HE1 : Hid (_ = _) := eq1
    clear hs eq1
    have kk : Hid (Keeps (two b g) w w) := Keeps.refl _ w
    go_enter Try.func41, Try.ntmps41
    go_wp2_with fail
    have hh := HH.out
    refine (tput_r HE1 hq hn hh).mono ?_
    rintro e_ w1 ⟨rfl, h1, k1⟩
    replace HH := hid h1
    replace kk := hid (kk.out.trans k1)
    clear hh h1 k1
    go_wp2_with fail
    go_ret
    exact ⟨rfl, HH.out, kk.out⟩
  · skip
    have hs : unhangU q n s = (((), e), s1) := by
      unfold unhangU
      simp [eq1, hze, bnd, putU]
    rw [hs]
    have HE1 : Hid (_ = _) := eq1
    clear hs eq1
    have kk : Hid (Keeps (two b g) w w) := Keeps.refl _ w
    go_enter Try.func41, Try.ntmps41
    go_wp2_with fail
    have hh := HH.out
    refine (tput_r HE1 hq hn hh).mono ?_
    rintro e_ w1 ⟨rfl, h1, k1⟩
    replace HH := hid h1
    replace kk := hid (kk.out.trans k1)
    clear hh h1 k1
    go_wp2_with fail
    go_ret
    exact ⟨rfl, HH.out, kk.out⟩
theorem unhang_any (t b g c : Nat) (s : Wd) (q n : Int) (hq : isW q) (hn : isW n) (w : World) (h : Tw w t b g c s) :
    Calls Try.prog 41 #[.iface 24 (.pointer (some ⟨t, 0, none⟩)), .int .u64 q, .int .u64 n] w fun e w' => e = .returned (.int .i64 (unhangU q n s).1.2) ∧ Tw w' t b g c (unhangU q n s).2 ∧ Keeps (two b g) w w' := by
  by_cases hn0 : n = 0
  · subst hn0
    exact unhang0_any t b g c s q hq w h
  · exact unhang1_any t b g c s q n hq hn hn0 w h
theorem unhang_r {t b g c : Nat} {s : Wd} {q n : Int} {e1 : Int} {s1 : Wd} (heq : Hid (unhangU q n s = (((), e1), s1))) (hq : isW q) (hn : isW n) {w : World} (h : Tw w t b g c s) :
    Calls Try.prog 41 #[.iface 24 (.pointer (some ⟨t, 0, none⟩)), .int .u64 q, .int .u64 n] w fun e w' => e = .returned (.int .i64 e1) ∧ Tw w' t b g c s1 ∧ Keeps (two b g) w w' := by
  have q := unhang_any t b g c s q n hq hn w h
  rw [heq.out] at q
  exact q
end Go.Proofs.Ytadbplbifjeghaa
