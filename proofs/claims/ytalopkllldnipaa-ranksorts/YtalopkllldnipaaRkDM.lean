/-
  No statement of the seat is proved here. (Several texts in one: RkDa, RkDb, RkDc, RkDd, RkDe.)
-/
import Derived.Test.YtalopkllldnipaaRkC

/- The walks of room's functions (layer 24). No statement of the seat is proved here. -/
namespace Go.Proofs.Ytalopkllldnipaa
open Go.RowKit

set_option maxHeartbeats 2000000 in
theorem takeG_any (b g c : Nat) (s : Wd) (hd p : Int) (hh0 : isW hd) (hp : isW p) (w : World) (h : WdAt w b g c s) :
    Calls Try.prog 85 #[.iface 24 (.pointer (some ⟨b, 0, none⟩)), .int .u64 hd, .int .u64 p] w fun e w' => e = .returned (.tuple #[.int .u64 (s.takeG hd p).1.1, .int .i64 (s.takeG hd p).1.2]) ∧ WdAt w' b g c (s.takeG hd p).2 ∧ Keeps (two b g) w w' := by
  have mg := meth_get b
  have mp := meth_put b
  have ng := nil_get b
  have np := nil_put b
  have oks : s.Ok := h.ok
  have HH := hid h
  clear h
  obtain ⟨⟨⟨x, e⟩, s1⟩, eq1⟩ : ∃ r, s.get (p) = r := ⟨_, rfl⟩
  have hwx : isW x := get_isW eq1 oks
  have oks1 : s1.Ok := by have q := (oks.get (p)).1; rw [eq1] at q; exact q
  by_cases hze : e = 0
  · subst hze
    obtain ⟨⟨f, s2⟩, eq2⟩ : ∃ r, s1.put (hd) (x) = r := ⟨_, rfl⟩
    have oks2 : s2.Ok := by have q := oks1.put (hd) (hwx : isW (x)); rw [eq2] at q; exact q
    by_cases hzf : f = 0
    · subst hzf
      have hs : s.takeG hd p = ((p, 0), s2) := by
        unfold Wd.takeG
        simp [eq1, eq2]
      rw [hs]
      have HE1 : Hid (_ = _) := eq1
      have HE2 : Hid (_ = _) := eq2
      clear hs eq1 eq2
      have kk : Hid (Keeps (two b g) w w) := Keeps.refl _ w
      go_enter Try.func85, Try.ntmps85
      go_wp2_with fail
      have hh := HH.out
      refine (tget_r HE1 hp hh).mono ?_
      rintro e_ w1 ⟨rfl, h1, k1⟩
      replace HH := hid h1
      replace kk := hid (kk.out.trans k1)
      clear hh h1 k1
      go_wp2_with fail
      have hh := HH.out
      refine (tput_r HE2 hh0 hwx hh).mono ?_
      rintro e_ w2 ⟨rfl, h2, k2⟩
      replace HH := hid h2
      replace kk := hid (kk.out.trans k2)
      clear hh h2 k2
      go_wp2_with fail
      go_ret2
      exact ⟨rfl, HH.out, kk.out⟩
    · skip
      have hs : s.takeG hd p = ((0, f), s2) := by
        unfold Wd.takeG
        simp [eq1, eq2, hzf]
      rw [hs]
      have HE1 : Hid (_ = _) := eq1
      have HE2 : Hid (_ = _) := eq2
      clear hs eq1 eq2
      have kk : Hid (Keeps (two b g) w w) := Keeps.refl _ w
      go_enter Try.func85, Try.ntmps85
      go_wp2_with fail
      have hh := HH.out
      refine (tget_r HE1 hp hh).mono ?_
      rintro e_ w1 ⟨rfl, h1, k1⟩
      replace HH := hid h1
      replace kk := hid (kk.out.trans k1)
      clear hh h1 k1
      go_wp2_with fail
      have hh := HH.out
      refine (tput_r HE2 hh0 hwx hh).mono ?_
      rintro e_ w2 ⟨rfl, h2, k2⟩
      replace HH := hid h2
      replace kk := hid (kk.out.trans k2)
      clear hh h2 k2
      go_wp2_with fail
      go_ret2
      exact ⟨rfl, HH.out, kk.out⟩
  · skip
    have hs : s.takeG hd p = ((0, e), s1) := by
      unfold Wd.takeG
      simp [eq1, hze]
    rw [hs]
    have HE1 : Hid (_ = _) := eq1
    clear hs eq1
    have kk : Hid (Keeps (two b g) w w) := Keeps.refl _ w
    go_enter Try.func85, Try.ntmps85
    go_wp2_with fail
    have hh := HH.out
    refine (tget_r HE1 hp hh).mono ?_
    rintro e_ w1 ⟨rfl, h1, k1⟩
    replace HH := hid h1
    replace kk := hid (kk.out.trans k1)
    clear hh h1 k1
    go_wp2_with fail
    go_ret2
    exact ⟨rfl, HH.out, kk.out⟩
theorem takeG_r {b g c : Nat} {s : Wd} {hd p x1 e1 : Int} {s1 : Wd} (heq : Hid (s.takeG hd p = ((x1, e1), s1))) (hh0 : isW hd) (hp : isW p) {w : World} (h : WdAt w b g c s) :
    Calls Try.prog 85 #[.iface 24 (.pointer (some ⟨b, 0, none⟩)), .int .u64 hd, .int .u64 p] w fun e w' => e = .returned (.tuple #[.int .u64 x1, .int .i64 e1]) ∧ WdAt w' b g c s1 ∧ Keeps (two b g) w w' := by
  have q := takeG_any b g c s hd p hh0 hp w h
  rw [heq.out] at q
  exact q
end Go.Proofs.Ytalopkllldnipaa


/- The walks of room's functions (layer 24). No statement of the seat is proved here. -/
namespace Go.Proofs.Ytalopkllldnipaa
open Go.RowKit

set_option maxHeartbeats 2000000 in
theorem unused_any (b g c : Nat) (s : Wd) (a : Int) (ha : isW a) (w : World) (h : WdAt w b g c s) :
    Calls Try.prog 44 #[.iface 24 (.pointer (some ⟨b, 0, none⟩)), .int .u64 a] w fun e w' => e = .returned (.tuple #[.int .u64 (s.free a).1.1, .int .u64 (s.free a).1.2.1, .int .i64 (s.free a).1.2.2]) ∧ WdAt w' b g c (s.free a).2 ∧ Keeps (two b g) w w' := by
  have mg := meth_get b
  have mp := meth_put b
  have ng := nil_get b
  have np := nil_put b
  have oks : s.Ok := h.ok
  have HH := hid h
  clear h
  obtain ⟨⟨⟨x, e⟩, s1⟩, eq1⟩ : ∃ r, s.get (a) = r := ⟨_, rfl⟩
  have hwx : isW x := get_isW eq1 oks
  have oks1 : s1.Ok := by have q := (oks.get (a)).1; rw [eq1] at q; exact q
  by_cases hze : e = 0
  · subst hze
    obtain ⟨⟨⟨y, f⟩, s2⟩, eq2⟩ : ∃ r, s1.get (endA a) = r := ⟨_, rfl⟩
    have hwy : isW y := get_isW eq2 oks1
    have oks2 : s2.Ok := by have q := (oks1.get (endA a)).1; rw [eq2] at q; exact q
    by_cases hzf : f = 0
    · subst hzf
      by_cases hxy : x < y
      · skip
        have hs : s.free a = ((x, uw (y - x), 0), s2) := by
          unfold Wd.free
          simp [eq1, eq2, hxy]
        rw [hs]
        have HE1 : Hid (_ = _) := eq1
        have HE2 : Hid (_ = _) := eq2
        clear hs eq1 eq2
        have kk : Hid (Keeps (two b g) w w) := Keeps.refl _ w
        go_enter Try.func44, Try.ntmps44
        go_wp2_with fail
        have hh := HH.out
        refine (tget_r HE1 ha hh).mono ?_
        rintro e_ w1 ⟨rfl, h1, k1⟩
        replace HH := hid h1
        replace kk := hid (kk.out.trans k1)
        clear hh h1 k1
        go_wp2_with fail
        have HT : Hid (∀ X : World, X.heap = w1.heap → X.os = w1.os → X.tape = w1.tape → X.output = w1.output → Calls Try.prog 119 #[.pointer (some ⟨b, 0, none⟩), .int .u64 (endA a)] X fun r w' => r = .returned _ ∧ WdAt w' b g c s2 ∧ Keeps (two b g) w w') := fun X e1 e2 e3 e4 => ((tget_r HE2 (uw_isW _) (HH.out.like e1)).mono fun r w' hq => ⟨hq.1, hq.2.1, (kk.out.like e1 e2 e3 e4).trans hq.2.2⟩)
        clear HH kk
        go_region_held3 (fun _ : World => True) (trivial) ((first | (go_at_call 64; refine (endOf_any a _).mono ?_; rintro e_ w_ ⟨rfl, rfl⟩) | (go_at_call 119; refine (HT.out _ (by exact rfl) (by exact rfl) (by exact rfl) (by exact rfl)).mono ?_; rintro e_ w2 ⟨rfl, h2, k2⟩)))
        all_goals have HH := hid h2
        all_goals have kk := hid k2
        all_goals clear HT h2 k2
        all_goals go_wp2_with fail
        all_goals go_ret3
        all_goals exact ⟨rfl, HH.out, kk.out⟩
      · skip
        have hs : s.free a = ((x, 0, 0), s2) := by
          unfold Wd.free
          simp [eq1, eq2, hxy]
        rw [hs]
        have HE1 : Hid (_ = _) := eq1
        have HE2 : Hid (_ = _) := eq2
        clear hs eq1 eq2
        have kk : Hid (Keeps (two b g) w w) := Keeps.refl _ w
        go_enter Try.func44, Try.ntmps44
        go_wp2_with fail
        have hh := HH.out
        refine (tget_r HE1 ha hh).mono ?_
        rintro e_ w1 ⟨rfl, h1, k1⟩
        replace HH := hid h1
        replace kk := hid (kk.out.trans k1)
        clear hh h1 k1
        go_wp2_with fail
        have HT : Hid (∀ X : World, X.heap = w1.heap → X.os = w1.os → X.tape = w1.tape → X.output = w1.output → Calls Try.prog 119 #[.pointer (some ⟨b, 0, none⟩), .int .u64 (endA a)] X fun r w' => r = .returned _ ∧ WdAt w' b g c s2 ∧ Keeps (two b g) w w') := fun X e1 e2 e3 e4 => ((tget_r HE2 (uw_isW _) (HH.out.like e1)).mono fun r w' hq => ⟨hq.1, hq.2.1, (kk.out.like e1 e2 e3 e4).trans hq.2.2⟩)
        clear HH kk
        go_region_held3 (fun _ : World => True) (trivial) ((first | (go_at_call 64; refine (endOf_any a _).mono ?_; rintro e_ w_ ⟨rfl, rfl⟩) | (go_at_call 119; refine (HT.out _ (by exact rfl) (by exact rfl) (by exact rfl) (by exact rfl)).mono ?_; rintro e_ w2 ⟨rfl, h2, k2⟩)))
        all_goals have HH := hid h2
        all_goals have kk := hid k2
        all_goals clear HT h2 k2
        all_goals go_wp2_with fail
        all_goals go_ret3
        all_goals exact ⟨rfl, HH.out, kk.out⟩
    · skip
      have hs : s.free a = ((0, 0, f), s2) := by
        unfold Wd.free
        simp [eq1, eq2, hzf]
      rw [hs]
      have HE1 : Hid (_ = _) := eq1
      have HE2 : Hid (_ = _) := eq2
      clear hs eq1 eq2
      have kk : Hid (Keeps (two b g) w w) := Keeps.refl _ w
      go_enter Try.func44, Try.ntmps44
      go_wp2_with fail
      have hh := HH.out
      refine (tget_r HE1 ha hh).mono ?_
      rintro e_ w1 ⟨rfl, h1, k1⟩
      replace HH := hid h1
      replace kk := hid (kk.out.trans k1)
      clear hh h1 k1
      go_wp2_with fail
      have HT : Hid (∀ X : World, X.heap = w1.heap → X.os = w1.os → X.tape = w1.tape → X.output = w1.output → Calls Try.prog 119 #[.pointer (some ⟨b, 0, none⟩), .int .u64 (endA a)] X fun r w' => r = .returned _ ∧ WdAt w' b g c s2 ∧ Keeps (two b g) w w') := fun X e1 e2 e3 e4 => ((tget_r HE2 (uw_isW _) (HH.out.like e1)).mono fun r w' hq => ⟨hq.1, hq.2.1, (kk.out.like e1 e2 e3 e4).trans hq.2.2⟩)
      clear HH kk
      go_region_held3 (fun _ : World => True) (trivial) ((first | (go_at_call 64; refine (endOf_any a _).mono ?_; rintro e_ w_ ⟨rfl, rfl⟩) | (go_at_call 119; refine (HT.out _ (by exact rfl) (by exact rfl) (by exact rfl) (by exact rfl)).mono ?_; rintro e_ w2 ⟨rfl, h2, k2⟩)))
      all_goals have HH := hid h2
      all_goals have kk := hid k2
      all_goals clear HT h2 k2
      all_goals go_wp2_with fail
      all_goals go_ret3
      all_goals exact ⟨rfl, HH.out, kk.out⟩
  · skip
    have hs : s.free a = ((0, 0, e), s1) := by
      unfold Wd.free
      simp [eq1, hze]
    rw [hs]
    have HE1 : Hid (_ = _) := eq1
    clear hs eq1
    have kk : Hid (Keeps (two b g) w w) := Keeps.refl _ w
    go_enter Try.func44, Try.ntmps44
    go_wp2_with fail
    have hh := HH.out
    refine (tget_r HE1 ha hh).mono ?_
    rintro e_ w1 ⟨rfl, h1, k1⟩
    replace HH := hid h1
    replace kk := hid (kk.out.trans k1)
    clear hh h1 k1
    go_wp2_with fail
    go_ret3
    exact ⟨rfl, HH.out, kk.out⟩
theorem unused_r {b g c : Nat} {s : Wd} {a x1 y1 e1 : Int} {s1 : Wd} (heq : Hid (s.free a = ((x1, y1, e1), s1))) (ha : isW a) {w : World} (h : WdAt w b g c s) :
    Calls Try.prog 44 #[.iface 24 (.pointer (some ⟨b, 0, none⟩)), .int .u64 a] w fun e w' => e = .returned (.tuple #[.int .u64 x1, .int .u64 y1, .int .i64 e1]) ∧ WdAt w' b g c s1 ∧ Keeps (two b g) w w' := by
  have q := unused_any b g c s a ha w h
  rw [heq.out] at q
  exact q
end Go.Proofs.Ytalopkllldnipaa


/- The walks of room's functions (layer 24). No statement of the seat is proved here. -/
namespace Go.Proofs.Ytalopkllldnipaa
open Go.RowKit

set_option maxHeartbeats 2000000 in
theorem takeN_any (b g c : Nat) (s : Wd) (a n : Int) (ha : isW a) (w : World) (h : WdAt w b g c s) :
    Calls Try.prog 84 #[.iface 24 (.pointer (some ⟨b, 0, none⟩)), .int .u64 a, .int .u64 n] w fun e w' => e = .returned (.tuple #[.int .u64 (s.takeN a n).1.1, .int .i64 (s.takeN a n).1.2]) ∧ WdAt w' b g c (s.takeN a n).2 ∧ Keeps (two b g) w w' := by
  have mg := meth_get b
  have mp := meth_put b
  have ng := nil_get b
  have np := nil_put b
  have oks : s.Ok := h.ok
  have HH := hid h
  clear h
  obtain ⟨⟨⟨x, y, e⟩, s1⟩, eq1⟩ : ∃ r, s.free a = r := ⟨_, rfl⟩
  by_cases hze : e = 0
  · subst hze
    by_cases hyn : y < n
    · skip
      have hs : s.takeN a n = ((0, 9), s1) := by
        unfold Wd.takeN
        simp [eq1, hyn]
      rw [hs]
      have HE1 : Hid (_ = _) := eq1
      clear hs eq1
      have kk : Hid (Keeps (two b g) w w) := Keeps.refl _ w
      go_enter Try.func84, Try.ntmps84
      go_wp2_with fail
      have hh := HH.out
      refine (unused_r HE1 ha hh).mono ?_
      rintro e_ w1 ⟨rfl, h1, k1⟩
      replace HH := hid h1
      replace kk := hid (kk.out.trans k1)
      clear hh h1 k1
      go_wp2_with fail
      go_ret2
      exact ⟨rfl, HH.out, kk.out⟩
    · skip
      obtain ⟨⟨f, s2⟩, eq2⟩ : ∃ r, s1.put (a) (uw (x + n)) = r := ⟨_, rfl⟩
      by_cases hzf : f = 0
      · subst hzf
        have hs : s.takeN a n = ((x, 0), s2) := by
          unfold Wd.takeN
          simp [eq1, eq2, hyn]
        rw [hs]
        have HE1 : Hid (_ = _) := eq1
        have HE2 : Hid (_ = _) := eq2
        clear hs eq1 eq2
        have kk : Hid (Keeps (two b g) w w) := Keeps.refl _ w
        go_enter Try.func84, Try.ntmps84
        go_wp2_with fail
        have hh := HH.out
        refine (unused_r HE1 ha hh).mono ?_
        rintro e_ w1 ⟨rfl, h1, k1⟩
        replace HH := hid h1
        replace kk := hid (kk.out.trans k1)
        clear hh h1 k1
        go_wp2_with fail
        have hh := HH.out
        refine (tput_r HE2 ha (uw_isW _) hh).mono ?_
        rintro e_ w2 ⟨rfl, h2, k2⟩
        replace HH := hid h2
        replace kk := hid (kk.out.trans k2)
        clear hh h2 k2
        go_wp2_with fail
        go_ret2
        exact ⟨rfl, HH.out, kk.out⟩
      · skip
        have hs : s.takeN a n = ((0, f), s2) := by
          unfold Wd.takeN
          simp [eq1, eq2, hyn, hzf]
        rw [hs]
        have HE1 : Hid (_ = _) := eq1
        have HE2 : Hid (_ = _) := eq2
        clear hs eq1 eq2
        have kk : Hid (Keeps (two b g) w w) := Keeps.refl _ w
        go_enter Try.func84, Try.ntmps84
        go_wp2_with fail
        have hh := HH.out
        refine (unused_r HE1 ha hh).mono ?_
        rintro e_ w1 ⟨rfl, h1, k1⟩
        replace HH := hid h1
        replace kk := hid (kk.out.trans k1)
        clear hh h1 k1
        go_wp2_with fail
        have hh := HH.out
        refine (tput_r HE2 ha (uw_isW _) hh).mono ?_
        rintro e_ w2 ⟨rfl, h2, k2⟩
        replace HH := hid h2
        replace kk := hid (kk.out.trans k2)
        clear hh h2 k2
        go_wp2_with fail
        go_ret2
        exact ⟨rfl, HH.out, kk.out⟩
  · skip
    have hs : s.takeN a n = ((0, e), s1) := by
      unfold Wd.takeN
      simp [eq1, hze]
    rw [hs]
    have HE1 : Hid (_ = _) := eq1
    clear hs eq1
    have kk : Hid (Keeps (two b g) w w) := Keeps.refl _ w
    go_enter Try.func84, Try.ntmps84
    go_wp2_with fail
    have hh := HH.out
    refine (unused_r HE1 ha hh).mono ?_
    rintro e_ w1 ⟨rfl, h1, k1⟩
    replace HH := hid h1
    replace kk := hid (kk.out.trans k1)
    clear hh h1 k1
    go_wp2_with fail
    go_ret2
    exact ⟨rfl, HH.out, kk.out⟩
theorem takeN_r {b g c : Nat} {s : Wd} {a n x1 e1 : Int} {s1 : Wd} (heq : Hid (s.takeN a n = ((x1, e1), s1))) (ha : isW a) {w : World} (h : WdAt w b g c s) :
    Calls Try.prog 84 #[.iface 24 (.pointer (some ⟨b, 0, none⟩)), .int .u64 a, .int .u64 n] w fun e w' => e = .returned (.tuple #[.int .u64 x1, .int .i64 e1]) ∧ WdAt w' b g c s1 ∧ Keeps (two b g) w w' := by
  have q := takeN_any b g c s a n ha w h
  rw [heq.out] at q
  exact q
end Go.Proofs.Ytalopkllldnipaa


/- The walks of room's functions (layer 24). No statement of the seat is proved here. -/
namespace Go.Proofs.Ytalopkllldnipaa
open Go.RowKit

set_option maxHeartbeats 2000000 in
theorem take_any (b g c : Nat) (s : Wd) (a n : Int) (ha : isW a) (w : World) (h : WdAt w b g c s) :
    Calls Try.prog 62 #[.iface 24 (.pointer (some ⟨b, 0, none⟩)), .int .u64 a, .int .u64 n] w fun e w' => e = .returned (.tuple #[.int .u64 (s.take a n).1.1, .int .i64 (s.take a n).1.2]) ∧ WdAt w' b g c (s.take a n).2 ∧ Keeps (two b g) w w' := by
  have mg := meth_get b
  have mp := meth_put b
  have ng := nil_get b
  have np := nil_put b
  have oks : s.Ok := h.ok
  have HH := hid h
  clear h
  by_cases hm : mayN n
  · skip
    obtain ⟨⟨⟨x, e⟩, s1⟩, eq1⟩ : ∃ r, s.get (hdA a n) = r := ⟨_, rfl⟩
    have hwx : isW x := get_isW eq1 oks
    have oks1 : s1.Ok := by have q := (oks.get (hdA a n)).1; rw [eq1] at q; exact q
    by_cases hze : e = 0
    · subst hze
      by_cases hzx : x = 0
      · subst hzx
        obtain ⟨⟨⟨y, f⟩, s2⟩, eq2⟩ : ∃ r, s1.takeN a n = r := ⟨_, rfl⟩
        have hs : s.take a n = ((y, f), s2) := by
          unfold Wd.take
          simp [eq1, eq2, hm]
        rw [hs]
        have HE1 : Hid (_ = _) := eq1
        have HE2 : Hid (_ = _) := eq2
        clear hs eq1 eq2
        have kk : Hid (Keeps (two b g) w w) := Keeps.refl _ w
        go_enter Try.func62, Try.ntmps62
        go_wp2_with fail
        refine (may_yes b n hm _).mono ?_
        rintro e_ w_ ⟨rfl, rfl⟩
        go_wp2_with fail
        refine (headOf_any a n _).mono ?_
        rintro e_ w_ ⟨rfl, rfl⟩
        go_wp2_with fail
        have hh := HH.out
        refine (tget_r HE1 (uw_isW _) hh).mono ?_
        rintro e_ w1 ⟨rfl, h1, k1⟩
        replace HH := hid h1
        replace kk := hid (kk.out.trans k1)
        clear hh h1 k1
        go_wp2_with fail
        have hh := HH.out
        refine (takeN_r HE2 ha hh).mono ?_
        rintro e_ w2 ⟨rfl, h2, k2⟩
        replace HH := hid h2
        replace kk := hid (kk.out.trans k2)
        clear hh h2 k2
        go_wp2_with fail
        go_ret2
        exact ⟨rfl, HH.out, kk.out⟩
      · skip
        obtain ⟨⟨⟨y, f⟩, s2⟩, eq2⟩ : ∃ r, s1.takeG (hdA a n) (uw (x - 1)) = r := ⟨_, rfl⟩
        have hs : s.take a n = ((y, f), s2) := by
          unfold Wd.take
          simp [eq1, eq2, hm, hzx]
        rw [hs]
        have HE1 : Hid (_ = _) := eq1
        have HE2 : Hid (_ = _) := eq2
        clear hs eq1 eq2
        have kk : Hid (Keeps (two b g) w w) := Keeps.refl _ w
        go_enter Try.func62, Try.ntmps62
        go_wp2_with fail
        refine (may_yes b n hm _).mono ?_
        rintro e_ w_ ⟨rfl, rfl⟩
        go_wp2_with fail
        refine (headOf_any a n _).mono ?_
        rintro e_ w_ ⟨rfl, rfl⟩
        go_wp2_with fail
        have hh := HH.out
        refine (tget_r HE1 (uw_isW _) hh).mono ?_
        rintro e_ w1 ⟨rfl, h1, k1⟩
        replace HH := hid h1
        replace kk := hid (kk.out.trans k1)
        clear hh h1 k1
        go_wp2_with fail
        have hh := HH.out
        refine (takeG_r HE2 (uw_isW _) (uw_isW _) hh).mono ?_
        rintro e_ w2 ⟨rfl, h2, k2⟩
        replace HH := hid h2
        replace kk := hid (kk.out.trans k2)
        clear hh h2 k2
        go_wp2_with fail
        go_ret2
        exact ⟨rfl, HH.out, kk.out⟩
    · skip
      have hs : s.take a n = ((0, e), s1) := by
        unfold Wd.take
        simp [eq1, hm, hze]
      rw [hs]
      have HE1 : Hid (_ = _) := eq1
      clear hs eq1
      have kk : Hid (Keeps (two b g) w w) := Keeps.refl _ w
      go_enter Try.func62, Try.ntmps62
      go_wp2_with fail
      refine (may_yes b n hm _).mono ?_
      rintro e_ w_ ⟨rfl, rfl⟩
      go_wp2_with fail
      refine (headOf_any a n _).mono ?_
      rintro e_ w_ ⟨rfl, rfl⟩
      go_wp2_with fail
      have hh := HH.out
      refine (tget_r HE1 (uw_isW _) hh).mono ?_
      rintro e_ w1 ⟨rfl, h1, k1⟩
      replace HH := hid h1
      replace kk := hid (kk.out.trans k1)
      clear hh h1 k1
      go_wp2_with fail
      go_ret2
      exact ⟨rfl, HH.out, kk.out⟩
  · skip
    have hs : s.take a n = ((0, 2), s) := by
      unfold Wd.take
      simp [hm]
    rw [hs]
    clear hs
    have kk : Hid (Keeps (two b g) w w) := Keeps.refl _ w
    go_enter Try.func62, Try.ntmps62
    go_wp2_with fail
    refine (may_no b n hm _).mono ?_
    rintro e_ w_ ⟨rfl, rfl⟩
    go_wp2_with fail
    go_ret2
    exact ⟨rfl, HH.out, kk.out⟩
theorem take_r {b g c : Nat} {s : Wd} {a n x1 e1 : Int} {s1 : Wd} (heq : Hid (s.take a n = ((x1, e1), s1))) (ha : isW a) {w : World} (h : WdAt w b g c s) :
    Calls Try.prog 62 #[.iface 24 (.pointer (some ⟨b, 0, none⟩)), .int .u64 a, .int .u64 n] w fun e w' => e = .returned (.tuple #[.int .u64 x1, .int .i64 e1]) ∧ WdAt w' b g c s1 ∧ Keeps (two b g) w w' := by
  have q := take_any b g c s a n ha w h
  rw [heq.out] at q
  exact q
end Go.Proofs.Ytalopkllldnipaa


/- The walks of room's functions (layer 24). No statement of the seat is proved here. -/
namespace Go.Proofs.Ytalopkllldnipaa
open Go.RowKit

set_option maxHeartbeats 2000000 in
theorem give_any (b g c : Nat) (s : Wd) (a p n : Int) (hp : isW p) (w : World) (h : WdAt w b g c s) :
    Calls Try.prog 61 #[.iface 24 (.pointer (some ⟨b, 0, none⟩)), .int .u64 a, .int .u64 p, .int .u64 n] w fun e w' => e = .returned (.int .i64 (s.give a p n).1) ∧ WdAt w' b g c (s.give a p n).2 ∧ Keeps (two b g) w w' := by
  have mg := meth_get b
  have mp := meth_put b
  have ng := nil_get b
  have np := nil_put b
  have oks : s.Ok := h.ok
  have HH := hid h
  clear h
  by_cases hm : mayN n
  · skip
    obtain ⟨⟨⟨x, e⟩, s1⟩, eq1⟩ : ∃ r, s.get (hdA a n) = r := ⟨_, rfl⟩
    have hwx : isW x := get_isW eq1 oks
    have oks1 : s1.Ok := by have q := (oks.get (hdA a n)).1; rw [eq1] at q; exact q
    by_cases hze : e = 0
    · subst hze
      obtain ⟨⟨f, s2⟩, eq2⟩ : ∃ r, s1.put (p) (x) = r := ⟨_, rfl⟩
      have oks2 : s2.Ok := by have q := oks1.put (p) (hwx : isW (x)); rw [eq2] at q; exact q
      by_cases hzf : f = 0
      · subst hzf
        obtain ⟨⟨f2, s3⟩, eq3⟩ : ∃ r, s2.put (hdA a n) (uw (p + 1)) = r := ⟨_, rfl⟩
        have oks3 : s3.Ok := by have q := oks2.put (hdA a n) ((uw_isW _) : isW (uw (p + 1))); rw [eq3] at q; exact q
        have hs : s.give a p n = (f2, s3) := by
          unfold Wd.give
          simp [eq1, eq2, eq3, hm]
        rw [hs]
        have HE1 : Hid (_ = _) := eq1
        have HE2 : Hid (_ = _) := eq2
        have HE3 : Hid (_ = _) := eq3
        clear hs eq1 eq2 eq3
        have kk : Hid (Keeps (two b g) w w) := Keeps.refl _ w
        go_enter Try.func61, Try.ntmps61
        go_wp2_with fail
        refine (may_yes b n hm _).mono ?_
        rintro e_ w_ ⟨rfl, rfl⟩
        go_wp2_with fail
        refine (headOf_any a n _).mono ?_
        rintro e_ w_ ⟨rfl, rfl⟩
        go_wp2_with fail
        have hh := HH.out
        refine (tget_r HE1 (uw_isW _) hh).mono ?_
        rintro e_ w1 ⟨rfl, h1, k1⟩
        replace HH := hid h1
        replace kk := hid (kk.out.trans k1)
        clear hh h1 k1
        go_wp2_with fail
        have hh := HH.out
        refine (tput_r HE2 hp hwx hh).mono ?_
        rintro e_ w2 ⟨rfl, h2, k2⟩
        replace HH := hid h2
        replace kk := hid (kk.out.trans k2)
        clear hh h2 k2
        go_wp2_with fail
        have hh := HH.out
        refine (tput_r HE3 (uw_isW _) (uw_isW _) hh).mono ?_
        rintro e_ w3 ⟨rfl, h3, k3⟩
        replace HH := hid h3
        replace kk := hid (kk.out.trans k3)
        clear hh h3 k3
        go_wp2_with fail
        go_ret
        exact ⟨rfl, HH.out, kk.out⟩
      · skip
        have hs : s.give a p n = (f, s2) := by
          unfold Wd.give
          simp [eq1, eq2, hm, hzf]
        rw [hs]
        have HE1 : Hid (_ = _) := eq1
        have HE2 : Hid (_ = _) := eq2
        clear hs eq1 eq2
        have kk : Hid (Keeps (two b g) w w) := Keeps.refl _ w
        go_enter Try.func61, Try.ntmps61
        go_wp2_with fail
        refine (may_yes b n hm _).mono ?_
        rintro e_ w_ ⟨rfl, rfl⟩
        go_wp2_with fail
        refine (headOf_any a n _).mono ?_
        rintro e_ w_ ⟨rfl, rfl⟩
        go_wp2_with fail
        have hh := HH.out
        refine (tget_r HE1 (uw_isW _) hh).mono ?_
        rintro e_ w1 ⟨rfl, h1, k1⟩
        replace HH := hid h1
        replace kk := hid (kk.out.trans k1)
        clear hh h1 k1
        go_wp2_with fail
        have hh := HH.out
        refine (tput_r HE2 hp hwx hh).mono ?_
        rintro e_ w2 ⟨rfl, h2, k2⟩
        replace HH := hid h2
        replace kk := hid (kk.out.trans k2)
        clear hh h2 k2
        go_wp2_with fail
        go_ret
        exact ⟨rfl, HH.out, kk.out⟩
    · skip
      have hs : s.give a p n = (e, s1) := by
        unfold Wd.give
        simp [eq1, hm, hze]
      rw [hs]
      have HE1 : Hid (_ = _) := eq1
      clear hs eq1
      have kk : Hid (Keeps (two b g) w w) := Keeps.refl _ w
      go_enter Try.func61, Try.ntmps61
      go_wp2_with fail
      refine (may_yes b n hm _).mono ?_
      rintro e_ w_ ⟨rfl, rfl⟩
      go_wp2_with fail
      refine (headOf_any a n _).mono ?_
      rintro e_ w_ ⟨rfl, rfl⟩
      go_wp2_with fail
      have hh := HH.out
      refine (tget_r HE1 (uw_isW _) hh).mono ?_
      rintro e_ w1 ⟨rfl, h1, k1⟩
      replace HH := hid h1
      replace kk := hid (kk.out.trans k1)
      clear hh h1 k1
      go_wp2_with fail
      go_ret
      exact ⟨rfl, HH.out, kk.out⟩
  · skip
    have hs : s.give a p n = (2, s) := by
      unfold Wd.give
      simp [hm]
    rw [hs]
    clear hs
    have kk : Hid (Keeps (two b g) w w) := Keeps.refl _ w
    go_enter Try.func61, Try.ntmps61
    go_wp2_with fail
    refine (may_no b n hm _).mono ?_
    rintro e_ w_ ⟨rfl, rfl⟩
    go_wp2_with fail
    go_ret
    exact ⟨rfl, HH.out, kk.out⟩
theorem give_r {b g c : Nat} {s : Wd} {a p n e1 : Int} {s1 : Wd} (heq : Hid (s.give a p n = (e1, s1))) (hp : isW p) {w : World} (h : WdAt w b g c s) :
    Calls Try.prog 61 #[.iface 24 (.pointer (some ⟨b, 0, none⟩)), .int .u64 a, .int .u64 p, .int .u64 n] w fun e w' => e = .returned (.int .i64 e1) ∧ WdAt w' b g c s1 ∧ Keeps (two b g) w w' := by
  have q := give_any b g c s a p n hp w h
  rw [heq.out] at q
  exact q
end Go.Proofs.Ytalopkllldnipaa
