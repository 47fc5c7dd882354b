
/- The statement's call, by its kinds (layer 23). No statement of the seat is proved here. -/
import Derived.Test.YtadbplbifjeghaaQwD
namespace Go.Proofs.Ytadbplbifjeghaa
open Go.RowKit

/-- A call's error, and whether all is zero. -/
def callW (kd q x : Int) (s : Wd) : (Int × Bool) × Wd :=
  if kd = 0 then (((Wd.qnew 0 s).1.2, (Wd.qnew 0 s).1.1 == 0), (Wd.qnew 0 s).2)
  else if kd = 1 then (((Wd.qput 0 q x s).1.2, true), (Wd.qput 0 q x s).2)
  else if kd = 2 then (((Wd.qtake 0 q s).1.2, (Wd.qtake 0 q s).1.1.1 == 0 && !(Wd.qtake 0 q s).1.1.2), (Wd.qtake 0 q s).2)
  else if kd = 3 then (((Wd.qfirst q s).1.2, (Wd.qfirst q s).1.1.1 == 0 && !(Wd.qfirst q s).1.1.2), (Wd.qfirst q s).2)
  else if kd = 4 then (((Wd.qlen q s).1.2, (Wd.qlen q s).1.1 == 0), (Wd.qlen q s).2)
  else if kd = 5 then (((Wd.qwords q s).1.2, ((Wd.qwords q s).1.1.length : Int) == 0), (Wd.qwords q s).2)
  else (((Wd.qdrop 0 q s).1.2, true), (Wd.qdrop 0 q s).2)
set_option maxRecDepth 100000 in
set_option maxHeartbeats 4000000 in
theorem call_0 (t b g c : Nat) (s : Wd) (on q x : Int) (_hq : isW q) (_hx : isW x) (w : World) (h : Tw w t b g c s) :
    Calls Try.prog 14 #[.pointer (some ⟨t, 0, none⟩), .int .u64 q, .agg #[.int .i64 0, .int .i64 on, .int .u64 x]] w fun e w' => e = .returned (.tuple #[.int .i64 (callW 0 q x s).1.1, .bool (callW 0 q x s).1.2]) ∧ Tw w' t b g c (callW 0 q x s).2 ∧ Keeps (two b g) w w' := by
  obtain ⟨⟨⟨x1, e1⟩, s1⟩, eq1⟩ : ∃ rr, Wd.qnew 0 s = rr := ⟨_, rfl⟩
  have hs : callW 0 q x s = ((e1, x1 == 0), s1) := by
    unfold callW
    simp [ eq1]
  rw [hs]
  have HE : Hid (_ = _) := eq1
  have HH := hid h
  clear hs eq1 h
  go_enter Try.func14, Try.ntmps14
  go_wp2_with fail
  have hh := HH.out.alloc (.cells #[.int .i64 0, .int .i64 on, .int .u64 x] 35)
  refine (qnew_r HE (lit_isW 0 (by omega)) hh).mono ?_
  rintro e_ w1 ⟨rfl, h1, k1⟩
  have HF := hid (And.intro h1 (((Keeps.refl (two b g) w).alloc _).trans k1))
  clear hh h1 k1 HE HH
  go_wp2_with (go_at_call 16; refine (num_any _ _).mono ?_; rintro e_ w_ ⟨rfl, hw_⟩; subst w_)
  go_ret2
  exact ⟨rfl, HF.out.1, HF.out.2⟩
set_option maxRecDepth 100000 in
set_option maxHeartbeats 4000000 in
theorem call_1 (t b g c : Nat) (s : Wd) (on q x : Int) (hq : isW q) (hx : isW x) (w : World) (h : Tw w t b g c s) :
    Calls Try.prog 14 #[.pointer (some ⟨t, 0, none⟩), .int .u64 q, .agg #[.int .i64 1, .int .i64 on, .int .u64 x]] w fun e w' => e = .returned (.tuple #[.int .i64 (callW 1 q x s).1.1, .bool (callW 1 q x s).1.2]) ∧ Tw w' t b g c (callW 1 q x s).2 ∧ Keeps (two b g) w w' := by
  obtain ⟨⟨⟨⟨⟩, e1⟩, s1⟩, eq1⟩ : ∃ rr, Wd.qput 0 q x s = rr := ⟨_, rfl⟩
  have hs : callW 1 q x s = ((e1, true), s1) := by
    unfold callW
    simp [ eq1]
  rw [hs]
  have HE : Hid (_ = _) := eq1
  have HH := hid h
  clear hs eq1 h
  go_enter Try.func14, Try.ntmps14
  go_wp2_with fail
  have hh := HH.out.alloc (.cells #[.int .i64 1, .int .i64 on, .int .u64 x] 35)
  refine (qpush_r HE (lit_isW 0 (by omega)) hq hx hh).mono ?_
  rintro e_ w1 ⟨rfl, h1, k1⟩
  have HF := hid (And.intro h1 (((Keeps.refl (two b g) w).alloc _).trans k1))
  clear hh h1 k1 HE HH
  go_wp2_with (go_at_call 16; refine (num_any _ _).mono ?_; rintro e_ w_ ⟨rfl, hw_⟩; subst w_)
  go_ret2
  exact ⟨rfl, HF.out.1, HF.out.2⟩
set_option maxRecDepth 100000 in
set_option maxHeartbeats 4000000 in
theorem call_2 (t b g c : Nat) (s : Wd) (on q x : Int) (hq : isW q) (_hx : isW x) (w : World) (h : Tw w t b g c s) :
    Calls Try.prog 14 #[.pointer (some ⟨t, 0, none⟩), .int .u64 q, .agg #[.int .i64 2, .int .i64 on, .int .u64 x]] w fun e w' => e = .returned (.tuple #[.int .i64 (callW 2 q x s).1.1, .bool (callW 2 q x s).1.2]) ∧ Tw w' t b g c (callW 2 q x s).2 ∧ Keeps (two b g) w w' := by
  obtain ⟨⟨⟨⟨x1, b1⟩, e1⟩, s1⟩, eq1⟩ : ∃ rr, Wd.qtake 0 q s = rr := ⟨_, rfl⟩
  have hs : callW 2 q x s = ((e1, x1 == 0 && !b1), s1) := by
    unfold callW
    simp [ eq1]
  rw [hs]
  have HE : Hid (_ = _) := eq1
  have HH := hid h
  clear hs eq1 h
  go_enter Try.func14, Try.ntmps14
  go_wp2_with fail
  have hh := HH.out.alloc (.cells #[.int .i64 2, .int .i64 on, .int .u64 x] 35)
  refine (qtake_r HE (lit_isW 0 (by omega)) hq hh).mono ?_
  rintro e_ w1 ⟨rfl, h1, k1⟩
  have HF := hid (And.intro h1 (((Keeps.refl (two b g) w).alloc _).trans k1))
  clear hh h1 k1 HE HH
  by_cases hx0 : x1 = 0
  · skip
    cases b1 with
    | false =>
      go_wp2_with (go_at_call 16; refine (num_any _ _).mono ?_; rintro e_ w_ ⟨rfl, hw_⟩; subst w_)
      go_ret2
      exact ⟨by simp [hx0], HF.out.1, HF.out.2⟩
    | true =>
      go_wp2_with (go_at_call 16; refine (num_any _ _).mono ?_; rintro e_ w_ ⟨rfl, hw_⟩; subst w_)
      go_ret2
      exact ⟨by simp [hx0], HF.out.1, HF.out.2⟩
  · skip
    cases b1 with
    | false =>
      go_wp2_with (go_at_call 16; refine (num_any _ _).mono ?_; rintro e_ w_ ⟨rfl, hw_⟩; subst w_)
      go_ret2
      exact ⟨by simp [hx0], HF.out.1, HF.out.2⟩
    | true =>
      go_wp2_with (go_at_call 16; refine (num_any _ _).mono ?_; rintro e_ w_ ⟨rfl, hw_⟩; subst w_)
      go_ret2
      exact ⟨by simp, HF.out.1, HF.out.2⟩
set_option maxRecDepth 100000 in
set_option maxHeartbeats 4000000 in
theorem call_3 (t b g c : Nat) (s : Wd) (on q x : Int) (hq : isW q) (_hx : isW x) (w : World) (h : Tw w t b g c s) :
    Calls Try.prog 14 #[.pointer (some ⟨t, 0, none⟩), .int .u64 q, .agg #[.int .i64 3, .int .i64 on, .int .u64 x]] w fun e w' => e = .returned (.tuple #[.int .i64 (callW 3 q x s).1.1, .bool (callW 3 q x s).1.2]) ∧ Tw w' t b g c (callW 3 q x s).2 ∧ Keeps (two b g) w w' := by
  obtain ⟨⟨⟨⟨x1, b1⟩, e1⟩, s1⟩, eq1⟩ : ∃ rr, Wd.qfirst q s = rr := ⟨_, rfl⟩
  have hs : callW 3 q x s = ((e1, x1 == 0 && !b1), s1) := by
    unfold callW
    simp [ eq1]
  rw [hs]
  have HE : Hid (_ = _) := eq1
  have HH := hid h
  clear hs eq1 h
  go_enter Try.func14, Try.ntmps14
  go_wp2_with fail
  have hh := HH.out.alloc (.cells #[.int .i64 3, .int .i64 on, .int .u64 x] 35)
  refine (qfirst_r HE hq hh).mono ?_
  rintro e_ w1 ⟨rfl, h1, k1⟩
  have HF := hid (And.intro h1 (((Keeps.refl (two b g) w).alloc _).trans k1))
  clear hh h1 k1 HE HH
  by_cases hx0 : x1 = 0
  · skip
    cases b1 with
    | false =>
      go_wp2_with (go_at_call 16; refine (num_any _ _).mono ?_; rintro e_ w_ ⟨rfl, hw_⟩; subst w_)
      go_ret2
      exact ⟨by simp [hx0], HF.out.1, HF.out.2⟩
    | true =>
      go_wp2_with (go_at_call 16; refine (num_any _ _).mono ?_; rintro e_ w_ ⟨rfl, hw_⟩; subst w_)
      go_ret2
      exact ⟨by simp [hx0], HF.out.1, HF.out.2⟩
  · skip
    cases b1 with
    | false =>
      go_wp2_with (go_at_call 16; refine (num_any _ _).mono ?_; rintro e_ w_ ⟨rfl, hw_⟩; subst w_)
      go_ret2
      exact ⟨by simp [hx0], HF.out.1, HF.out.2⟩
    | true =>
      go_wp2_with (go_at_call 16; refine (num_any _ _).mono ?_; rintro e_ w_ ⟨rfl, hw_⟩; subst w_)
      go_ret2
      exact ⟨by simp, HF.out.1, HF.out.2⟩
set_option maxRecDepth 100000 in
set_option maxHeartbeats 4000000 in
theorem call_4 (t b g c : Nat) (s : Wd) (on q x : Int) (_hq : isW q) (_hx : isW x) (w : World) (h : Tw w t b g c s) :
    Calls Try.prog 14 #[.pointer (some ⟨t, 0, none⟩), .int .u64 q, .agg #[.int .i64 4, .int .i64 on, .int .u64 x]] w fun e w' => e = .returned (.tuple #[.int .i64 (callW 4 q x s).1.1, .bool (callW 4 q x s).1.2]) ∧ Tw w' t b g c (callW 4 q x s).2 ∧ Keeps (two b g) w w' := by
  obtain ⟨⟨⟨x1, e1⟩, s1⟩, eq1⟩ : ∃ rr, Wd.qlen q s = rr := ⟨_, rfl⟩
  have hs : callW 4 q x s = ((e1, x1 == 0), s1) := by
    unfold callW
    simp [ eq1]
  rw [hs]
  have HE : Hid (_ = _) := eq1
  have HH := hid h
  clear hs eq1 h
  go_enter Try.func14, Try.ntmps14
  go_wp2_with fail
  have hh := HH.out.alloc (.cells #[.int .i64 4, .int .i64 on, .int .u64 x] 35)
  refine (qlen_r HE  hh).mono ?_
  rintro e_ w1 ⟨rfl, h1, k1⟩
  have HF := hid (And.intro h1 (((Keeps.refl (two b g) w).alloc _).trans k1))
  clear hh h1 k1 HE HH
  go_wp2_with (go_at_call 16; refine (num_any _ _).mono ?_; rintro e_ w_ ⟨rfl, hw_⟩; subst w_)
  go_ret2
  exact ⟨rfl, HF.out.1, HF.out.2⟩
set_option maxRecDepth 100000 in
set_option maxHeartbeats 4000000 in
theorem call_5 (t b g c : Nat) (s : Wd) (on q x : Int) (hq : isW q) (_hx : isW x) (w : World) (h : Tw w t b g c s) :
    Calls Try.prog 14 #[.pointer (some ⟨t, 0, none⟩), .int .u64 q, .agg #[.int .i64 5, .int .i64 on, .int .u64 x]] w fun e w' => e = .returned (.tuple #[.int .i64 (callW 5 q x s).1.1, .bool (callW 5 q x s).1.2]) ∧ Tw w' t b g c (callW 5 q x s).2 ∧ Keeps (two b g) w w' := by
  obtain ⟨⟨⟨l1, e1⟩, s1⟩, eq1⟩ : ∃ rr, Wd.qwords q s = rr := ⟨_, rfl⟩
  have hs : callW 5 q x s = ((e1, (l1.length : Int) == 0), s1) := by
    unfold callW
    simp [ eq1]
  rw [hs]
  have HE : Hid (_ = _) := eq1
  have HH := hid h
  clear hs eq1 h
  go_enter Try.func14, Try.ntmps14
  go_wp2_with fail
  have hh := HH.out.alloc (.cells #[.int .i64 5, .int .i64 on, .int .u64 x] 35)
  refine (qwords_r HE hq hh).mono ?_
  rintro e_ w1 ⟨v1, rfl, r1, h1, k1⟩
  obtain ⟨av, cv, rfl⟩ := r1.form
  have HF := hid (And.intro h1 (((Keeps.refl (two b g) w).alloc _).trans k1))
  clear hh h1 k1 r1 HE HH
  go_wp2_with (go_at_call 16; refine (num_any _ _).mono ?_; rintro e_ w_ ⟨rfl, hw_⟩; subst w_)
  go_ret2
  exact ⟨rfl, HF.out.1, HF.out.2⟩
set_option maxRecDepth 100000 in
set_option maxHeartbeats 4000000 in
theorem call_6 (t b g c : Nat) (s : Wd) (kd : Int) (h0 : kd ≠ 0) (h1 : kd ≠ 1) (h2 : kd ≠ 2) (h3 : kd ≠ 3) (h4 : kd ≠ 4) (h5 : kd ≠ 5) (on q x : Int) (hq : isW q) (_hx : isW x) (w : World) (h : Tw w t b g c s) :
    Calls Try.prog 14 #[.pointer (some ⟨t, 0, none⟩), .int .u64 q, .agg #[.int .i64 kd, .int .i64 on, .int .u64 x]] w fun e w' => e = .returned (.tuple #[.int .i64 (callW kd q x s).1.1, .bool (callW kd q x s).1.2]) ∧ Tw w' t b g c (callW kd q x s).2 ∧ Keeps (two b g) w w' := by
  obtain ⟨⟨⟨⟨⟩, e1⟩, s1⟩, eq1⟩ : ∃ rr, Wd.qdrop 0 q s = rr := ⟨_, rfl⟩
  have hs : callW kd q x s = ((e1, true), s1) := by
    unfold callW
    simp [ h0, h1, h2, h3, h4, h5, eq1]
  rw [hs]
  have HE : Hid (_ = _) := eq1
  have HH := hid h
  clear hs eq1 h
  go_enter Try.func14, Try.ntmps14
  go_wp2_with fail
  have hh := HH.out.alloc (.cells #[.int .i64 kd, .int .i64 on, .int .u64 x] 35)
  refine (qdrop_r HE hq hh).mono ?_
  rintro e_ w1 ⟨rfl, h1, k1⟩
  have HF := hid (And.intro h1 (((Keeps.refl (two b g) w).alloc _).trans k1))
  clear hh h1 k1 HE HH
  go_wp2_with (go_at_call 16; refine (num_any _ _).mono ?_; rintro e_ w_ ⟨rfl, hw_⟩; subst w_)
  go_ret2
  exact ⟨rfl, HF.out.1, HF.out.2⟩
theorem call_any (t b g c : Nat) (s : Wd) (kd on q x : Int) (hq : isW q) (hx : isW x) (w : World) (h : Tw w t b g c s) :
    Calls Try.prog 14 #[.pointer (some ⟨t, 0, none⟩), .int .u64 q, .agg #[.int .i64 kd, .int .i64 on, .int .u64 x]] w fun e w' => e = .returned (.tuple #[.int .i64 (callW kd q x s).1.1, .bool (callW kd q x s).1.2]) ∧ Tw w' t b g c (callW kd q x s).2 ∧ Keeps (two b g) w w' := by
  by_cases h0 : kd = 0
  · subst h0
    exact call_0 t b g c s on q x hq hx w h
  by_cases h1 : kd = 1
  · subst h1
    exact call_1 t b g c s on q x hq hx w h
  by_cases h2 : kd = 2
  · subst h2
    exact call_2 t b g c s on q x hq hx w h
  by_cases h3 : kd = 3
  · subst h3
    exact call_3 t b g c s on q x hq hx w h
  by_cases h4 : kd = 4
  · subst h4
    exact call_4 t b g c s on q x hq hx w h
  by_cases h5 : kd = 5
  · subst h5
    exact call_5 t b g c s on q x hq hx w h
  exact call_6 t b g c s kd h0 h1 h2 h3 h4 h5 on q x hq hx w h
end Go.Proofs.Ytadbplbifjeghaa
