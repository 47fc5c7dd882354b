
/- What a way leaves as it was, and the walks of Has, Len, New (layer 21). No statement of the seat is proved here. -/
import Derived.Test.YtmnbilhblkobdaaLqC
import Derived.Test.YtmnbilhblkobdaaLiDM
namespace Go.Proofs.Ytmnbilhblkobdaa
open Go.RowKit

/-- The error, and where it comes, stay. -/
def Wd.like (s s' : Wd) : Prop := s'.c = s.c ∧ s'.f = s.f
theorem Wd.like.trans {s s1 s2 : Wd} (h : s.like s1) (k : s1.like s2) : s.like s2 := ⟨k.1.trans h.1, k.2.trans h.2⟩
theorem Wd.like.refl (s : Wd) : s.like s := ⟨rfl, rfl⟩
theorem Wd.like.ce {s s' : Wd} (h : s.like s') (hc : s.c ≠ 0 ∨ s.f < 0) : s'.c ≠ 0 ∨ s'.f < 0 := by rw [h.1, h.2]; exact hc
theorem get_like (s : Wd) (a : Int) : s.like (s.get a).2 := by
  unfold Wd.get
  split
  · exact ⟨rfl, rfl⟩
  · split <;> exact ⟨rfl, rfl⟩
theorem put_like (s : Wd) (a x : Int) : s.like (s.put a x).2 := by
  unfold Wd.put
  split
  · exact ⟨rfl, rfl⟩
  · split <;> exact ⟨rfl, rfl⟩
theorem follow_like (s : Wd) (a : Int) : s.like (s.follow a).2 := by
  have h := follow_ce (s := s) (a := a) (t := (s.follow a).1.1) (e := (s.follow a).1.2) (s1 := (s.follow a).2) rfl
  exact ⟨h.1, h.2.1⟩
theorem way_ok (pass : List Sp → Sp → Bool) : ∀ (m : Nat) (b : Sp) (a : Int) (P : List Sp) (s : Wd), s.Ok → isW a → (∀ t ∈ P, t.Ok) →
    (way pass m b a P s).1.1.Ok ∧ (∀ t ∈ (way pass m b a P s).2.1, t.Ok) ∧ (way pass m b a P s).2.2.Ok ∧ (way pass m b a P s).2.2.W = s.W ∧ s.like (way pass m b a P s).2.2
  | 0, b, a, P, s, hs, _, hP => ⟨Sp.zero_ok, hP, hs, rfl, rfl, rfl⟩
  | m + 1, b, a, P, s, hs, ha, hP => by
    have hf := hs.follow ha
    have hl := follow_like s a
    unfold way
    split
    · exact ⟨hf.2.1, hP, hf.1, hf.2.2, hl⟩
    · split
      · exact ⟨Sp.zero_ok, hP, hf.1, hf.2.2, hl⟩
      · split
        · exact ⟨hf.2.1, hP, hf.1, hf.2.2, hl⟩
        · have q := way_ok pass m (s.follow a).1.1 (ld (s.follow a).1.1.nd) (P ++ [(s.follow a).1.1]) (s.follow a).2 hf.1 (uw_isW _) (fun t ht => by
            rcases List.mem_append.1 ht with h | h
            · exact hP t h
            · simp at h; rw [h]; exact hf.2.1)
          exact ⟨q.1, q.2.1, q.2.2.1, q.2.2.2.1.trans hf.2.2, hl.trans q.2.2.2.2⟩
theorem Wd.Ok.way {s : Wd} (h : s.Ok) (pass : List Sp → Sp → Bool) (l : Int) : (s.way pass l).1.1.Ok ∧ (∀ t ∈ (s.way pass l).2.1, t.Ok) ∧ (s.way pass l).2.2.Ok ∧ (s.way pass l).2.2.W = s.W ∧ s.like (s.way pass l).2.2 :=
  way_ok pass FU Sp.zero (ld l) [] s h (uw_isW _) (by simp)
theorem Wd.Ok.seek {s : Wd} (h : s.Ok) {l key e : Int} {t : Sp} {s1 : Wd} (heq : s.seek l key = ((t, e), s1)) : t.Ok ∧ s1.Ok ∧ s1.W = s.W ∧ s.like s1 := by
  have q := h.way (pLt key) l
  unfold Wd.seek at heq
  simp only [Prod.mk.injEq] at heq
  obtain ⟨h1, rfl⟩ := heq
  rw [h1] at q
  exact ⟨q.1, q.2.2⟩
theorem take_isW {s : Wd} (h : s.Ok) (a n : Int) : isW (s.take a n).1.1 := by
  have hf : ∀ s : Wd, s.Ok → isW (s.free a).1.1 := by
    intro s hs
    unfold Wd.free
    split
    · exact zero_isW
    · split
      · exact zero_isW
      · exact (hs.get a).2.1
  have h1 := h.get (hdA a n)
  unfold Wd.take
  split
  · exact zero_isW
  · split
    · exact zero_isW
    · split
      · unfold Wd.takeN
        split
        · exact zero_isW
        · split
          · exact zero_isW
          · split
            · exact zero_isW
            · exact hf _ h1.1
      · unfold Wd.takeG
        split
        · exact zero_isW
        · split
          · exact zero_isW
          · exact uw_isW _
set_option maxHeartbeats 1000000 in
theorem hasc_any (b g c : Nat) (s : Wd) (l key : Int)  (hce : s.c ≠ 0 ∨ s.f < 0) (w : World) (h : WdAt w b g c s) :
    Calls Try.prog 24 #[.iface 24 (.pointer (some ⟨b, 0, none⟩)), .int .u64 l, .int .u64 key] w fun e w' => e = .returned (.tuple #[.bool (s.has l key).1.1, .int .i64 (s.has l key).1.2]) ∧ WdAt w' b g c (s.has l key).2 ∧ Keeps (two b g) w w' := by
  have mg := meth_get b
  have mp := meth_put b
  have ng := nil_get b
  have np := nil_put b
  have oks : s.Ok := h.ok
  have HH := hid (Hs.start h)
  clear h
  obtain ⟨⟨⟨⟨tl, tn, tk⟩, e⟩, s1⟩, eq1⟩ : ∃ r, s.seek l key = r := ⟨_, rfl⟩
  obtain ⟨ht, oks1, _, _⟩ := oks.seek eq1
  have hs : s.has l key = ((Sp.has ⟨tl, tn, tk⟩ key, e), s1) := by
    unfold Wd.has
    simp [eq1]
  rw [hs]
  have HE1 : Hid (_ = _) := eq1
  clear hs eq1
  go_enter Try.func24, Try.ntmps24
  go_wp2_with fail
  have hh := HH.out
  refine (seek_r HE1 hce hh.wd).mono ?_
  rintro e_ w1 ⟨rfl, h1, k1⟩
  replace HH := hid ((hh.acc k1 h1).spot ⟨tl, tn, tk⟩)
  clear hh h1 k1
  unfold Sp.v
  go_wp2_with fail
  have hh := HH.out
  refine (has_any ⟨tl, tn, tk⟩ key _).mono ?_
  rintro e_ w2 ⟨rfl, k2⟩
  replace HH := hid (hh.new k2)
  clear hh k2
  go_wp2_with fail
  go_ret2
  exact ⟨rfl, HH.out.hs.wd, HH.out.hs.k⟩
theorem hasc_r {b g c : Nat} {s : Wd} {l key : Int} {x1 : Bool} {e1 : Int} {s1 : Wd} (heq : Hid (s.has l key = ((x1, e1), s1)))  (hce : s.c ≠ 0 ∨ s.f < 0) {w : World} (h : WdAt w b g c s) :
    Calls Try.prog 24 #[.iface 24 (.pointer (some ⟨b, 0, none⟩)), .int .u64 l, .int .u64 key] w fun e w' => e = .returned (.tuple #[.bool x1, .int .i64 e1]) ∧ WdAt w' b g c s1 ∧ Keeps (two b g) w w' := by
  have q := hasc_any b g c s l key  hce w h
  rw [heq.out] at q
  exact q
set_option maxHeartbeats 1000000 in
theorem len_any (b g c : Nat) (s : Wd) (l : Int) (hl : isW l) (w : World) (h : WdAt w b g c s) :
    Calls Try.prog 25 #[.iface 24 (.pointer (some ⟨b, 0, none⟩)), .int .u64 l] w fun e w' => e = .returned (.tuple #[.int .u64 (s.len l).1.1, .int .i64 (s.len l).1.2]) ∧ WdAt w' b g c (s.len l).2 ∧ Keeps (two b g) w w' := by
  have mg := meth_get b
  have mp := meth_put b
  have ng := nil_get b
  have np := nil_put b
  have oks : s.Ok := h.ok
  have HH := hid (Hs.start h)
  clear h
  obtain ⟨⟨⟨x, e⟩, s1⟩, eq1⟩ : ∃ r, s.get (l) = r := ⟨_, rfl⟩
  have hwx : isW x := get_isW eq1 oks
  have oks1 : s1.Ok := by have q := (oks.get (l)).1; rw [eq1] at q; exact q
  by_cases hze : e = 0
  · subst hze
    have hs : s.len l = ((x, 0), s1) := by
      unfold Wd.len
      simp [eq1]
    rw [hs]
    have HE1 : Hid (_ = _) := eq1
    clear hs eq1
    go_enter Try.func25, Try.ntmps25
    go_wp2_with fail
    have hh := HH.out
    refine (tget_r HE1 hl hh.wd).mono ?_
    rintro e_ w1 ⟨rfl, h1, k1⟩
    replace HH := hid (hh.acc k1 h1)
    clear hh h1 k1
    go_wp2_with fail
    go_ret2
    exact ⟨rfl, HH.out.wd, HH.out.k⟩
  · skip
    have hs : s.len l = ((0, e), s1) := by
      unfold Wd.len
      simp [eq1, hze]
    rw [hs]
    have HE1 : Hid (_ = _) := eq1
    clear hs eq1
    go_enter Try.func25, Try.ntmps25
    go_wp2_with fail
    have hh := HH.out
    refine (tget_r HE1 hl hh.wd).mono ?_
    rintro e_ w1 ⟨rfl, h1, k1⟩
    replace HH := hid (hh.acc k1 h1)
    clear hh h1 k1
    go_wp2_with fail
    go_ret2
    exact ⟨rfl, HH.out.wd, HH.out.k⟩
theorem len_r {b g c : Nat} {s : Wd} {l : Int} {x1 e1 : Int} {s1 : Wd} (heq : Hid (s.len l = ((x1, e1), s1))) (hl : isW l) {w : World} (h : WdAt w b g c s) :
    Calls Try.prog 25 #[.iface 24 (.pointer (some ⟨b, 0, none⟩)), .int .u64 l] w fun e w' => e = .returned (.tuple #[.int .u64 x1, .int .i64 e1]) ∧ WdAt w' b g c s1 ∧ Keeps (two b g) w w' := by
  have q := len_any b g c s l hl w h
  rw [heq.out] at q
  exact q
set_option maxHeartbeats 1000000 in
theorem new_any (b g c : Nat) (s : Wd) (r : Int) (hr : isW r) (w : World) (h : WdAt w b g c s) :
    Calls Try.prog 16 #[.iface 24 (.pointer (some ⟨b, 0, none⟩)), .int .u64 r] w fun e w' => e = .returned (.tuple #[.int .u64 (s.new r).1.1, .int .i64 (s.new r).1.2]) ∧ WdAt w' b g c (s.new r).2 ∧ Keeps (two b g) w w' := by
  have mg := meth_get b
  have mp := meth_put b
  have ng := nil_get b
  have np := nil_put b
  have oks : s.Ok := h.ok
  have HH := hid (Hs.start h)
  clear h
  obtain ⟨⟨⟨x, e⟩, s1⟩, eq1⟩ : ∃ r_, s.take r 2 = r_ := ⟨_, rfl⟩
  have hwx : isW x := by have q := take_isW oks r 2; rw [eq1] at q; exact q
  by_cases hze : e = 0
  · subst hze
    obtain ⟨⟨f, s2⟩, eq2⟩ : ∃ r_, s1.empty x = r_ := ⟨_, rfl⟩
    by_cases hzf : f = 0
    · subst hzf
      have hs : s.new r = ((x, 0), s2) := by
        unfold Wd.new
        simp [eq1, eq2]
      rw [hs]
      have HE1 : Hid (_ = _) := eq1
      have HE2 : Hid (_ = _) := eq2
      clear hs eq1 eq2
      go_enter Try.func16, Try.ntmps16
      go_wp2_with fail
      have hh := HH.out
      refine (take_r HE1 hr hh.wd).mono ?_
      rintro e_ w1 ⟨rfl, h1, k1⟩
      replace HH := hid (hh.acc k1 h1)
      clear hh h1 k1
      go_wp2_with fail
      have hh := HH.out
      refine (empty_r HE2 hwx hh.wd).mono ?_
      rintro e_ w2 ⟨rfl, h2, k2⟩
      replace HH := hid (hh.acc k2 h2)
      clear hh h2 k2
      go_wp2_with fail
      go_ret2
      exact ⟨rfl, HH.out.wd, HH.out.k⟩
    · skip
      have hs : s.new r = ((0, f), s2) := by
        unfold Wd.new
        simp [eq1, eq2, hzf]
      rw [hs]
      have HE1 : Hid (_ = _) := eq1
      have HE2 : Hid (_ = _) := eq2
      clear hs eq1 eq2
      go_enter Try.func16, Try.ntmps16
      go_wp2_with fail
      have hh := HH.out
      refine (take_r HE1 hr hh.wd).mono ?_
      rintro e_ w1 ⟨rfl, h1, k1⟩
      replace HH := hid (hh.acc k1 h1)
      clear hh h1 k1
      go_wp2_with fail
      have hh := HH.out
      refine (empty_r HE2 hwx hh.wd).mono ?_
      rintro e_ w2 ⟨rfl, h2, k2⟩
      replace HH := hid (hh.acc k2 h2)
      clear hh h2 k2
      go_wp2_with fail
      go_ret2
      exact ⟨rfl, HH.out.wd, HH.out.k⟩
  · skip
    have hs : s.new r = ((0, e), s1) := by
      unfold Wd.new
      simp [eq1, hze]
    rw [hs]
    have HE1 : Hid (_ = _) := eq1
    clear hs eq1
    go_enter Try.func16, Try.ntmps16
    go_wp2_with fail
    have hh := HH.out
    refine (take_r HE1 hr hh.wd).mono ?_
    rintro e_ w1 ⟨rfl, h1, k1⟩
    replace HH := hid (hh.acc k1 h1)
    clear hh h1 k1
    go_wp2_with fail
    go_ret2
    exact ⟨rfl, HH.out.wd, HH.out.k⟩
theorem new_r {b g c : Nat} {s : Wd} {r : Int} {x1 e1 : Int} {s1 : Wd} (heq : Hid (s.new r = ((x1, e1), s1))) (hr : isW r) {w : World} (h : WdAt w b g c s) :
    Calls Try.prog 16 #[.iface 24 (.pointer (some ⟨b, 0, none⟩)), .int .u64 r] w fun e w' => e = .returned (.tuple #[.int .u64 x1, .int .i64 e1]) ∧ WdAt w' b g c s1 ∧ Keeps (two b g) w w' := by
  have q := new_any b g c s r hr w h
  rw [heq.out] at q
  exact q
end Go.Proofs.Ytmnbilhblkobdaa
