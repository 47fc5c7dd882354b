
/- The walks of the document's Get and Put (layer 24). No statement of the seat is proved here. -/
import Derived.Test.YtalopkllldnipaaRkB
import Derived.Test.YtalopkllldnipaaATail
namespace Go.Proofs.Ytalopkllldnipaa
open Go.RowKit

set_option maxHeartbeats 1000000 in
theorem word_in (g off n c i : Nat) (x : Int) (w : World) (hi : i < n) (hn : n ≤ 17592186044416) (hc : w.cell? ⟨g, off + i, none⟩ = some (.int .u64 x)) :
    Calls Try.prog 122 #[.slice (some ⟨g, off, none⟩) n c, .int .u64 i] w fun e w' => e = .returned (.tuple #[.int .u64 x, .bool true]) ∧ w' = w := by
  have hwl : IntKind.u64.wrap (n : Int) = (n : Int) := by rw [IntKind.wrap_u64]; omega
  have h1 : ¬ ((n : Int) ≤ (i : Int)) := by omega
  go_enter Try.func122, Try.ntmps122
  go_wp2_with fail
  go_ret2
  exact ⟨rfl, rfl⟩
set_option maxHeartbeats 1000000 in
theorem word_out (ad : Option Addr) (n c : Nat) (a : Int) (w : World) (hi : (n : Int) ≤ a) (hn : n ≤ 17592186044416) :
    Calls Try.prog 122 #[.slice ad n c, .int .u64 a] w fun e w' => e = .returned (.tuple #[.int .u64 0, .bool false]) ∧ w' = w := by
  have hwl : IntKind.u64.wrap (n : Int) = (n : Int) := by rw [IntKind.wrap_u64]; omega
  go_enter Try.func122, Try.ntmps122
  go_wp2_with fail
  go_ret2
  exact ⟨rfl, rfl⟩

set_option maxHeartbeats 1000000 in
theorem tget_any (b g c : Nat) (s : Wd) (a : Int) (ha : isW a) (w : World) (h : WdAt w b g c s) :
    Calls Try.prog 119 #[.pointer (some ⟨b, 0, none⟩), .int .u64 a] w fun e w' => e = .returned (.tuple #[.int .u64 (s.get a).1.1, .int .i64 (s.get a).1.2]) ∧ WdAt w' b g c (s.get a).2 ∧ Keeps (two b g) w w' := by
  have c1 := h.cell1
  have f1 := h.frozen 1
  have hlen := h.ok.2
  have HH : Hid (WdAt (w.setCell ⟨b, 1, none⟩ (.int .i64 (wrap64 (s.g + 1)))) b g c s.gt ∧ Keeps (two b g) w (w.setCell ⟨b, 1, none⟩ (.int .i64 (wrap64 (s.g + 1))))) := ⟨h.gets _, (Keeps.refl _ w).sb _ _⟩
  unfold isW at ha
  cases hf : s.gt.fl with
  | true =>
    have hs : s.get a = ((0, s.c), s.gt) := by unfold Wd.get; rw [if_pos hf]
    rw [hs]
    clear hs h
    go_enter Try.func119, Try.ntmps119
    go_wp2_with fail
    have hh := HH.out
    generalize w.setCell _ _ = X at hh HH ⊢
    refine (fails_any hh.1).mono ?_
    rintro e_ w_ ⟨rfl, n, hw⟩
    subst w_
    replace HH := hid (And.intro (hh.1.drewN n) (hh.2.drewN n))
    clear hh
    generalize X.drewN n = Y at HH ⊢
    have hh := HH.out
    have c4 := hh.1.cell4
    rw [hf]
    clear hh c1 f1
    go_wp2_with fail
    go_quiet (fail)
    go_wp2_with fail
    go_ret2
    have h := HH.out
    exact ⟨rfl, h.1.drewN _, h.2.drewN _⟩
  | false =>
    by_cases hr : (s.W.length : Int) ≤ a
    · have hs : s.get a = ((0, 4), s.gt) := by unfold Wd.get; rw [hf]; simp [hr]
      rw [hs]
      clear hs h
      go_enter Try.func119, Try.ntmps119
      go_wp2_with fail
      have hh := HH.out
      generalize w.setCell _ _ = X at hh HH ⊢
      refine (fails_any hh.1).mono ?_
      rintro e_ w_ ⟨rfl, n, hw⟩
      subst w_
      replace HH := hid (And.intro (hh.1.drewN n) (hh.2.drewN n))
      clear hh
      generalize X.drewN n = Y at HH ⊢
      have hh := HH.out
      have c4 := hh.1.cell0
      rw [hf]
      clear hh c1 f1
      go_wp2_with fail
      refine (word_out _ _ _ _ _ (by exact hr) (Nat.le_trans hlen (by omega))).mono ?_
      rintro e_ w_ ⟨rfl, hw⟩
      subst w_
      go_wp2_with fail
      go_ret2
      have h := HH.out
      exact ⟨rfl, h.1, h.2⟩
    · have hs : s.get a = ((oat s.W a.toNat, 0), s.gt) := by unfold Wd.get; rw [hf]; simp [hr]
      rw [hs]
      have hc0 : c ≠ 0 := by have := h.cap; omega
      clear hs h
      go_enter Try.func119, Try.ntmps119
      go_wp2_with fail
      have hh := HH.out
      generalize w.setCell _ _ = X at hh HH ⊢
      refine (fails_any hh.1).mono ?_
      rintro e_ w_ ⟨rfl, n, hw⟩
      subst w_
      replace HH := hid (And.intro (hh.1.drewN n) (hh.2.drewN n))
      clear hh
      generalize X.drewN n = Y at HH ⊢
      have hh := HH.out
      have c4 := hh.1.cell0
      rw [adr_pos hc0] at c4
      have hwc := hh.1.wcell a.toNat (by show a.toNat < s.W.length; omega)
      rw [hf]
      obtain ⟨i, rfl⟩ : ∃ i : Nat, a = (i : Int) := ⟨a.toNat, by omega⟩
      clear hh c1 f1
      go_wp2_with fail
      refine (word_in g 0 _ _ i (oat s.W i) _ (by show i < s.W.length; omega) (Nat.le_trans hlen (by omega)) (by rw [Nat.zero_add]; exact hwc)).mono ?_
      rintro e_ w_ ⟨rfl, hw⟩
      subst w_
      clear hwc
      go_wp2_with fail
      go_ret2
      have h := HH.out
      exact ⟨rfl, h.1, h.2⟩
set_option maxHeartbeats 1000000 in
theorem tput_any (b g c : Nat) (s : Wd) (a x : Int) (ha : isW a) (hx : isW x) (w : World) (h : WdAt w b g c s) :
    Calls Try.prog 120 #[.pointer (some ⟨b, 0, none⟩), .int .u64 a, .int .u64 x] w fun e w' => e = .returned (.int .i64 (s.put a x).1) ∧ WdAt w' b g c (s.put a x).2 ∧ Keeps (two b g) w w' := by
  have c1 := h.cell2
  have f1 := h.frozen 2
  have hlen := h.ok.2
  have HH : Hid (WdAt (w.setCell ⟨b, 2, none⟩ (.int .i64 (wrap64 (s.p + 1)))) b g c s.pt ∧ Keeps (two b g) w (w.setCell ⟨b, 2, none⟩ (.int .i64 (wrap64 (s.p + 1))))) := ⟨h.puts _, (Keeps.refl _ w).sb _ _⟩
  unfold isW at ha
  have hwl : IntKind.u64.wrap (s.W.length : Int) = (s.W.length : Int) := by rw [IntKind.wrap_u64]; omega
  cases hf : s.pt.fl with
  | true =>
    have hs : s.put a x = (s.c, s.pt) := by unfold Wd.put; rw [if_pos hf]
    rw [hs]
    clear hs h
    go_enter Try.func120, Try.ntmps120
    go_wp2_with fail
    have hh := HH.out
    generalize w.setCell _ _ = X at hh HH ⊢
    refine (fails_any hh.1).mono ?_
    rintro e_ w_ ⟨rfl, n, hw⟩
    subst w_
    replace HH := hid (And.intro (hh.1.drewN n) (hh.2.drewN n))
    clear hh
    generalize X.drewN n = Y at HH ⊢
    have hh := HH.out
    have c4 := hh.1.cell4
    rw [hf]
    clear hh c1 f1
    go_wp2_with fail
    go_ret
    have h := HH.out
    exact ⟨rfl, h.1, h.2⟩
  | false =>
    by_cases hr : (s.W.length : Int) ≤ a
    · have hs : s.put a x = (4, s.pt) := by unfold Wd.put; rw [hf]; simp [hr]
      rw [hs]
      clear hs h
      go_enter Try.func120, Try.ntmps120
      go_wp2_with fail
      have hh := HH.out
      generalize w.setCell _ _ = X at hh HH ⊢
      refine (fails_any hh.1).mono ?_
      rintro e_ w_ ⟨rfl, n, hw⟩
      subst w_
      replace HH := hid (And.intro (hh.1.drewN n) (hh.2.drewN n))
      clear hh
      generalize X.drewN n = Y at HH ⊢
      have hh := HH.out
      have c4 := hh.1.cell0
      have c4' : Y.cell? ⟨b, 0, none⟩ = some (.slice (adr g c) s.W.length c) := c4
      rw [hf]
      clear hh c1 f1 c4
      go_wp2_with fail
      go_ret
      have h := HH.out
      exact ⟨rfl, h.1, h.2⟩
    · have hs : s.put a x = (0, { s.pt with W := s.W.set a.toNat x }) := by unfold Wd.put; rw [hf]; simp [hr]
      rw [hs]
      have hc0 : c ≠ 0 := by have := h.cap; omega
      clear hs h
      go_enter Try.func120, Try.ntmps120
      go_wp2_with fail
      have hh := HH.out
      generalize w.setCell _ _ = X at hh HH ⊢
      refine (fails_any hh.1).mono ?_
      rintro e_ w_ ⟨rfl, n, hw⟩
      subst w_
      replace HH := hid (And.intro (hh.1.drewN n) (hh.2.drewN n))
      clear hh
      generalize X.drewN n = Y at HH ⊢
      have hh := HH.out
      have c4 := hh.1.cell0
      rw [adr_pos hc0] at c4
      have c4' : Y.cell? ⟨b, 0, none⟩ = some (.slice (some ⟨g, 0, none⟩) s.W.length c) := c4
      obtain ⟨i, rfl⟩ : ∃ i : Nat, a = (i : Int) := ⟨a.toNat, by omega⟩
      have hwc := hh.1.wcell i (by show i < s.W.length; omega)
      have hwf := hh.1.wfrozen i (by show 0 < s.W.length; omega)
      rw [hf]
      clear hh c1 f1 c4
      go_wp2_with fail
      go_ret
      have h := HH.out
      exact ⟨rfl, h.1.store i hx (by show i < s.W.length; omega), h.2.sg _ _⟩
theorem tget_r {b g c : Nat} {s : Wd} {a x e : Int} {s1 : Wd} (heq : Hid (s.get a = ((x, e), s1))) (ha : isW a) {w : World} (h : WdAt w b g c s) :
    Calls Try.prog 119 #[.pointer (some ⟨b, 0, none⟩), .int .u64 a] w fun r w' => r = .returned (.tuple #[.int .u64 x, .int .i64 e]) ∧ WdAt w' b g c s1 ∧ Keeps (two b g) w w' := by
  have hq := tget_any b g c s a ha w h
  rw [heq.out] at hq
  exact hq
theorem tput_r {b g c : Nat} {s : Wd} {a x e : Int} {s1 : Wd} (heq : Hid (s.put a x = (e, s1))) (ha : isW a) (hx : isW x) {w : World} (h : WdAt w b g c s) :
    Calls Try.prog 120 #[.pointer (some ⟨b, 0, none⟩), .int .u64 a, .int .u64 x] w fun r w' => r = .returned (.int .i64 e) ∧ WdAt w' b g c s1 ∧ Keeps (two b g) w w' := by
  have hq := tput_any b g c s a x ha hx w h
  rw [heq.out] at hq
  exact hq
end Go.Proofs.Ytalopkllldnipaa
