/-
  No statement of the seat is proved here. (Several texts in one: SkV, SkX.)
-/
import Derived.Test.YtifmpiiaebnbiaaSkJ
import Derived.Test.YtifmpiiaebnbiaaSkS
import Derived.Test.YtifmpiiaebnbiaaSkK
import Derived.Test.YtifmpiiaebnbiaaSkOb

/- Pure (layer 22): a set whose node leads to itself. No statement of the seat is proved here. -/
namespace Go.Proofs.Ytifmpiiaebnbiaa
open Go.RowKit

/-- The words of the closed sentence, the node's level being v. -/
def RW (v : Int) : List Int := ((((List.replicate 60 (0 : Int)).set 20 41).set 40 5).set 41 v).set 42 41
/-- A tx of these words that never says no. -/
structure Rs (v : Int) (s : Wd) : Prop where
  w : s.W = RW v
  c : s.c = 0
theorem rw_len (v : Int) : (RW v).length = 60 := by simp [RW]
theorem Rs.lg {v : Int} {s : Wd} (h : Rs v s) (q : Acc) : Rs v (s.lg q) := ⟨h.w, h.c⟩
theorem Rs.get {v : Int} {s : Wd} (h : Rs v s) (a : Nat) (ha : a < 60) : s.get (a : Int) = ((oat (RW v) a, 0), s.lg ⟨false, (a : Int), 0⟩) := by
  have hk : (s.lg ⟨false, (a : Int), 0⟩).ask (a : Int) = 0 := by
    unfold Wd.ask
    rw [if_neg (fun q => q.2 h.c), if_neg]
    show ¬ ((s.W.length : Int) ≤ _)
    rw [h.w, rw_len]
    omega
  unfold Wd.get
  rw [if_neg (by simp [hk]), h.w]
  simp
theorem len_lg (s : Wd) (q : Acc) : (s.lg q).L.length = s.L.length + 1 := by simp [Wd.lg]
theorem Rs.fol0 {v : Int} {s : Wd} (h : Rs v s) (a : Nat) (ha : a < 60) (hz : oat (RW v) a = 0) (n : Nat) : s.fol n (a : Int) = ((⟨(a : Int), 0, 0⟩, 0), n, s.lg ⟨false, (a : Int), 0⟩) := by
  have hg := h.get a ha
  rw [hz] at hg
  unfold Wd.fol
  rw [hg]
  simp
theorem Rs.fol1 {v : Int} {s : Wd} (h : Rs v s) (a : Nat) (ha : a < 60) (hz : oat (RW v) a = 41) (n : Nat) (hn : n ≠ 65536) : s.fol n (a : Int) = ((⟨(a : Int), 41, 5⟩, 0), n + 1, (s.lg ⟨false, (a : Int), 0⟩).lg ⟨false, 40, 0⟩) := by
  have hg := h.get a ha
  rw [hz] at hg
  have hg2 := (h.lg ⟨false, (a : Int), 0⟩).get 40 (by omega)
  have h40 : oat (RW v) 40 = 5 := by simp [RW, oat]
  rw [h40] at hg2
  have hu : uw (41 - 1) = ((40 : Nat) : Int) := by unfold uw; rw [IntKind.wrap_u64]; omega
  unfold Wd.fol
  rw [hg]
  dsimp only
  rw [hu, hg2]
  simp [hn]
theorem Rs.folF {v : Int} {s : Wd} (h : Rs v s) (a : Nat) (ha : a < 60) (hz : oat (RW v) a = 41) : s.fol 65536 (a : Int) = ((Lk.zero, 320), 65536, s.lg ⟨false, (a : Int), 0⟩) := by
  have hg := h.get a ha
  rw [hz] at hg
  unfold Wd.fol
  rw [hg]
  simp
theorem rw20 (v : Int) : oat (RW v) 20 = 41 := by simp [RW, oat]
theorem rw42 (v : Int) : oat (RW v) 42 = 41 := by simp [RW, oat]
theorem nd42 : uw (uw (41 - 1) + 2) = ((42 : Nat) : Int) := by unfold uw; simp only [IntKind.wrap_u64]; omega
/-- The words, told round and round. -/
theorem each_round {v : Int} : ∀ (j f : Nat) (out : List Int) (c0 : Int) (n : Nat) (s : Wd), n + j = 65536 → j < f → Rs v s → ∃ out' s', eachL f out ⟨c0, 41, 5⟩ 0 n s = ((out', 320), s') ∧ Rs v s' ∧ s'.g = s.g ∧ s'.L.length = s.L.length + 2 * j + 1
  | 0, f, out, c0, n, s, hn, hf, hs => by
    obtain ⟨f', rfl⟩ : ∃ f', f = f' + 1 := ⟨f - 1, by omega⟩
    obtain rfl : n = 65536 := by omega
    refine ⟨out ++ [5], s.lg ⟨false, 42, 0⟩, ?_, hs.lg _, rfl, by rw [len_lg]⟩
    unfold eachL
    rw [if_pos ⟨rfl, by simp⟩]
    unfold Lk.nd
    dsimp only
    rw [nd42, hs.folF 42 (by omega) (rw42 v)]
    dsimp only
    cases f' with
    | zero => rfl
    | succ f' => unfold eachL; rw [if_neg (by simp)]; rfl
  | j + 1, f, out, c0, n, s, hn, hf, hs => by
    obtain ⟨f', rfl⟩ : ∃ f', f = f' + 1 := ⟨f - 1, by omega⟩
    obtain ⟨out', s', e1, e2, e3, e4⟩ := each_round (v := v) j f' (out ++ [5]) 42 (n + 1) ((s.lg ⟨false, 42, 0⟩).lg ⟨false, 40, 0⟩) (by omega) (by omega) ((hs.lg _).lg _)
    refine ⟨out', s', ?_, e2, e3, by simp only [len_lg] at e4; omega⟩
    conv => lhs; unfold eachL
    rw [if_pos ⟨rfl, by simp⟩]
    unfold Lk.nd
    dsimp only
    rw [nd42, hs.fol1 42 (by omega) (rw42 v) n (by omega)]
    exact e1
theorem round_each1 {v : Int} {s : Wd} (hs : Rs v s) (F : Nat) (hF : 65535 < F) : ∃ out' s', eachL F [] ⟨((20 : Nat) : Int), 41, 5⟩ 0 1 ((s.lg ⟨false, ((20 : Nat) : Int), 0⟩).lg ⟨false, 40, 0⟩) = ((out', 320), s') ∧ Rs v s' ∧ s'.g = s.g ∧ s'.L.length = s.L.length + 131073 := by
  have hj : ∃ j : Nat, j = 65535 := ⟨_, rfl⟩
  obtain ⟨j, hj⟩ := hj
  obtain ⟨out', s', e1, e2, e3, e4⟩ := each_round (v := v) j F [] ((20 : Nat) : Int) 1 ((s.lg ⟨false, ((20 : Nat) : Int), 0⟩).lg ⟨false, 40, 0⟩) (by omega) (by omega) ((hs.lg _).lg _)
  refine ⟨out', s', e1, e2, e3, ?_⟩
  have l1 := len_lg s ⟨false, ((20 : Nat) : Int), 0⟩
  have l2 := len_lg (s.lg ⟨false, ((20 : Nat) : Int), 0⟩) ⟨false, 40, 0⟩
  omega
theorem FU_gt : 65535 < FU := by unfold FU; omega
theorem round_each {v : Int} {s : Wd} (hs : Rs v s) : ∃ out' s', s.each 20 = ((out', 320), s') ∧ Rs v s' ∧ s'.g = s.g ∧ s'.L.length = s.L.length + 131073 := by
  obtain ⟨out', s', e1, e2⟩ := round_each1 hs FU FU_gt
  have h20 : s.fol 0 20 = ((⟨((20 : Nat) : Int), 41, 5⟩, 0), 1, (s.lg ⟨false, ((20 : Nat) : Int), 0⟩).lg ⟨false, 40, 0⟩) := hs.fol1 20 (by omega) (rw20 v) 0 (by omega)
  refine ⟨out', s', ?_, e2⟩
  have hq : s.each 20 = (match ((⟨((20 : Nat) : Int), 41, 5⟩, 0), 1, (s.lg ⟨false, ((20 : Nat) : Int), 0⟩).lg ⟨false, 40, 0⟩) with
    | ((l, e), n, s1) => eachL FU [] l e n s1 : (List Int × Int) × Wd) := by unfold Wd.each; rw [h20]
  exact hq.trans e1
theorem round_keys {v : Int} {s : Wd} (hs : Rs v s) : ∃ s', s.keys 20 = (([], 320), s') ∧ Rs v s' ∧ s'.g = s.g ∧ s'.L.length = s.L.length + 131073 := by
  obtain ⟨out', s', e1, e2⟩ := round_each hs
  refine ⟨s', ?_, e2⟩
  unfold Wd.keys
  rw [e1]
  rfl
theorem round_len {v : Int} {s : Wd} (hs : Rs v s) : ∃ s', s.len 20 = ((0, 320), s') ∧ Rs v s' ∧ s'.g = s.g ∧ s'.L.length = s.L.length + 131073 := by
  obtain ⟨out', s', e1, e2⟩ := round_each hs
  refine ⟨s', ?_, e2⟩
  unfold Wd.len
  rw [e1]
  rfl
/-- A level of the header that leads nowhere. -/
theorem Rs.down {v : Int} {s : Wd} (h : Rs v s) (p : Int → Bool) (f : Nat) (la : List Lk) (lv : Nat) (hl : lv < 7) (n : Nat) : ∃ la', sr p (f + 1) la 20 (lv + 1) n s = sr p f la' 20 lv n (s.lg ⟨false, ((20 + (lv + 1) : Nat) : Int), 0⟩) ∧ (la.length = 8 → la'.length = 8) := by
  have hz : oat (RW v) (20 + (lv + 1)) = 0 := by
    match lv, hl with
    | 0, _ => simp [RW, oat]
    | 1, _ => simp [RW, oat]
    | 2, _ => simp [RW, oat]
    | 3, _ => simp [RW, oat]
    | 4, _ => simp [RW, oat]
    | 5, _ => simp [RW, oat]
    | 6, _ => simp [RW, oat]
  have hf := h.fol0 (20 + (lv + 1)) (by omega) hz n
  have hu : uw (20 + ((lv + 1 : Nat) : Int)) = ((20 + (lv + 1) : Nat) : Int) := by unfold uw; rw [IntKind.wrap_u64]; omega
  have hf2 : s.fol n (uw (20 + ((lv + 1 : Nat) : Int))) = ((⟨((20 + (lv + 1) : Nat) : Int), 0, 0⟩, 0), n, s.lg ⟨false, ((20 + (lv + 1) : Nat) : Int), 0⟩) := by rw [hu]; exact hf
  exact ⟨_, sr_down hf2 (fun q => q.1 rfl), fun h8 => by simpa using h8⟩
/-- Down to the level 0, nothing found. -/
theorem Rs.bottom {v : Int} {s : Wd} (h : Rs v s) (p : Int → Bool) : ∃ la' s', s.search p 20 = sr p 65538 la' 20 0 0 s' ∧ la'.length = 8 ∧ Rs v s' ∧ s'.g = s.g ∧ s'.L.length = s.L.length + 7 := by
  obtain ⟨l7, e7, n7⟩ := h.down p 65544 zeros 6 (by omega) 0
  have h7 := h.lg ⟨false, ((20 + (6 + 1) : Nat) : Int), 0⟩
  obtain ⟨l6, e6, n6⟩ := h7.down p 65543 l7 5 (by omega) 0
  have h6 := h7.lg ⟨false, ((20 + (5 + 1) : Nat) : Int), 0⟩
  obtain ⟨l5, e5, n5⟩ := h6.down p 65542 l6 4 (by omega) 0
  have h5 := h6.lg ⟨false, ((20 + (4 + 1) : Nat) : Int), 0⟩
  obtain ⟨l4, e4, n4⟩ := h5.down p 65541 l5 3 (by omega) 0
  have h4 := h5.lg ⟨false, ((20 + (3 + 1) : Nat) : Int), 0⟩
  obtain ⟨l3, e3, n3⟩ := h4.down p 65540 l4 2 (by omega) 0
  have h3 := h4.lg ⟨false, ((20 + (2 + 1) : Nat) : Int), 0⟩
  obtain ⟨l2, e2, n2⟩ := h3.down p 65539 l3 1 (by omega) 0
  have h2 := h3.lg ⟨false, ((20 + (1 + 1) : Nat) : Int), 0⟩
  obtain ⟨l1, e1, n1⟩ := h2.down p 65538 l2 0 (by omega) 0
  have h1 := h2.lg ⟨false, ((20 + (0 + 1) : Nat) : Int), 0⟩
  refine ⟨l1, _, ?_, n1 (n2 (n3 (n4 (n5 (n6 (n7 rfl)))))), h1, rfl, by simp only [len_lg]⟩
  exact (e7.trans (e6.trans (e5.trans (e4.trans (e3.trans (e2.trans e1))))))
theorem search_round {v : Int} {p : Int → Bool} (hp : p 5 = true) : ∀ (j f : Nat) (la : List Lk) (n : Nat) (s : Wd), n + j = 65536 → j < f → Rs v s → ∃ s', sr p f la 42 0 n s = ((zeros, 320), s') ∧ Rs v s' ∧ s'.g = s.g ∧ s'.L.length = s.L.length + 2 * j + 1
  | 0, f, la, n, s, hn, hf, hs => by
    obtain ⟨f', rfl⟩ : ∃ f', f = f' + 1 := ⟨f - 1, by omega⟩
    obtain rfl : n = 65536 := by omega
    have hg := hs.folF 42 (by omega) (rw42 v)
    have hu : uw (42 + ((0 : Nat) : Int)) = ((42 : Nat) : Int) := by unfold uw; rw [IntKind.wrap_u64]; omega
    rw [← hu] at hg
    exact ⟨_, sr_err hg (by simp), hs.lg _, rfl, by rw [len_lg]⟩
  | j + 1, f, la, n, s, hn, hf, hs => by
    obtain ⟨f', rfl⟩ : ∃ f', f = f' + 1 := ⟨f - 1, by omega⟩
    have hg := hs.fol1 42 (by omega) (rw42 v) n (by omega)
    have hu : uw (42 + ((0 : Nat) : Int)) = ((42 : Nat) : Int) := by unfold uw; rw [IntKind.wrap_u64]; omega
    rw [← hu] at hg
    have e0 := sr_pass (p := p) (f := f') (la := la) hg ⟨by simp, hp⟩
    have e0' : sr p (f' + 1) la 42 0 n s = sr p f' (la.set 0 ⟨uw (42 + ((0 : Nat) : Int)), 41, 5⟩) ((42 : Nat) : Int) 0 (n + 1) ((s.lg ⟨false, uw (42 + ((0 : Nat) : Int)), 0⟩).lg ⟨false, 40, 0⟩) := by
      rw [← nd42]
      exact e0
    obtain ⟨s', q1, q2, q3, q4⟩ := search_round (v := v) hp j f' (la.set 0 ⟨uw (42 + ((0 : Nat) : Int)), 41, 5⟩) (n + 1) ((s.lg ⟨false, uw (42 + ((0 : Nat) : Int)), 0⟩).lg ⟨false, 40, 0⟩) (by omega) (by omega) ((hs.lg _).lg _)
    exact ⟨s', e0'.trans q1, q2, q3, by simp only [len_lg] at q4; omega⟩
theorem round_has {v : Int} {s : Wd} (hs : Rs v s) : ∃ s', s.has 20 9 = ((false, 320), s') ∧ Rs v s' ∧ s'.g = s.g ∧ s'.L.length ≤ s.L.length + 131090 := by
  obtain ⟨la', s0, e0, n0, r0, g0, l0⟩ := hs.bottom (pLt 9)
  have hg := r0.fol1 20 (by omega) (rw20 v) 0 (by omega)
  have hu : uw (20 + ((0 : Nat) : Int)) = ((20 : Nat) : Int) := by unfold uw; rw [IntKind.wrap_u64]; omega
  rw [← hu] at hg
  have e1 := sr_pass (p := pLt 9) (f := 65537) (la := la') hg ⟨by simp, rfl⟩
  have e1' : sr (pLt 9) 65538 la' 20 0 0 s0 = sr (pLt 9) 65537 (la'.set 0 ⟨uw (20 + ((0 : Nat) : Int)), 41, 5⟩) ((42 : Nat) : Int) 0 1 ((s0.lg ⟨false, uw (20 + ((0 : Nat) : Int)), 0⟩).lg ⟨false, 40, 0⟩) := by
    rw [← nd42]
    exact e1
  obtain ⟨s', q1, q2, q3, q4⟩ := search_round (v := v) (p := pLt 9) rfl 65535 65537 (la'.set 0 ⟨uw (20 + ((0 : Nat) : Int)), 41, 5⟩) 1 ((s0.lg ⟨false, uw (20 + ((0 : Nat) : Int)), 0⟩).lg ⟨false, 40, 0⟩) (by omega) (by omega) ((r0.lg _).lg _)
  refine ⟨s', ?_, q2, q3.trans g0, by simp only [len_lg] at q4; omega⟩
  have hq := e0.trans (e1'.trans q1)
  unfold Wd.has
  rw [hq]
  rfl
theorem round_rem {s : Wd} (hs : Rs 9 s) : ∃ s', s.rem 0 20 5 = ((false, 320), s') := by
  obtain ⟨la', s0, e0, n0, r0, g0, l0⟩ := hs.bottom (pLt 5)
  have hg := r0.fol1 20 (by omega) (rw20 9) 0 (by omega)
  have hu : uw (20 + ((0 : Nat) : Int)) = ((20 : Nat) : Int) := by unfold uw; rw [IntKind.wrap_u64]; omega
  rw [← hu] at hg
  have e1 := sr_end (p := pLt 5) (f := 65537) (la := la') hg (fun q => absurd q.2 (by simp [pLt]))
  have r1 := (r0.lg ⟨false, uw (20 + ((0 : Nat) : Int)), 0⟩).lg ⟨false, 40, 0⟩
  have h41 := r1.get 41 (by omega)
  have h9 : oat (RW 9) 41 = 9 := by simp [RW, oat]
  rw [h9] at h41
  have hl0 : lk (la'.set 0 ⟨uw (20 + ((0 : Nat) : Int)), 41, 5⟩) 0 = ⟨uw (20 + ((0 : Nat) : Int)), 41, 5⟩ := lk_set_same n0 (by omega) _
  have hhv : haveB (la'.set 0 ⟨uw (20 + ((0 : Nat) : Int)), 41, 5⟩) 5 = true := by unfold haveB; rw [hl0]; rfl
  have hnd : uw (uw (41 - 1) + 1) = ((41 : Nat) : Int) := by unfold uw; simp only [IntKind.wrap_u64]; omega
  have hlv : ∀ S : Wd, S.get ((41 : Nat) : Int) = ((9, 0), S.lg ⟨false, ((41 : Nat) : Int), 0⟩) → S.levelOf (uw (41 - 1)) = ((0, 320), S.lg ⟨false, ((41 : Nat) : Int), 0⟩) := by
    intro S hS
    unfold Wd.levelOf
    rw [hnd, hS]
    simp
  refine ⟨((s0.lg ⟨false, uw (20 + ((0 : Nat) : Int)), 0⟩).lg ⟨false, 40, 0⟩).lg ⟨false, ((41 : Nat) : Int), 0⟩, ?_⟩
  unfold Wd.rem
  rw [e0, e1]
  dsimp only
  rw [if_neg (by rw [hhv]; simp), hl0]
  unfold Lk.nd
  dsimp only
  rw [hlv _ h41]
  dsimp only
  rw [if_pos (by simp)]
end Go.Proofs.Ytifmpiiaebnbiaa


/- The law SkipRound walked (layer 22). No statement of the seat is proved here. -/
namespace Go.Proofs.Ytifmpiiaebnbiaa
open Go.RowKit

def R0 : Wd := ⟨List.replicate 60 0, [], 0, 0⟩
theorem WdAt.put1 {T : TypeId} {w : World} {b g c : Nat} {s : Wd} (h : WdAt T w b g c s) (i : Nat) {x : Int} (hx : isW x) (hi : i < s.W.length) : Hs T w b g c (w.setCell ⟨g, i, none⟩ (.int .u64 x)) { s with W := s.W.set i x } := ⟨(h.store i hx hi).1, (h.store i hx hi).2⟩
theorem len_r {b g c : Nat} {s : Wd} {at_ x1 e1 : Int} {s1 : Wd} (heq : Hid (s.len at_ = ((x1, e1), s1))) (hat : isW at_) (rms : Rm s 131100) {w : World} (h : WdAt 27 w b g c s) :
    Calls Try.prog 15 #[.iface 23 (.pointer (some ⟨b, 0, none⟩)), .int .u64 at_] w fun e w' => e = .returned (.tuple #[.int .i64 x1, .int .i64 e1]) ∧ Hs 27 w b g c w' s1 := by
  have q := len_any b g c s at_ hat rms w h
  rw [heq.out] at q
  exact q
theorem has_r {b g c : Nat} {s : Wd} {at_ x : Int} {b1 : Bool} {e1 : Int} {s1 : Wd} (heq : Hid (s.has at_ x = ((b1, e1), s1))) (hat : isW at_) (rms : Rm s 131090) {w : World} (h : WdAt 27 w b g c s) :
    Calls Try.prog 24 #[.iface 23 (.pointer (some ⟨b, 0, none⟩)), .int .u64 at_, .int .u64 x] w fun e w' => e = .returned (.tuple #[.bool b1, .int .i64 e1]) ∧ Hs 27 w b g c w' s1 := by
  have q := has_any b g c s at_ x hat rms w h
  rw [heq.out] at q
  exact q
end Go.Proofs.Ytifmpiiaebnbiaa
