/-
  No statement of the seat is proved here. (Several texts in one: SkV, SkX.)
-/
import Derived.Test.YtjgibkofenkehaaSkJ
import Derived.Test.YtjgibkofenkehaaSkS
import Derived.Test.YtjgibkofenkehaaSkK
import Derived.Test.YtjgibkofenkehaaSkOb

/- Pure (layer 22): a set whose node leads to itself. No statement of the seat is proved here. -/
namespace Go.Proofs.Ytjgibkofenkehaa
open Go.RowKit

/-- The words of the closed sentence, the node's level being v. -/
def RW (v : Int) : List Int := ((((List.replicate 60 (0 : Int)).set 20 41).set 40 5).set 41 v).set 42 41
/-- A tx of these words that never says no. -/
structure Rs (v : Int) (s : Wd) : Prop where
  w : s.W = RW v
  c : s.c = 0
theorem rw_len (v : Int) : (RW v).length = 60 := by simp [RW]
theorem Rs.lg {v : Int} {s : Wd} (h : Rs v s) (q : Acc) : Rs v (s.lg q) := ⟨h.w, h.c⟩
theorem Rs.get {v : Int} {s : Wd} (h : Rs v s) (a : Nat) (ha : a < 60) : s.get (a : Int) = ((oat (RW v) a, 0), s.lg ⟨false, (a : Int), 0⟩) := by
  have hk : (s.lg ⟨false, (a : Int), 0⟩).ask (a : Int) = 0 := by
    unfold Wd.ask
    rw [if_neg (fun q => q.2 h.c), if_neg]
    show ¬ ((s.W.length : Int) ≤ _)
    rw [h.w, rw_len]
    omega
  unfold Wd.get
  rw [if_neg (by simp [hk]), h.w]
  simp
theorem len_lg (s : Wd) (q : Acc) : (s.lg q).L.length = s.L.length + 1 := by simp [Wd.lg]
theorem Rs.fol0 {v : Int} {s : Wd} (h : Rs v s) (a : Nat) (ha : a < 60) (hz : oat (RW v) a = 0) (n : Nat) : s.fol n (a : Int) = ((⟨(a : Int), 0, 0⟩, 0), n, s.lg ⟨false, (a : Int), 0⟩) := by
  have hg := h.get a ha
  rw [hz] at hg
  unfold Wd.fol
  rw [hg]
  simp
theorem Rs.fol1 {v : Int} {s : Wd} (h : Rs v s) (a : Nat) (ha : a < 60) (hz : oat (RW v) a = 41) (n : Nat) (hn : n ≠ 65536) : s.fol n (a : Int) = ((⟨(a : Int), 41, 5⟩, 0), n + 1, (s.lg ⟨false, (a : Int), 0⟩).lg ⟨false, 40, 0⟩) := by
  have hg := h.get a ha
  rw [hz] at hg
  have hg2 := (h.lg ⟨false, (a : Int), 0⟩).get 40 (by omega)
  have h40 : oat (RW v) 40 = 5 := by simp [RW, oat]
  rw [h40] at hg2
  have hu : uw (41 - 1) = ((40 : Nat) : Int) := by unfold uw; rw [IntKind.wrap_u64]; omega
  unfold Wd.fol
  rw [hg]
  dsimp only
  rw [hu, hg2]
  simp [hn]
theorem Rs.folF {v : Int} {s : Wd} (h : Rs v s) (a : Nat) (ha : a < 60) (hz : oat (RW v) a = 41) : s.fol 65536 (a : Int) = ((Lk.zero, 320), 65536, s.lg ⟨false, (a : Int), 0⟩) := by
  have hg := h.get a ha
  rw [hz] at hg
  unfold Wd.fol
  rw [hg]
  simp
theorem rw20 (v : Int) : oat (RW v) 20 = 41 := by simp [RW, oat]
theorem rw42 (v : Int) : oat (RW v) 42 = 41 := by simp [RW, oat]
theorem nd42 : uw (uw (41 - 1) + 2) = ((42 : Nat) : Int) := by unfold uw; simp only [IntKind.wrap_u64]; omega
/-- The words, told round and round. -/
theorem each_round {v : Int} : ∀ (j f : Nat) (out : List Int) (c0 : Int) (n : Nat) (s : Wd), n + j = 65536 → j < f → Rs v s → ∃ out' s', eachL f out ⟨c0, 41, 5⟩ 0 n s = ((out', 320), s') ∧ Rs v s' ∧ s'.g = s.g ∧ s'.L.length = s.L.length + 2 * j + 1
  | 0, f, out, c0, n, s, hn, hf, hs => by
    obtain ⟨f', rfl⟩ : ∃ f', f = f' + 1 := ⟨f - 1, by omega⟩
    obtain rfl : n = 65536 := by omega
    refine ⟨out ++ [5], s.lg ⟨false, 42, 0⟩, ?_, hs.lg _, rfl, by rw [len_lg]⟩
    unfold eachL
    rw [if_pos ⟨rfl, by simp⟩]
    unfold Lk.nd
    dsimp only
    rw [nd42, hs.folF 42 (by omega) (rw42 v)]
    dsimp only
    cases f' with
    | zero => rfl
    | succ f' => unfold eachL; rw [if_neg (by simp)]; rfl
  | j + 1, f, out, c0, n, s, hn, hf, hs => by
    obtain ⟨f', rfl⟩ : ∃ f', f = f' + 1 := ⟨f - 1, by omega⟩
    obtain ⟨out', s', e1, e2, e3, e4⟩ := each_round (v := v) j f' (out ++ [5]) 42 (n + 1) ((s.lg ⟨false, 42, 0⟩).lg ⟨false, 40, 0⟩) (by omega) (by omega) ((hs.lg _).lg _)
    refine ⟨out', s', ?_, e2, e3, by simp only [len_lg] at e4; omega⟩
    conv => lhs; unfold eachL
    rw [if_pos ⟨rfl, by simp⟩]
    unfold Lk.nd
    dsimp only
    rw [nd42, hs.fol1 42 (by omega) (rw42 v) n (by omega)]
    exact e1
theorem round_each1 {v : Int} {s : Wd} (hs : Rs v s) (F : Nat) (hF : 65535 < F) : ∃ out' s', eachL F [] ⟨((20 : Nat) : Int), 41, 5⟩ 0 1 ((s.lg ⟨false, ((20 : Nat) : Int), 0⟩).lg ⟨false, 40, 0⟩) = ((out', 320), s') ∧ Rs v s' ∧ s'.g = s.g ∧ s'.L.length = s.L.length + 131073 := by
  have hj : ∃ j : Nat, j = 65535 := ⟨_, rfl⟩
  obtain ⟨j, hj⟩ := hj
  obtain ⟨out', s', e1, e2, e3, e4⟩ := each_round (v := v) j F [] ((20 : Nat) : Int) 1 ((s.lg ⟨false, ((20 : Nat) : Int), 0⟩).lg ⟨false, 40, 0⟩) (by omega) (by omega) ((hs.lg _).lg _)
  refine ⟨out', s', e1, e2, e3, ?_⟩
  have l1 := len_lg s ⟨false, ((20 : Nat) : Int), 0⟩
  have l2 := len_lg (s.lg ⟨false, ((20 : Nat) : Int), 0⟩) ⟨false, 40, 0⟩
  omega
theorem FU_gt : 65535 < FU := by unfold FU; omega
theorem round_each {v : Int} {s : Wd} (hs : Rs v s) : ∃ out' s', s.each 20 = ((out', 320), s') ∧ Rs v s' ∧ s'.g = s.g ∧ s'.L.length = s.L.length + 131073 := by
  obtain ⟨out', s', e1, e2⟩ := round_each1 hs FU FU_gt
  have h20 : s.fol 0 20 = ((⟨((20 : Nat) : Int), 41, 5⟩, 0), 1, (s.lg ⟨false, ((20 : Nat) : Int), 0⟩).lg ⟨false, 40, 0⟩) := hs.fol1 20 (by omega) (rw20 v) 0 (by omega)
  refine ⟨out', s', ?_, e2⟩
  have hq : s.each 20 = (match ((⟨((20 : Nat) : Int), 41, 5⟩, 0), 1, (s.lg ⟨false, ((20 : Nat) : Int), 0⟩).lg ⟨false, 40, 0⟩) with
    | ((l, e), n, s1) => eachL FU [] l e n s1 : (List Int × Int) × Wd) := by unfold Wd.each; rw [h20]
  exact hq.trans e1
theorem round_keys {v : Int} {s : Wd} (hs : Rs v s) : ∃ s', s.keys 20 = (([], 320), s') ∧ Rs v s' ∧ s'.g = s.g ∧ s'.L.length = s.L.length + 131073 := by
  obtain ⟨out', s', e1, e2⟩ := round_each hs
  refine ⟨s', ?_, e2⟩
  unfold Wd.keys
  rw [e1]
  rfl
theorem round_len {v : Int} {s : Wd} (hs : Rs v s) : ∃ s', s.len 20 = ((0, 320), s') ∧ Rs v s' ∧ s'.g = s.g ∧ s'.L.length = s.L.length + 131073 := by
  obtain ⟨out', s', e1, e2⟩ := round_each hs
  refine ⟨s', ?_, e2⟩
  unfold Wd.len
  rw [e1]
  rfl
/-- A level of the header that leads nowhere. -/
theorem Rs.down {v : Int} {s : Wd} (h : Rs v s) (p : Int → Bool) (f : Nat) (la : List Lk) (lv : Nat) (hl : lv < 7) (n : Nat) : ∃ la', sr p (f + 1) la 20 (lv + 1) n s = sr p f la' 20 lv n (s.lg ⟨false, ((20 + (lv + 1) : Nat) : Int), 0⟩) ∧ (la.length = 8 → la'.length = 8) := by
  have hz : oat (RW v) (20 + (lv + 1)) = 0 := by
    match lv, hl with
    | 0, _ => simp [RW, oat]
    | 1, _ => simp [RW, oat]
    | 2, _ => simp [RW, oat]
    | 3, _ => simp [RW, oat]
    | 4, _ => simp [RW, oat]
    | 5, _ => simp [RW, oat]
    | 6, _ => simp [RW, oat]
  have hf := h.fol0 (20 + (lv + 1)) (by omega) hz n
  have hu : uw (20 + ((lv + 1 : Nat) : Int)) = ((20 + (lv + 1) : Nat) : Int) := by unfold uw; rw [IntKind.wrap_u64]; omega
  have hf2 : s.fol n (uw (20 + ((lv + 1 : Nat) : Int))) = ((⟨((20 + (lv + 1) : Nat) : Int), 0, 0⟩, 0), n, s.lg ⟨false, ((20 + (lv + 1) : Nat) : Int), 0⟩) := by rw [hu]; exact hf
  exact ⟨_, sr_down hf2 (fun q => q.1 rfl), fun h8 => by simpa using h8⟩
/-- Down to the level 0, nothing found. -/
theorem Rs.bottom {v : Int} {s : Wd} (h : Rs v s) (p : Int → Bool) : ∃ la' s', s.search p 20 = sr p 65538 la' 20 0 0 s' ∧ la'.length = 8 ∧ Rs v s' ∧ s'.g = s.g ∧ s'.L.length = s.L.length + 7 := by
  obtain ⟨l7, e7, n7⟩ := h.down p 65544 zeros 6 (by omega) 0
  have h7 := h.lg ⟨false, ((20 + (6 + 1) : Nat) : Int), 0⟩
  obtain ⟨l6, e6, n6⟩ := h7.down p 65543 l7 5 (by omega) 0
  have h6 := h7.lg ⟨false, ((20 + (5 + 1) : Nat) : Int), 0⟩
  obtain ⟨l5, e5, n5⟩ := h6.down p 65542 l6 4 (by omega) 0
  have h5 := h6.lg ⟨false, ((20 + (4 + 1) : Nat) : Int), 0⟩
  obtain ⟨l4, e4, n4⟩ := h5.down p 65541 l5 3 (by omega) 0
  have h4 := h5.lg ⟨false, ((20 + (3 + 1) : Nat) : Int), 0⟩
  obtain ⟨l3, e3, n3⟩ := h4.down p 65540 l4 2 (by omega) 0
  have h3 := h4.lg ⟨false, ((20 + (2 + 1) : Nat) : Int), 0⟩
  obtain ⟨l2, e2, n2⟩ := h3.down p 65539 l3 1 (by omega) 0
  have h2 := h3.lg ⟨false, ((20 + (1 + 1) : Nat) : Int), 0⟩
  obtain ⟨l1, e1, n1⟩ := h2.down p 65538 l2 0 (by omega) 0
  have h1 := h2.lg ⟨false, ((20 + (0 + 1) : Nat) : Int), 0⟩
  refine ⟨l1, _, ?_, n1 (n2 (n3 (n4 (n5 (n6 (n7 rfl)))))), h1, rfl, by simp only [len_lg]⟩
  exact (e7.trans (e6.trans (e5.trans (e4.trans (e3.trans (e2.trans e1))))))
theorem search_round {v : Int} {p : Int → Bool} (hp : p 5 = true) : ∀ (j f : Nat) (la : List Lk) (n : Nat) (s : Wd), n + j = 65536 → j < f → Rs v s → ∃ s', sr p f la 42 0 n s = ((zeros, 320), s') ∧ Rs v s' ∧ s'.g = s.g ∧ s'.L.length = s.L.length + 2 * j + 1
  | 0, f, la, n, s, hn, hf, hs => by
    obtain ⟨f', rfl⟩ : ∃ f', f = f' + 1 := ⟨f - 1, by omega⟩
    obtain rfl : n = 65536 := by omega
    have hg := hs.folF 42 (by omega) (rw42 v)
    have hu : uw (42 + ((0 : Nat) : Int)) = ((42 : Nat) : Int) := by unfold uw; rw [IntKind.wrap_u64]; omega
    rw [← hu] at hg
    exact ⟨_, sr_err hg (by simp), hs.lg _, rfl, by rw [len_lg]⟩
  | j + 1, f, la, n, s, hn, hf, hs => by
    obtain ⟨f', rfl⟩ : ∃ f', f = f' + 1 := ⟨f - 1, by omega⟩
    have hg := hs.fol1 42 (by omega) (rw42 v) n (by omega)
    have hu : uw (42 + ((0 : Nat) : Int)) = ((42 : Nat) : Int) := by unfold uw; rw [IntKind.wrap_u64]; omega
    rw [← hu] at hg
    have e0 := sr_pass (p := p) (f := f') (la := la) hg ⟨by simp, hp⟩
    have e0' : sr p (f' + 1) la 42 0 n s = sr p f' (la.set 0 ⟨uw (42 + ((0 : Nat) : Int)), 41, 5⟩) ((42 : Nat) : Int) 0 (n + 1) ((s.lg ⟨false, uw (42 + ((0 : Nat) : Int)), 0⟩).lg ⟨false, 40, 0⟩) := by
      rw [← nd42]
      exact e0
    obtain ⟨s', q1, q2, q3, q4⟩ := search_round (v := v) hp j f' (la.set 0 ⟨uw (42 + ((0 : Nat) : Int)), 41, 5⟩) (n + 1) ((s.lg ⟨false, uw (42 + ((0 : Nat) : Int)), 0⟩).lg ⟨false, 40, 0⟩) (by omega) (by omega) ((hs.lg _).lg _)
    exact ⟨s', e0'.trans q1, q2, q3, by simp only [len_lg] at q4; omega⟩
theorem round_has {v : Int} {s : Wd} (hs : Rs v s) : ∃ s', s.has 20 9 = ((false, 320), s') ∧ Rs v s' ∧ s'.g = s.g ∧ s'.L.length ≤ s.L.length + 131090 := by
  obtain ⟨la', s0, e0, n0, r0, g0, l0⟩ := hs.bottom (pLt 9)
  have hg := r0.fol1 20 (by omega) (rw20 v) 0 (by omega)
  have hu : uw (20 + ((0 : Nat) : Int)) = ((20 : Nat) : Int) := by unfold uw; rw [IntKind.wrap_u64]; omega
  rw [← hu] at hg
  have e1 := sr_pass (p := pLt 9) (f := 65537) (la := la') hg ⟨by simp, rfl⟩
  have e1' : sr (pLt 9) 65538 la' 20 0 0 s0 = sr (pLt 9) 65537 (la'.set 0 ⟨uw (20 + ((0 : Nat) : Int)), 41, 5⟩) ((42 : Nat) : Int) 0 1 ((s0.lg ⟨false, uw (20 + ((0 : Nat) : Int)), 0⟩).lg ⟨false, 40, 0⟩) := by
    rw [← nd42]
    exact e1
  obtain ⟨s', q1, q2, q3, q4⟩ := search_round (v := v) (p := pLt 9) rfl 65535 65537 (la'.set 0 ⟨uw (20 + ((0 : Nat) : Int)), 41, 5⟩) 1 ((s0.lg ⟨false, uw (20 + ((0 : Nat) : Int)), 0⟩).lg ⟨false, 40, 0⟩) (by omega) (by omega) ((r0.lg _).lg _)
  refine ⟨s', ?_, q2, q3.trans g0, by simp only [len_lg] at q4; omega⟩
  have hq := e0.trans (e1'.trans q1)
  unfold Wd.has
  rw [hq]
  rfl
theorem round_rem {s : Wd} (hs : Rs 9 s) : ∃ s', s.rem 0 20 5 = ((false, 320), s') := by
  obtain ⟨la', s0, e0, n0, r0, g0, l0⟩ := hs.bottom (pLt 5)
  have hg := r0.fol1 20 (by omega) (rw20 9) 0 (by omega)
  have hu : uw (20 + ((0 : Nat) : Int)) = ((20 : Nat) : Int) := by unfold uw; rw [IntKind.wrap_u64]; omega
  rw [← hu] at hg
  have e1 := sr_end (p := pLt 5) (f := 65537) (la := la') hg (fun q => absurd q.2 (by simp [pLt]))
  have r1 := (r0.lg ⟨false, uw (20 + ((0 : Nat) : Int)), 0⟩).lg ⟨false, 40, 0⟩
  have h41 := r1.get 41 (by omega)
  have h9 : oat (RW 9) 41 = 9 := by simp [RW, oat]
  rw [h9] at h41
  have hl0 : lk (la'.set 0 ⟨uw (20 + ((0 : Nat) : Int)), 41, 5⟩) 0 = ⟨uw (20 + ((0 : Nat) : Int)), 41, 5⟩ := lk_set_same n0 (by omega) _
  have hhv : haveB (la'.set 0 ⟨uw (20 + ((0 : Nat) : Int)), 41, 5⟩) 5 = true := by unfold haveB; rw [hl0]; rfl
  have hnd : uw (uw (41 - 1) + 1) = ((41 : Nat) : Int) := by unfold uw; simp only [IntKind.wrap_u64]; omega
  have hlv : ∀ S : Wd, S.get ((41 : Nat) : Int) = ((9, 0), S.lg ⟨false, ((41 : Nat) : Int), 0⟩) → S.levelOf (uw (41 - 1)) = ((0, 320), S.lg ⟨false, ((41 : Nat) : Int), 0⟩) := by
    intro S hS
    unfold Wd.levelOf
    rw [hnd, hS]
    simp
  refine ⟨((s0.lg ⟨false, uw (20 + ((0 : Nat) : Int)), 0⟩).lg ⟨false, 40, 0⟩).lg ⟨false, ((41 : Nat) : Int), 0⟩, ?_⟩
  unfold Wd.rem
  rw [e0, e1]
  dsimp only
  rw [if_neg (by rw [hhv]; simp), hl0]
  unfold Lk.nd
  dsimp only
  rw [hlv _ h41]
  dsimp only
  rw [if_pos (by simp)]
end Go.Proofs.Ytjgibkofenkehaa


/- The law SkipRound walked (layer 22). No statement of the seat is proved here. -/
namespace Go.Proofs.Ytjgibkofenkehaa
open Go.RowKit

def R0 : Wd := ⟨List.replicate 60 0, [], 0, 0⟩
theorem WdAt.put1 {T : TypeId} {w : World} {b g c : Nat} {s : Wd} (h : WdAt T w b g c s) (i : Nat) {x : Int} (hx : isW x) (hi : i < s.W.length) : Hs T w b g c (w.setCell ⟨g, i, none⟩ (.int .u64 x)) { s with W := s.W.set i x } := ⟨(h.store i hx hi).1, (h.store i hx hi).2⟩
theorem len_r {b g c : Nat} {s : Wd} {at_ x1 e1 : Int} {s1 : Wd} (heq : Hid (s.len at_ = ((x1, e1), s1))) (hat : isW at_) (rms : Rm s 131100) {w : World} (h : WdAt 27 w b g c s) :
    Calls Try.prog 19 #[.iface 24 (.pointer (some ⟨b, 0, none⟩)), .int .u64 at_] w fun e w' => e = .returned (.tuple #[.int .i64 x1, .int .i64 e1]) ∧ Hs 27 w b g c w' s1 := by
  have q := len_any b g c s at_ hat rms w h
  rw [heq.out] at q
  exact q
theorem has_r {b g c : Nat} {s : Wd} {at_ x : Int} {b1 : Bool} {e1 : Int} {s1 : Wd} (heq : Hid (s.has at_ x = ((b1, e1), s1))) (hat : isW at_) (rms : Rm s 131090) {w : World} (h : WdAt 27 w b g c s) :
    Calls Try.prog 25 #[.iface 24 (.pointer (some ⟨b, 0, none⟩)), .int .u64 at_, .int .u64 x] w fun e w' => e = .returned (.tuple #[.bool b1, .int .i64 e1]) ∧ Hs 27 w b g c w' s1 := by
  have q := has_any b g c s at_ x hat rms w h
  rw [heq.out] at q
  exact q
set_option maxRecDepth 100000 in
set_option maxHeartbeats 4000000 in
theorem round_walk (w : World) : Calls Try.prog 7 #[] w fun e w' => e = .returned (.bool true) ∧ Keeps (fun _ => False) w w' := by
  have hmk : ∀ w : World, (Instr.makeSlice 22 (.int .i64 60) (.int .i64 60)).run Try.prog w = .ok (.slice (some ⟨w.heap.size, 0, none⟩) 60 60) (w.alloc (.cells (madeCells #[.int .u64 0] 60) 32)) := run_made 60 (by omega)
  have HWD : Hid (Hs 27 ((w.alloc (.cells (madeCells #[.int .u64 0] 60) 32)).alloc (.cells #[.slice (some ⟨w.heap.size, 0, none⟩) 60 60, .slice none 0 0, .int .i64 0, .int .i64 0] 27 (0, 0))) (w.heap.size + 1) w.heap.size 60 ((w.alloc (.cells (madeCells #[.int .u64 0] 60) 32)).alloc (.cells #[.slice (some ⟨w.heap.size, 0, none⟩) 60 60, .slice none 0 0, .int .i64 0, .int .i64 0] 27 (0, 0))) R0) := hid (Hs.start (wd_made _ w 60 (by omega) (by omega) 0 0))
  have HK0 : Hid (Keeps (fun _ => False) w ((w.alloc (.cells (madeCells #[.int .u64 0] 60) 32)).alloc (.cells #[.slice (some ⟨w.heap.size, 0, none⟩) 60 60, .slice none 0 0, .int .i64 0, .int .i64 0] 27 (0, 0)))) := hid ((keeps_new w _).alloc _)
  have HOW : Hid (∀ i, own ((w.alloc (.cells (madeCells #[.int .u64 0] 60) 32)).alloc (.cells #[.slice (some ⟨w.heap.size, 0, none⟩) 60 60, .slice none 0 0, .int .i64 0, .int .i64 0] 27 (0, 0))) (w.heap.size + 1) w.heap.size i → w.heap.size ≤ i) := by
    refine hid fun i hi => ?_
    rcases hi with e | e | ⟨x, v, y, z, t, fr, e1, e2⟩
    · omega
    · omega
    · have b1 := alloc_block (w.alloc (.cells (madeCells #[.int .u64 0] 60) 32)) (.cells #[.slice (some ⟨w.heap.size, 0, none⟩) 60 60, .slice none 0 0, .int .i64 0, .int .i64 0] 27 (0, 0))
      rw [show (w.alloc (.cells (madeCells #[.int .u64 0] 60) 32)).heap.size = w.heap.size + 1 by simp] at b1
      rw [b1] at e1
      simp at e1
      obtain ⟨⟨_, rfl, _⟩, _⟩ := e1
      simp [Value.ownBlock] at e2
  have w20 : isW 20 := lit_isW 20 (by omega)
  have w9 : isW 9 := lit_isW 9 (by omega)
  have w5 : isW 5 := lit_isW 5 (by omega)
  have w1 : isW 1 := lit_isW 1 (by omega)
  have w41 : isW 41 := lit_isW 41 (by omega)
  go_enter Try.func7, Try.ntmps7
  go_wp2_with fail
  generalize ((w.alloc (.cells (madeCells #[.int .u64 0] 60) 32)).alloc (.cells #[.slice (some ⟨w.heap.size, 0, none⟩) 60 60, .slice none 0 0, .int .i64 0, .int .i64 0] 27 (0, 0))) = X0 at HWD HK0 HOW ⊢
  clear hmk
  have c0 : X0.cell? ⟨w.heap.size + 1, 0, none⟩ = some (.slice (some ⟨w.heap.size, 0, none⟩) 60 60) := by
    have q := HWD.out.wd.cell0
    rw [adr_pos (by omega)] at q
    exact q
  refine wp_region_tail 16 (by kernel_rfl) (by kernel_rfl) ?_
  simp only [List.take_succ_cons, List.take_zero, List.drop_succ_cons, List.drop_zero]
  repeat (go_big_quiet_step (fail))
  refine wpQuiet_nil ?_
  intro _ hw'
  obtain ⟨nq, hw''⟩ := hw'
  subst hw''
  try simp only [World.drewN_drewN]
  have HD := hid (HWD.out.drewN nq)
  clear HWD c0
  generalize X0.drewN nq = X1 at HD ⊢
  have hst := fun i (hi : i < 60) => HD.out.wd.wcell i (by show i < (List.replicate 60 (0 : Int)).length; simpa using hi)
  have hfr := fun i => HD.out.wd.wfrozen i (by show 0 < (List.replicate 60 (0 : Int)).length; simp)
  have s20 := hst 20 (by omega)
  have s40 := hst 40 (by omega)
  have s41 := hst 41 (by omega)
  have s42 := hst 42 (by omega)
  clear hst
  have HS4 : Hid (∃ s : Wd, Rs 1 s ∧ s.L.length = 0 ∧ Hs 27 X0 (w.heap.size + 1) w.heap.size 60 ((((X1.setCell ⟨w.heap.size, 20, none⟩ (.int .u64 41)).setCell ⟨w.heap.size, 40, none⟩ (.int .u64 5)).setCell ⟨w.heap.size, 41, none⟩ (.int .u64 1)).setCell ⟨w.heap.size, 42, none⟩ (.int .u64 41)) s) := by
    have a1 := HD.out.trans (HD.out.wd.put1 20 w41 (by show 20 < (List.replicate 60 (0 : Int)).length; simp))
    have a2 := a1.trans (a1.wd.put1 40 w5 (by show 40 < ((List.replicate 60 (0 : Int)).set 20 41).length; simp))
    have a3 := a2.trans (a2.wd.put1 41 w1 (by show 41 < (((List.replicate 60 (0 : Int)).set 20 41).set 40 5).length; simp))
    have a4 := a3.trans (a3.wd.put1 42 w41 (by show 42 < ((((List.replicate 60 (0 : Int)).set 20 41).set 40 5).set 41 1).length; simp))
    exact hid ⟨_, ⟨rfl, rfl⟩, rfl, a4⟩
  go_wp2_with fail
  clear s20 s40 s41 s42 hfr HD
  generalize ((((X1.setCell ⟨w.heap.size, 20, none⟩ (.int .u64 41)).setCell ⟨w.heap.size, 40, none⟩ (.int .u64 5)).setCell ⟨w.heap.size, 41, none⟩ (.int .u64 1)).setCell ⟨w.heap.size, 42, none⟩ (.int .u64 41)) = X2 at HS4 ⊢
  obtain ⟨s0, r0, l0, h0⟩ := HS4.out
  clear HS4
  obtain ⟨s1, e1, r1, g1, l1⟩ := round_keys r0
  obtain ⟨s2, e2, r2, g2, l2⟩ := round_len r1
  obtain ⟨s3, e3, r3, g3, l3⟩ := round_has r2
  have E1 : Hid (_ = _) := e1
  have E2 : Hid (_ = _) := e2
  have E3 : Hid (_ = _) := e3
  have m0 : Rm s0 131100 := by unfold Rm; omega
  have m1 : Rm s1 131100 := by unfold Rm; omega
  have m2 : Rm s2 131090 := by unfold Rm; omega
  have m3 : Rm s3 131200 := by unfold Rm; omega
  have HL : Hid (s1.L.length = 131073) := hid (by omega)
  have HR3 := hid r3
  have H0 := hid h0
  clear e1 e2 e3 l0 l1 l2 l3 g1 g2 g3 r0 r1 r2 r3 h0
  refine (keys_r E1 w20 m0 H0.out.wd).mono ?_
  rintro e_ x1 ⟨v, rfl, q1, q2, q3⟩
  obtain ⟨av, cv, rfl⟩ := q1.form
  have H1 := hid (H0.out.trans q3)
  clear q1 q2 q3 H0 E1
  obtain ⟨al, cl, hcl⟩ := H1.out.wd.cell1
  obtain ⟨nl, hnl⟩ : ∃ n, s1.L.length = n := ⟨_, rfl⟩
  have hnl2 : (nl : Int) = 131073 := by have := HL.out; omega
  rw [hnl] at hcl
  clear hnl HL
  go_wp2_with fail
  refine (len_r E2 w20 m1 H1.out.wd).mono ?_
  rintro e_ x2 ⟨rfl, q3⟩
  have H2 := hid (H1.out.trans q3)
  clear q3 H1 E2 hcl
  go_wp2_with fail
  refine (has_r E3 w20 m2 H2.out.wd).mono ?_
  rintro e_ x3 ⟨rfl, q3⟩
  have H3 := hid (H2.out.trans q3)
  clear q3 H2 E3
  have hl60 : s3.W.length = 60 := by rw [HR3.out.w, rw_len]
  have c0 : x3.cell? ⟨w.heap.size + 1, 0, none⟩ = some (.slice (some ⟨w.heap.size, 0, none⟩) 60 60) := by
    have q := H3.out.wd.cell0
    rw [adr_pos (by omega), hl60] at q
    exact q
  have s41 := H3.out.wd.wcell 41 (by omega)
  have hfr := H3.out.wd.wfrozen 41 (by omega)
  have HS9 : Hid (∃ s : Wd, Rs 9 s ∧ Rm s 131200 ∧ Hs 27 X0 (w.heap.size + 1) w.heap.size 60 (x3.setCell ⟨w.heap.size, 41, none⟩ (.int .u64 9)) s) := by
    have a1 := H3.out.trans (H3.out.wd.put1 41 w9 (by omega))
    refine hid ⟨{ s3 with W := s3.W.set 41 9 }, ⟨?_, HR3.out.c⟩, m3, a1⟩
    show s3.W.set 41 9 = RW 9
    rw [HR3.out.w]
    rfl
  clear hl60 m3
  go_wp2_with fail
  clear s41 hfr c0 H3 HR3
  generalize x3.setCell ⟨w.heap.size, 41, none⟩ (.int .u64 9) = x4 at HS9 ⊢
  obtain ⟨s4, r4, m4, h4⟩ := HS9.out
  clear HS9
  obtain ⟨s5, e5⟩ := round_rem r4
  have E5 : Hid (_ = _) := e5
  have H4 := hid h4
  clear r4 h4 e5
  refine (rem_r E5 w20 m4 H4.out.wd).mono ?_
  rintro e_ x5 ⟨rfl, q3⟩
  have H5 := hid (H4.out.trans q3)
  clear q3 H4 E5
  go_wp2_with fail
  refine (num_any _ _).mono ?_
  rintro e_ w_ ⟨rfl, hw_⟩
  subst w_
  go_wp2_with fail
  refine (num_any _ _).mono ?_
  rintro e_ w_ ⟨rfl, hw_⟩
  subst w_
  go_wp2_with fail
  refine (num_any _ _).mono ?_
  rintro e_ w_ ⟨rfl, hw_⟩
  subst w_
  go_wp2_with fail
  refine (num_any _ _).mono ?_
  rintro e_ w_ ⟨rfl, hw_⟩
  subst w_
  go_wp2_with fail
  refine (known_any _).mono ?_
  rintro e_ x6 ⟨rfl, k6⟩
  have HZ : Hid (Keeps (fun _ => False) w x6) := hid ((Hs.kept HK0.out H5.out HOW.out).trans k6)
  clear k6 H5
  go_wp2_with fail
  go_ret
  exact ⟨rfl, HZ.out⟩
end Go.Proofs.Ytjgibkofenkehaa
