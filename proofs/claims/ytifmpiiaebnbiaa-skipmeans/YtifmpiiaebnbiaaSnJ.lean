
/- Pure (layer 22): calls on a set, held against a plain list; how it begins. No statement of the seat is proved here. -/
import Derived.Test.YtifmpiiaebnbiaaSnI
namespace Go.Proofs.Ytifmpiiaebnbiaa
open Go.RowKit

/-- Where a word stands, or should. -/
def plc : List Int → Int → Nat
  | [], _ => 0
  | a :: r, x => if a < x then plc r x + 1 else 0
def thr (K : List Int) (x : Int) : Bool := decide (plc K x < K.length) && (oat K (plc K x) == x)
def withK (K : List Int) (x : Int) : List Int := if thr K x = true then K else K.take (plc K x) ++ x :: K.drop (plc K x)
def outK (K : List Int) (x : Int) : List Int := K.filter fun y => y != x
def ks (N : List Sn) : List Int := N.map Sn.k
theorem plc_app {x : Int} : ∀ {A B : List Int}, (∀ y ∈ A, y < x) → (∀ y ∈ B, x ≤ y) → plc (A ++ B) x = A.length
  | [], [], _, _ => rfl
  | [], b :: B, _, h => by
    show plc (b :: B) x = 0
    rw [plc, if_neg (by have := h b (by simp); omega)]
  | a :: A, B, h, hB => by
    show plc (a :: (A ++ B)) x = _
    rw [plc, if_pos (h a (by simp)), plc_app (A := A) (fun y hy => h y (by simp [hy])) hB]
    rfl
theorem plc_le (x : Int) : ∀ K : List Int, plc K x ≤ K.length
  | [] => Nat.le_refl _
  | a :: r => by
    rw [plc]
    have := plc_le x r
    split
    · simp; omega
    · omega
theorem plc_lt {x : Int} : ∀ {K : List Int} {j : Nat}, j < plc K x → oat K j < x
  | [], j, h => by simp [plc] at h
  | a :: r, j, h => by
    rw [plc] at h
    split at h
    · cases j with
      | zero => show oat (a :: r) 0 < x; unfold oat; simpa
      | succ j => exact plc_lt (K := r) (j := j) (by omega)
    · omega
theorem plc_at {x : Int} : ∀ {K : List Int}, plc K x < K.length → x ≤ oat K (plc K x)
  | [], h => by simp at h
  | a :: r, h => by
    rw [plc] at h ⊢
    by_cases h1 : a < x
    · rw [if_pos h1] at h ⊢
      exact plc_at (K := r) (by simpa using h)
    · rw [if_neg h1]
      unfold oat
      simp
      omega
theorem oat_mid (A B : List Int) (y : Int) : oat (A ++ y :: B) A.length = y := by unfold oat; simp
section
variable {s : Wd} {N : List Sn} {m : Nat} {x : Int}
/-- The set falls in two at a word. -/
theorem split_sn (x : Int) : ∀ {N : List Sn}, N.Pairwise (fun a b => a.k < b.k) → ∃ P B, N = P ++ B ∧ (∀ y ∈ P, y.k < x) ∧ ((∀ y ∈ B, x < y.k) ∨ ∃ q C, B = q :: C ∧ q.k = x)
  | [], _ => ⟨[], [], rfl, by simp, .inl (by simp)⟩
  | q :: r, h => by
    obtain ⟨h1, h2⟩ := List.pairwise_cons.1 h
    by_cases hq : q.k < x
    · obtain ⟨P, B, e, p1, p2⟩ := split_sn x h2
      exact ⟨q :: P, B, by rw [e]; rfl, fun y hy => by
        rcases List.mem_cons.1 hy with rfl | hy
        · exact hq
        · exact p1 y hy, p2⟩
    · by_cases hx : q.k = x
      · exact ⟨[], q :: r, rfl, by simp, .inr ⟨q, r, rfl, hx⟩⟩
      · refine ⟨[], q :: r, rfl, by simp, .inl fun y hy => ?_⟩
        rcases List.mem_cons.1 hy with rfl | hy
        · omega
        · have := h1 y hy; omega
theorem thr_yes {P C : List Sn} {q : Sn} (hP : ∀ y ∈ P, y.k < x) (hq : q.k = x) (hC : ∀ y ∈ C, x ≤ y.k) : thr (ks (P ++ q :: C)) x = true ∧ plc (ks (P ++ q :: C)) x = P.length := by
  have e : ks (P ++ q :: C) = ks P ++ q.k :: ks C := by simp [ks]
  have hp : plc (ks P ++ q.k :: ks C) x = (ks P).length := plc_app (fun y hy => by obtain ⟨z, hz, rfl⟩ := List.mem_map.1 hy; exact hP z hz) (fun y hy => by
    rcases List.mem_cons.1 hy with rfl | hy
    · omega
    · obtain ⟨z, hz, rfl⟩ := List.mem_map.1 hy; exact hC z hz)
  unfold thr
  rw [e, hp, oat_mid, hq]
  exact ⟨by simp, by simp [ks]⟩
theorem thr_no {P B : List Sn} (hP : ∀ y ∈ P, y.k < x) (hB : ∀ y ∈ B, x < y.k) : thr (ks (P ++ B)) x = false ∧ plc (ks (P ++ B)) x = P.length := by
  have e : ks (P ++ B) = ks P ++ ks B := by simp [ks]
  have hp : plc (ks P ++ ks B) x = (ks P).length := plc_app (fun y hy => by obtain ⟨z, hz, rfl⟩ := List.mem_map.1 hy; exact hP z hz) (fun y hy => by
    obtain ⟨z, hz, rfl⟩ := List.mem_map.1 hy
    have := hB z hz
    omega)
  unfold thr
  rw [e, hp]
  refine ⟨?_, by simp [ks]⟩
  cases B with
  | nil => simp [ks]
  | cons b B =>
    have := hB b (by simp)
    have e2 : ks (b :: B) = b.k :: ks B := rfl
    rw [e2, oat_mid]
    have : b.k ≠ x := by omega
    simp [this]
/-- Insert on a set. -/
theorem ins_set (h : Ss s N m) (hm : m ≤ 190) (hf : N.length ≤ 190) (hx : isW x) (level : Int) :
    ∃ s' N', s.ins 0 20 x level = ((!thr (ks N) x, 0), s') ∧ Aft s s' 2200 s'.W ∧ Ss s' N' (m + 1) ∧ ks N' = withK (ks N) x := by
  obtain ⟨P, B, e, hP, hB | ⟨q, C, eB, hq⟩⟩ := split_sn x h.sl.up
  · subst e
    obtain ⟨t1, t2⟩ := thr_no hP hB
    obtain ⟨nd, s', hk, e1, v, h'⟩ := ins_new h hm hP hB hx (by omega) level
    refine ⟨s', _, by rw [e1, t1]; rfl, v, h', ?_⟩
    unfold withK
    rw [t1, t2, if_neg (by decide)]
    have e2 : ks (P ++ B) = ks P ++ ks B := by simp [ks]
    have e3 : P.length = (ks P).length := by simp [ks]
    rw [e2, e3, List.take_left, List.drop_left, ← hk]
    simp [ks]
  · subst eB
    subst e
    obtain ⟨t1, t2⟩ := thr_yes (C := C) hP hq (fun y hy => h.tail_up hq y (by simp [hy]))
    obtain ⟨s', e1, v⟩ := ins_has h hP hq level
    have h2 := h.seen v
    refine ⟨s', _, by rw [e1, t1]; rfl, ⟨rfl, v.c, v.g, by have := v.aft.len; omega⟩, ⟨h2.c, h2.ok, h2.sl, h2.rm, by have := h2.nb; omega⟩, ?_⟩
    unfold withK
    rw [t1, if_pos rfl]
theorem outK_no {P B : List Sn} (hP : ∀ y ∈ P, y.k < x) (hB : ∀ y ∈ B, x < y.k) : outK (ks (P ++ B)) x = ks (P ++ B) := by
  unfold outK
  refine List.filter_eq_self.2 fun y hy => ?_
  obtain ⟨z, hz, rfl⟩ := List.mem_map.1 hy
  rcases List.mem_append.1 hz with hz | hz
  · have := hP z hz; simp; omega
  · have := hB z hz; simp; omega
/-- Remove on a set. -/
theorem rem_set (h : Ss s N m) :
    ∃ s' N', s.rem 0 20 x = ((thr (ks N) x, 0), s') ∧ Aft s s' 2200 s'.W ∧ Ss s' N' m ∧ ks N' = outK (ks N) x := by
  obtain ⟨P, B, e, hP, hB | ⟨q, C, eB, hq⟩⟩ := split_sn x h.sl.up
  · subst e
    obtain ⟨t1, t2⟩ := thr_no hP hB
    obtain ⟨s', e1, v⟩ := rem_no h hP hB
    exact ⟨s', _, by rw [e1, t1], ⟨rfl, v.c, v.g, by have := v.aft.len; omega⟩, h.seen v, (outK_no hP hB).symm⟩
  · subst eB
    subst e
    have hup := List.pairwise_append.1 h.sl.up
    have hC : ∀ y ∈ C, x < y.k := fun y hy => by have := (List.pairwise_cons.1 hup.2.1).1 y hy; omega
    obtain ⟨t1, t2⟩ := thr_yes hP hq (fun y hy => by have := hC y hy; omega)
    obtain ⟨s', e1, v, h'⟩ := rem_yes h hP hq
    refine ⟨s', _, by rw [e1, t1], v, h', ?_⟩
    have e2 : outK (ks (P ++ q :: C)) x = outK (ks (P ++ C)) x := by
      unfold outK ks
      rw [List.map_append, List.map_cons, List.map_append, List.filter_append, List.filter_append, List.filter_cons, if_neg (by simp [hq])]
    rw [e2, outK_no hP hC]
/-- An Insert that is taken back leaves the header as it was. -/
theorem back_set (h : Ss s N m) (hm : m ≤ 190) (hf : N.length ≤ 190) (hx : isW x) (ht : thr (ks N) x = false) (level : Int) :
    ∃ s1 s2 N', s.ins 0 20 x level = ((true, 0), s1) ∧ s1.rem 0 20 x = ((true, 0), s2) ∧ Aft s s1 2200 s1.W ∧ s1.Ok ∧ Aft s1 s2 2200 s2.W ∧ Ss s2 N' (m + 1) ∧ ks N' = ks N ∧ ∀ i, i < 8 → oat s2.W (20 + i) = oat s.W (20 + i) := by
  obtain ⟨P, B, e, hP, hB | ⟨q, C, eB, hq⟩⟩ := split_sn x h.sl.up
  · subst e
    obtain ⟨nd, s1, hk, e1, v, h1⟩ := ins_new h hm hP hB hx (by omega) level
    obtain ⟨s2, e2, v2, h2⟩ := rem_yes h1 hP hk
    exact ⟨s1, s2, _, e1, e2, v, h1.ok, v2, h2, rfl, fun i hi => by rw [h2.sl.lnk i hi, h.sl.lnk i hi]⟩
  · subst eB
    subst e
    obtain ⟨t1, _⟩ := thr_yes (C := C) hP hq (fun y hy => h.tail_up hq y (by simp [hy]))
    rw [t1] at ht
    cases ht
theorem has_set (h : Ss s N m) : ∃ s', s.has 20 x = ((thr (ks N) x, 0), s') ∧ Seen s s' 2100 := by
  obtain ⟨P, B, e, hP, hB | ⟨q, C, eB, hq⟩⟩ := split_sn x h.sl.up
  · subst e
    obtain ⟨s', e1, v⟩ := has_no h hP hB
    exact ⟨s', by rw [e1, (thr_no hP hB).1], v⟩
  · subst eB
    subst e
    obtain ⟨s', e1, v⟩ := has_yes h hP hq
    exact ⟨s', by rw [e1, (thr_yes hP hq (fun y hy => h.tail_up hq y (by simp [hy]))).1], v⟩
theorem fst_ks (B : List Sn) : (fstK B).1 = oat (ks B) 0 ∧ (fstK B).2 = decide (0 < (ks B).length) := by
  cases B with
  | nil => exact ⟨rfl, rfl⟩
  | cons q r => exact ⟨rfl, rfl⟩
/-- First on a set. -/
theorem first_set (h : Ss s N m) : ∃ s', s.first 20 = ((oat (ks N) 0, decide (0 < (ks N).length), 0), s') ∧ Seen s s' 2100 := by
  obtain ⟨s', e1, v⟩ := first_ok h
  exact ⟨s', by rw [e1, (fst_ks N).1, (fst_ks N).2], v⟩
/-- After on a set. -/
theorem aft_set (h : Ss s N m) : ∃ s', s.aft 20 x = ((oat (ks N) (plc (ks N) x + if thr (ks N) x then 1 else 0), decide (plc (ks N) x + (if thr (ks N) x then 1 else 0) < (ks N).length), 0), s') ∧ Seen s s' 2100 := by
  have key : ∀ {P B : List Sn}, N = P ++ B → (oat (ks B) 0 = oat (ks N) P.length) ∧ (decide (0 < (ks B).length) = decide (P.length < (ks N).length)) := fun {P B} e => by
    subst e
    have e2 : ks (P ++ B) = ks P ++ ks B := by simp [ks]
    have e3 : P.length = (ks P).length := by simp [ks]
    rw [e2, e3]
    refine ⟨?_, by rw [List.length_append]; congr 1; exact propext ⟨fun h => by omega, fun h => by omega⟩⟩
    unfold oat
    rw [List.getElem?_append_right (Nat.le_refl _)]
    simp
  obtain ⟨P, B, e, hP, hB | ⟨q, C, eB, hq⟩⟩ := split_sn x h.sl.up
  · have k := key e
    subst e
    obtain ⟨t1, t2⟩ := thr_no hP hB
    obtain ⟨s', e1, v⟩ := aft_ok (x := x) h (fun y hy => by have := hP y hy; omega) hB
    refine ⟨s', ?_, v⟩
    rw [e1, (fst_ks B).1, (fst_ks B).2, t1, t2, k.1, k.2]
    rfl
  · subst eB
    have hup := (List.pairwise_append.1 (e ▸ h.sl.up)).2.1
    have hC : ∀ y ∈ C, x < y.k := fun y hy => by have := (List.pairwise_cons.1 hup).1 y hy; omega
    have e' : N = (P ++ [q]) ++ C := by rw [e]; simp
    have k := key e'
    obtain ⟨t1, t2⟩ := thr_yes hP hq (fun y hy => by have := hC y hy; omega)
    rw [← e] at t1 t2
    obtain ⟨s', e1, v⟩ := aft_ok (P := P ++ [q]) (B := C) (x := x) (e' ▸ h) (fun y hy => by
      rcases List.mem_append.1 hy with hy | hy
      · have := hP y hy; omega
      · obtain rfl := List.mem_singleton.1 hy; omega) hC
    refine ⟨s', ?_, v⟩
    rw [e1, (fst_ks C).1, (fst_ks C).2, t1, t2, k.1, k.2]
    simp
theorem withK_len (K : List Int) (x : Int) : (withK K x).length ≤ K.length + 1 := by
  unfold withK
  split
  · omega
  · rw [List.length_append, List.length_cons, List.length_take, List.length_drop]; omega
theorem ks_len (N : List Sn) : (ks N).length = N.length := by simp [ks]
end
def S0 : Wd := ⟨List.replicate 2000 0, [], 0, 0⟩
def S1 : Wd := (S0.lay 0 40 2000).2
def S2 : Wd := (S1.slay 20).2
theorem s1_e : (S0.lay 0 40 2000).1 = 0 := by kernel_rfl
theorem s2_e : (S1.slay 20).1 = 0 := by kernel_rfl
theorem s2_w : S2.W = 40 :: 2000 :: List.replicate 1998 0 := by kernel_rfl
theorem s2_n : (40 :: 2000 :: List.replicate 1998 (0 : Int)).length = 2000 := by rw [List.length_cons, List.length_cons, List.length_replicate]
theorem s2_l : S2.L.length = 26 := by kernel_rfl
theorem s2_start (s : Wd) (hw : s.W = S2.W) (hc : s.c = 0) : Ss s [] 0 := by
  have e : ∀ j, oat (40 :: 2000 :: List.replicate 1998 (0 : Int)) (j + 2) = 0 := by
    intro j
    unfold oat
    simp only [List.getElem?_cons_succ]
    rw [List.getElem?_replicate]
    split <;> rfl
  have hw' : s.W = 40 :: 2000 :: List.replicate 1998 0 := hw.trans s2_w
  refine ⟨hc, ⟨fun y hy => ?_, by rw [hw', s2_n]; omega⟩, ⟨fun i hi => ?_, trivial, List.Pairwise.nil, by rw [hw', s2_n], by simp⟩, ⟨fun _ => [], ?_⟩, ?_⟩
  · rw [hw'] at hy
    simp only [List.mem_cons] at hy
    rcases hy with rfl | rfl | hy
    · exact ⟨by omega, by omega⟩
    · exact ⟨by omega, by omega⟩
    · rw [List.eq_of_mem_replicate hy]; exact zero_w
  · rw [hw', show 20 + i = (18 + i) + 2 by omega]; exact e _
  · refine ⟨by rw [hw', s2_n]; rfl, by omega, by omega, by rw [hw']; rfl, by rw [hw']; decide, by rw [hw']; decide, fun p hp => by simp [pcs] at hp, fun n _ _ a ha => by simp at ha, List.Pairwise.nil, fun p hp => by simp [pcs] at hp, fun n _ _ => List.Pairwise.nil, fun n k _ _ _ _ _ a ha => by simp at ha, fun n h1 h2 => ?_⟩
    show chain s.W (oat s.W (1 + n)) []
    rw [hw', show 1 + n = (n - 1) + 2 by omega]
    exact e _
  · show oat s.W 0 ≤ _
    rw [hw']
    decide
end Go.Proofs.Ytifmpiiaebnbiaa
