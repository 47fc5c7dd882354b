/-
  No statement of the seat is proved here. (Several texts in one: OpA, OpI.)
-/
import Derived.Test.YthgkbmfnidehbaaDoorWiAB

/- Words that stand in cells behind numbers of writing commits (pure). No statement of the seat is proved here. -/
namespace Go.Proofs.YthgkbmfnidehbaaDoor

/-- Words are written, one behind the other. -/
def wrt (F : List Int) (ws : List (Int × Int)) : List Int := ws.foldl (fun F w => F.set w.1.toNat w.2) F
/-- The cells behind n writing commits. -/
def stN (F : List Int) (W : List Pt) (n : Nat) : List Int := (W.take n).foldl (fun F p => wrt F p.ws) F
/-- A cell's word. -/
def wdAt (F : List Int) (a : Int) : Int := (F[a.toNat]?).getD 0
theorem wrt_len : ∀ (ws : List (Int × Int)) (F : List Int), (wrt F ws).length = F.length
  | [], _ => rfl
  | w :: ws, F => by
    have : wrt F (w :: ws) = wrt (F.set w.1.toNat w.2) ws := rfl
    rw [this, wrt_len ws, List.length_set]
theorem wrt_push (F : List Int) (ws : List (Int × Int)) (w : Int × Int) : wrt F (ws ++ [w]) = (wrt F ws).set w.1.toNat w.2 := by
  unfold wrt; rw [List.foldl_append]; rfl
theorem stN_zero (F : List Int) (W : List Pt) : stN F W 0 = F := rfl
theorem stN_succ (F : List Int) (W : List Pt) (n : Nat) (h : n < W.length) : stN F W (n + 1) = wrt (stN F W n) (W[n]).ws := by
  unfold stN; rw [List.take_succ_eq_append_getElem h, List.foldl_append]; rfl
theorem stN_len (F : List Int) (W : List Pt) : ∀ n, (stN F W n).length = F.length
  | 0 => rfl
  | n + 1 => by
    by_cases h : n < W.length
    · rw [stN_succ F W n h, wrt_len, stN_len F W n]
    · have : stN F W (n + 1) = stN F W n := by
        unfold stN; rw [List.take_of_length_le (by omega), List.take_of_length_le (by omega)]
      rw [this, stN_len F W n]
theorem wdAt_set (F : List Int) (i : Int) (x : Int) (a : Int) (hi : 0 ≤ i) (hi2 : i < F.length) (ha : 0 ≤ a) : wdAt (F.set i.toNat x) a = if a = i then x else wdAt F a := by
  unfold wdAt
  rw [List.getElem?_set]
  by_cases h : a = i
  · subst h; rw [if_pos rfl, if_pos rfl, if_pos (by omega)]; rfl
  · rw [if_neg (by omega), if_neg h]

/-- A course: words with the number from which on they stand; the word that stands at a number. -/
def valF (l : List (Int × Int)) (n d : Int) : Int := l.foldl (fun d p => if p.1 ≤ n then p.2 else d) d
theorem valF_push (l : List (Int × Int)) (p : Int × Int) (n d : Int) : valF (l ++ [p]) n d = if p.1 ≤ n then p.2 else valF l n d := by
  unfold valF; rw [List.foldl_append]; rfl
theorem valF_late : ∀ (g : List (Int × Int)) (n d : Int), (∀ p ∈ g, n < p.1) → valF g n d = d
  | [], _, _, _ => rfl
  | p :: g, n, d, h => by
    have h1 := h p (by simp)
    have : valF (p :: g) n d = valF g n (if p.1 ≤ n then p.2 else d) := rfl
    rw [this, if_neg (by omega)]
    exact valF_late g n d fun q hq => h q (by simp [hq])
theorem valF_append (l g : List (Int × Int)) (n d : Int) : valF (l ++ g) n d = valF g n (valF l n d) := by
  unfold valF; rw [List.foldl_append]
/-- A course rises, and begins at nought. -/
structure Cr (l : List (Int × Int)) (n : Int) : Prop where
  ne : 0 < l.length
  z : (l[0]).1 = 0
  up : l.Pairwise (fun p q => p.1 < q.1)
  le : ∀ p ∈ l, 0 ≤ p.1 ∧ p.1 ≤ n
theorem valF_at {l : List (Int × Int)} (hr : l.Pairwise (fun p q => p.1 < q.1)) {i : Nat} (hi : i < l.length) {n d : Int} (h1 : (l[i]).1 ≤ n) (h2 : ∀ h : i + 1 < l.length, n < (l[i + 1]).1) : valF l n d = (l[i]).2 := by
  have e : l = l.take i ++ [l[i]] ++ l.drop (i + 1) := by
    rw [← List.take_succ_eq_append_getElem hi, List.take_append_drop]
  have hl : ∀ p ∈ l.drop (i + 1), n < p.1 := fun p hp => by
    obtain ⟨j, hj, rfl⟩ := List.getElem_of_mem hp
    rw [List.length_drop] at hj
    have h3 := h2 (by omega)
    rw [List.getElem_drop]
    rcases Nat.eq_zero_or_pos j with rfl | hj0
    · exact h3
    · have := List.pairwise_iff_getElem.1 hr (i + 1) (i + 1 + j) (by omega) (by omega) (by omega)
      omega
  have h9 : valF (l.take i ++ [l[i]] ++ l.drop (i + 1)) n d = (l[i]).2 := by rw [valF_append, valF_late _ _ _ hl, valF_push, if_pos h1]
  rw [← e] at h9
  exact h9
/-- All courses: a course for each cell that was written. -/
abbrev Crs2 := Int → Option (List (Int × Int))
def crs (F : List Int) (S : Crs2) (a : Int) : List (Int × Int) := (S a).getD [(0, wdAt F a)]
/-- A word stands from a number on. -/
def insC (l : List (Int × Int)) (n x : Int) : List (Int × Int) := if ((l.getLast?).getD (0, 0)).1 = n then l.dropLast ++ [(n, x)] else l ++ [(n, x)]
def putS (F : List Int) (S : Crs2) (n : Int) (w : Int × Int) : Crs2 := fun b => if b = w.1 then some (insC (crs F S w.1) n w.2) else S b
def putW (F : List Int) (S : Crs2) (n : Int) (ws : List (Int × Int)) : Crs2 := ws.foldl (fun S w => putS F S n w) S
def setN (F : List Int) (W : List Pt) : Nat → Crs2
  | 0 => fun _ => none
  | k + 1 => putW F (setN F W k) ((k : Int) + 1) ((W[k]?).getD pt0).ws
theorem putW_push (F : List Int) (S : Crs2) (n : Int) (ws : List (Int × Int)) (w : Int × Int) : putW F S n (ws ++ [w]) = putS F (putW F S n ws) n w := by
  unfold putW; rw [List.foldl_append]; rfl
theorem insC_cr {l : List (Int × Int)} {n m x : Int} (h : Cr l m) (hm : m ≤ n) (h0 : 0 < n) : Cr (insC l n x) n := by
  obtain ⟨l', p, rfl⟩ : ∃ l' p, l = l' ++ [p] := ⟨l.dropLast, l.getLast (by intro e; have := h.ne; rw [e] at this; exact absurd this (by simp)), (List.dropLast_concat_getLast _).symm⟩
  unfold insC
  rw [List.getLast?_concat, List.dropLast_concat]
  simp only [Option.getD_some]
  have hp := h.le p (by simp)
  have hup := List.pairwise_append.1 h.up
  by_cases he : p.1 = n
  · rw [if_pos he]
    refine ⟨by simp, ?_, List.pairwise_append.2 ⟨hup.1, by simp, fun a ha b hb => ?_⟩, fun q hq => ?_⟩
    · cases l' with
      | nil => have := h.z; simp at this; omega
      | cons a l' => have := h.z; simpa using this
    · simp only [List.mem_singleton] at hb; subst hb
      have := hup.2.2 a ha p (by simp); simp only; omega
    · rcases List.mem_append.1 hq with hq | hq
      · have := h.le q (by simp [hq]); omega
      · simp only [List.mem_singleton] at hq; subst hq; simp only; omega
  · rw [if_neg he]
    refine ⟨by simp, ?_, List.pairwise_append.2 ⟨h.up, by simp, fun a ha b hb => ?_⟩, fun q hq => ?_⟩
    · have := h.z
      cases l' with
      | nil => simpa using this
      | cons a l' => simpa using this
    · simp only [List.mem_singleton] at hb; subst hb
      simp only
      rcases List.mem_append.1 ha with hq | hq
      · have := hup.2.2 a hq p (by simp); omega
      · simp only [List.mem_singleton] at hq; subst hq; omega
    · rcases List.mem_append.1 hq with hq | hq
      · have := h.le q hq; omega
      · simp only [List.mem_singleton] at hq; subst hq; simp only; omega
theorem insC_val {l : List (Int × Int)} {n m x : Int} (h : Cr l m) (k d : Int) : valF (insC l n x) k d = if n ≤ k then x else valF l k d := by
  obtain ⟨l', p, rfl⟩ : ∃ l' p, l = l' ++ [p] := ⟨l.dropLast, l.getLast (by intro e; have := h.ne; rw [e] at this; exact absurd this (by simp)), (List.dropLast_concat_getLast _).symm⟩
  unfold insC
  rw [List.getLast?_concat, List.dropLast_concat]
  simp only [Option.getD_some]
  by_cases he : p.1 = n
  · rw [if_pos he, valF_push, valF_push]
    simp only
    by_cases hk : n ≤ k
    · rw [if_pos hk, if_pos hk]
    · rw [if_neg hk, if_neg hk, if_neg (by omega)]
  · rw [if_neg he, valF_push]
/-- What the courses tell, up to a number, with the words that the next commit has written. -/
structure SInv (F : List Int) (S : Crs2) (n : Int) (A : Int → List Int) : Prop where
  cr : ∀ a : Int, 0 ≤ a → a < F.length → Cr (crs F S a) n
  val : ∀ a : Int, 0 ≤ a → a < F.length → ∀ m : Int, 0 ≤ m → valF (crs F S a) m 0 = wdAt (A m) a
  dom : ∀ a : Int, (S a).isSome = true → 0 ≤ a ∧ a < F.length
theorem sinv0 (F : List Int) : SInv F (fun _ => none) 0 (fun _ => F) := by
  refine ⟨fun a _ _ => ?_, fun a _ _ m hm => ?_, fun a h => by simp at h⟩
  · refine ⟨by simp [crs], by simp [crs], by simp [crs], fun p hp => ?_⟩
    simp only [crs, Option.getD_none, List.mem_singleton] at hp; subst hp; simp
  · simp [crs, valF, hm]
theorem crs_put (F : List Int) (S : Crs2) (n : Int) (w : Int × Int) (a : Int) : crs F (putS F S n w) a = if a = w.1 then insC (crs F S w.1) n w.2 else crs F S a := by
  unfold crs putS
  by_cases h : a = w.1
  · rw [if_pos h, if_pos h]; rfl
  · rw [if_neg h, if_neg h]
theorem sinv_put {F : List Int} {S : Crs2} {m n : Int} {A : Int → List Int} (h : SInv F S m A) (hm : m ≤ n) (h0 : 0 < n) (w : Int × Int) (hw : 0 ≤ w.1 ∧ w.1 < F.length) (hA : ∀ k, (A k).length = F.length) :
    SInv F (putS F S n w) n (fun k => if n ≤ k then (A k).set w.1.toNat w.2 else A k) := by
  refine ⟨fun a h1 h2 => ?_, fun a h1 h2 k hk => ?_, fun a ha => ?_⟩
  · rw [crs_put]
    split
    · exact insC_cr (h.cr _ hw.1 hw.2) hm h0
    · have := h.cr a h1 h2
      exact ⟨this.ne, this.z, this.up, fun p hp => by have := this.le p hp; omega⟩
  · rw [crs_put]
    by_cases ha : a = w.1
    · rw [if_pos ha, insC_val (h.cr _ hw.1 hw.2)]
      split
      · rw [wdAt_set _ _ _ _ hw.1 (by rw [hA]; exact hw.2) h1, if_pos ha]
      · rw [h.val _ hw.1 hw.2 k hk, ha]
    · rw [if_neg ha, h.val a h1 h2 k hk]
      split
      · rw [wdAt_set _ _ _ _ hw.1 (by rw [hA]; exact hw.2) h1, if_neg ha]
      · rfl
  · unfold putS at ha
    split at ha
    · rename_i q; rw [q]; exact hw
    · exact h.dom a ha
theorem SInv.congr {F : List Int} {S : Crs2} {n : Int} {A B : Int → List Int} (h : SInv F S n A) (e : ∀ k, 0 ≤ k → A k = B k) : SInv F S n B :=
  ⟨h.cr, fun a h1 h2 m hm => by rw [h.val a h1 h2 m hm, e m hm], h.dom⟩
/-- Inside a commit. -/
theorem sinv_in {F : List Int} {W : List Pt} {k : Nat} {ws : List (Int × Int)} (h : SInv F (setN F W k) k (fun m => stN F W (min m.toNat k))) (hw : ∀ w ∈ ws, 0 ≤ w.1 ∧ w.1 < F.length) :
    ∀ j, j ≤ ws.length → SInv F (putW F (setN F W k) ((k : Int) + 1) (ws.take j)) (if j = 0 then (k : Int) else (k : Int) + 1) (fun m => if (k : Int) + 1 ≤ m then wrt (stN F W k) (ws.take j) else stN F W (min m.toNat k))
  | 0, _ => by
    refine SInv.congr (by simpa [putW] using h) fun m hm => ?_
    split
    · rw [Nat.min_eq_right (by omega)]; rfl
    · rfl
  | j + 1, hj => by
    have ih := sinv_in h hw j (by omega)
    have hlt : j < ws.length := by omega
    rw [List.take_succ_eq_append_getElem hlt, putW_push, if_neg (by omega)]
    refine SInv.congr (sinv_put ih (by split <;> omega) (by omega) (ws[j]) (hw _ (List.getElem_mem hlt)) (fun m => by split <;> simp [wrt_len, stN_len])) fun m hm => ?_
    split
    · rw [wrt_push]
    · rfl
theorem sinv_all {F : List Int} {W : List Pt} (hw : ∀ p ∈ W, ∀ w ∈ p.ws, 0 ≤ w.1 ∧ w.1 < F.length) : ∀ k, k ≤ W.length → SInv F (setN F W k) k (fun m => stN F W (min m.toNat k))
  | 0, _ => SInv.congr (sinv0 F) fun m hm => by simp [stN]
  | k + 1, hk => by
    have hlt : k < W.length := by omega
    have h := sinv_in (ws := (W[k]).ws) (sinv_all hw k (by omega)) (hw _ (List.getElem_mem hlt)) (W[k]).ws.length (Nat.le_refl _)
    rw [List.take_length] at h
    have e : setN F W (k + 1) = putW F (setN F W k) ((k : Int) + 1) (W[k]).ws := by
      show putW F (setN F W k) ((k : Int) + 1) ((W[k]?).getD pt0).ws = _
      rw [List.getElem?_eq_getElem hlt]; rfl
    rw [e]
    have h2 : SInv F (putW F (setN F W k) ((k : Int) + 1) (W[k]).ws) (((k + 1 : Nat) : Int)) (fun m => if (k : Int) + 1 ≤ m then wrt (stN F W k) (W[k]).ws else stN F W (min m.toNat k)) := by
      refine ⟨fun a h1 h2 => ?_, h.val, h.dom⟩
      have := h.cr a h1 h2
      exact ⟨this.ne, this.z, this.up, fun p hp => by have := this.le p hp; split at this <;> omega⟩
    refine h2.congr fun m hm => ?_
    split
    · rw [← stN_succ F W k hlt, Nat.min_eq_right (by omega)]
    · congr 1; omega

/-- How often numbers are struck out: prefix sums. -/
theorem sum_take_set : ∀ (D : List Int) (b : Nat) (x : Int) (k : Nat) (hb : b < D.length), ((D.set b (D[b] + x)).take k).sum = (D.take k).sum + if b < k then x else 0
  | [], b, x, k, hb => absurd hb (by simp)
  | d :: D, 0, x, k, _ => by
    cases k with
    | zero => simp
    | succ k => simp; omega
  | d :: D, b + 1, x, k, hb => by
    cases k with
    | zero => simp
    | succ k =>
      have := sum_take_set D b x k (by simpa using hb)
      simp only [List.set_cons_succ, List.getElem_cons_succ, List.take_succ_cons, List.sum_cons, this]
      by_cases h : b < k
      · rw [if_pos h, if_pos (by omega)]; omega
      · rw [if_neg h, if_neg (by omega)]; omega
def preD (D : List Int) (k : Nat) : Int := (D.take (k + 1)).sum
/-- The numbers that are left. -/
def numsD (D : List Int) (fr : Int) (n : Nat) : List Int := ((List.range n).filter fun k => decide (preD D k = 0)).map fun (k : Nat) => fr + k
theorem numsD_succ (D : List Int) (fr : Int) (n : Nat) : numsD D fr (n + 1) = if preD D n = 0 then numsD D fr n ++ [fr + n] else numsD D fr n := by
  unfold numsD
  rw [List.range_succ, List.filter_append, List.map_append]
  by_cases h : preD D n = 0
  · simp [h]
  · simp [h]
/-- The numbers at which words stood together. -/
def togL (F : List Int) (W : List Pt) (fr up : Nat) (ws : List (Int × Int)) : List Int :=
  ((List.range (up + 1 - fr)).filter fun k => ws.all fun w => decide (wdAt (stN F W (fr + k)) w.1 = w.2)).map fun (k : Nat) => (fr : Int) + k
theorem nums_tog {F : List Int} {W : List Pt} {fr up : Nat} {ws : List (Int × Int)} {D : List Int} (h : ∀ k, k < up + 1 - fr → (preD D k = 0 ↔ ∀ w ∈ ws, wdAt (stN F W (fr + k)) w.1 = w.2)) : numsD D fr (up + 1 - fr) = togL F W fr up ws := by
  unfold numsD togL
  congr 1
  apply List.filter_congr
  intro k hk
  rw [List.mem_range] at hk
  have := h k hk
  by_cases q : preD D k = 0
  · rw [decide_eq_true q]
    symm
    rw [List.all_eq_true]
    exact fun w hw => decide_eq_true (this.1 q w hw)
  · rw [decide_eq_false q]
    symm
    rw [Bool.eq_false_iff]
    intro hc
    rw [List.all_eq_true] at hc
    exact q (this.2 fun w hw => of_decide_eq_true (hc w hw))
theorem tog_none {F : List Int} {W : List Pt} {fr up : Nat} {ws : List (Int × Int)} {a x y : Int} (h1 : (a, x) ∈ ws) (h2 : (a, y) ∈ ws) (hn : x ≠ y) : togL F W fr up ws = [] := by
  unfold togL
  rw [List.map_eq_nil_iff, List.filter_eq_nil_iff]
  intro k _ hc
  rw [List.all_eq_true] at hc
  have a1 := of_decide_eq_true (hc _ h1)
  have a2 := of_decide_eq_true (hc _ h2)
  exact hn (a1.symm.trans a2)
end Go.Proofs.YthgkbmfnidehbaaDoor


/- Places of the last events are all unlike; addresses of what is read and written (pure). No statement of the seat is proved here. -/
namespace Go.Proofs.YthgkbmfnidehbaaDoor

theorem step_cases {T : Wt} {k : Nat} (h : PInv T k) (e : Ev) : (stepW T k e).l = T.l ++ [newP e k] ∧ e.kd = 1 ∨ (stepW T k e).l = T.l ∨ ∃ (n : Nat) (hn : n < T.l.length), (stepW T k e).l = T.l.set n (noteP (T.l[n]) k e) := by
  unfold stepW openW
  by_cases h1 : e.kd = 1
  · left
    rw [if_pos h1]
    refine ⟨?_, h1⟩
    unfold markW
    simp only [if_true]
    have hg : ((T.l ++ [freshP e.th k])[T.l.length]?).getD pt0 = freshP e.th k := by simp
    simp only [hg]
    rw [show noteP (freshP e.th k) k e = newP e k from rfl]
    rw [List.set_append_right _ _ (Nat.le_refl _)]; simp
  · right
    rw [if_neg h1]
    unfold markW
    cases hto : T.o e.th with
    | none => left; rfl
    | some n =>
      right
      have hn := h.o _ _ hto
      refine ⟨n, hn, ?_⟩
      simp only [List.getElem?_eq_getElem hn, Option.getD_some]
/-- No two blocks end at one place. -/
def DistL (l : List Pt) : Prop := (l.map (·.la)).Nodup
theorem distL_step {T : Wt} {k : Nat} (h : PInv T k) (hd : DistL T.l) (e : Ev) : DistL (stepW T k e).l := by
  rcases step_cases h e with ⟨q, h1⟩ | q | ⟨n, hn, q⟩
  · rw [q]
    unfold DistL
    rw [List.map_append, List.nodup_append]
    refine ⟨hd, by simp, fun a ha b hb => ?_⟩
    simp only [List.map_cons, List.map_nil, List.mem_singleton] at hb
    subst hb
    obtain ⟨p, hp, rfl⟩ := List.mem_map.1 ha
    have := (h.bd p hp).2.1
    have h2 : (newP e k).la = k := noteP_la _ _ _
    rw [h2]; omega
  · rw [q]; exact hd
  · rw [q]
    unfold DistL
    rw [List.map_set, noteP_la]
    rw [List.nodup_iff_pairwise_ne, List.pairwise_iff_getElem]
    have hd2 := List.pairwise_iff_getElem.1 (List.nodup_iff_pairwise_ne.1 hd)
    intro i j hi hj hij
    simp only [List.length_set, List.length_map] at hi hj
    rw [List.getElem_set, List.getElem_set]
    by_cases e1 : n = i
    · rw [if_pos e1, if_neg (by omega)]
      have := (h.bd _ (List.getElem_mem (show j < T.l.length from hj))).2.1
      rw [List.getElem_map]; omega
    · rw [if_neg e1]
      by_cases e2 : n = j
      · rw [if_pos e2]
        have := (h.bd _ (List.getElem_mem (show i < T.l.length from hi))).2.1
        rw [List.getElem_map]; omega
      · rw [if_neg e2]
        exact hd2 i j (by simpa using hi) (by simpa using hj) hij
theorem distL_all : ∀ (g : List Ev) (T : Wt) (k : Nat), PInv T k → DistL T.l → DistL (partsF T g k).l
  | [], _, _, _, hd => hd
  | e :: g, T, k, h, hd => by
    rw [partsF]
    exact distL_all g _ _ (pinv_step h e) (distL_step h hd e)
theorem distL_parts (L : List Ev) : DistL (partsL L) := distL_all L wt0 0 pinv0 List.nodup_nil
/-- What is read and written are cells. -/
def InL (n : Nat) (l : List Pt) : Prop := ∀ p ∈ l, (∀ w ∈ p.rs, 0 ≤ w.1 ∧ w.1 < (n : Int)) ∧ (∀ w ∈ p.ws, 0 ≤ w.1 ∧ w.1 < (n : Int))
theorem noteP_in {n : Nat} {p : Pt} {k : Int} {e : Ev} (h : (∀ w ∈ p.rs, 0 ≤ w.1 ∧ w.1 < (n : Int)) ∧ (∀ w ∈ p.ws, 0 ≤ w.1 ∧ w.1 < (n : Int))) (he : 0 ≤ e.ad) (hm : e.kd = 2 ∨ e.kd = 3 → e.ad < (n : Int)) : (∀ w ∈ (noteP p k e).rs, 0 ≤ w.1 ∧ w.1 < (n : Int)) ∧ (∀ w ∈ (noteP p k e).ws, 0 ≤ w.1 ∧ w.1 < (n : Int)) := by
  unfold noteP
  by_cases h1 : e.kd = 1 ∨ e.kd = 4
  · rw [if_pos h1]; exact h
  · rw [if_neg h1]
    by_cases h2 : e.kd = 2
    · rw [if_pos h2]
      split
      · exact h
      · refine ⟨fun w hw => ?_, h.2⟩
        rcases List.mem_append.1 hw with q | q
        · exact h.1 w q
        · simp only [List.mem_singleton] at q; subst q; exact ⟨he, hm (.inl h2)⟩
    · rw [if_neg h2]
      by_cases h3 : e.kd = 3
      · rw [if_pos h3]
        refine ⟨h.1, fun w hw => ?_⟩
        rcases List.mem_append.1 hw with q | q
        · exact h.2 w q
        · simp only [List.mem_singleton] at q; subst q; exact ⟨he, hm (.inr h3)⟩
      · rw [if_neg h3]
        (repeat' split) <;> exact h
theorem inL_all {n : Nat} : ∀ (g : List Ev) (T : Wt) (k : Nat), PInv T k → InL n T.l → (∀ e ∈ g, 0 ≤ e.ad ∧ (e.kd = 2 ∨ e.kd = 3 → e.ad < (n : Int))) → InL n (partsF T g k).l
  | [], _, _, _, hd, _ => hd
  | e :: g, T, k, h, hd, hg => by
    rw [partsF]
    have he := hg e (by simp)
    refine inL_all g _ _ (pinv_step h e) ?_ (fun x hx => hg x (by simp [hx]))
    rcases step_cases h e with ⟨q, h1⟩ | q | ⟨m, hm, q⟩
    · rw [q]
      intro p hp
      rcases List.mem_append.1 hp with hp | hp
      · exact hd p hp
      · simp only [List.mem_singleton] at hp
        subst hp
        exact noteP_in (p := freshP e.th k) ⟨fun w hw => by simp [freshP] at hw, fun w hw => by simp [freshP] at hw⟩ he.1 he.2
    · rw [q]; exact hd
    · rw [q]
      intro p hp
      rcases List.mem_or_eq_of_mem_set hp with hp | rfl
      · exact hd p hp
      · exact noteP_in (hd _ (List.getElem_mem hm)) he.1 he.2
theorem inL_parts {n : Nat} {L : List Ev} (h : ∀ e ∈ L, 0 ≤ e.ad ∧ (e.kd = 2 ∨ e.kd = 3 → e.ad < (n : Int))) : InL n (partsL L) := inL_all L wt0 0 pinv0 (fun p hp => by simp [wt0] at hp) h
/-- The writing commits, by their places. -/
structure WrOf (l : List Pt) (W : List Pt) : Prop where
  perm : W.Perm (l.filter fun p => p.wr)
  up : W.Pairwise fun p q => p.la < q.la
theorem wr_uniq {l W V : List Pt} (h1 : WrOf l W) (h2 : WrOf l V) : W = V := by
  have hp := h1.perm.trans h2.perm.symm
  exact hp.eq_of_pairwise (fun a b _ _ p q => by omega) h1.up h2.up
theorem wr_strict {Z : List Pt} (hd : DistL Z) (hs : Z.Pairwise fun p q => p.la ≤ q.la) : Z.Pairwise fun p q => p.la < q.la := by
  have hd2 := List.pairwise_map.1 (List.nodup_iff_pairwise_ne.1 hd)
  exact (hs.and hd2).imp fun ⟨a, b⟩ => by omega
end Go.Proofs.YthgkbmfnidehbaaDoor
