/-
  No statement of the seat is proved here. (Several texts in one: WiB, OpA, WiC, EvX, WiD.)
-/
import Derived.Test.YthmiainhaebjiaaGreatDoorM04EvG
import Derived.Test.YthmiainhaebjiaaGreatDoorM03EvE
import Derived.Test.YthmiainhaebjiaaGreatDoorM00CMem

/- The order of a history's blocks (pure). No statement of the seat is proved here. -/
namespace Go.Proofs.YthmiainhaebjiaaGreatDoor

/-- No two have their last Begin or Moved in common. -/
def Dist (l : List Pt) : Prop := (l.map (·.si)).Nodup
/-- What all blocks keep to. -/
structure PInv (T : Wt) (k : Nat) : Prop where
  dist : Dist T.l
  len : T.l.length ≤ k
  bd : ∀ p ∈ T.l, (0 ≤ p.fi ∧ p.fi < k) ∧ (0 ≤ p.la ∧ p.la < k) ∧ (0 ≤ p.si ∧ p.si < k) ∧ p.rs.length ≤ k ∧ p.ws.length ≤ k
  o : ∀ t i, T.o t = some i → i < T.l.length
theorem pinv0 : PInv wt0 0 := ⟨List.nodup_nil, Nat.le_refl _, fun p hp => by simp [wt0] at hp, fun t i h => by simp [wt0] at h⟩
theorem noteP_si (p : Pt) (k : Int) (e : Ev) : (noteP p k e).si = p.si ∨ (noteP p k e).si = k := by
  unfold noteP; (repeat' split) <;> simp
theorem noteP_rs (p : Pt) (k : Int) (e : Ev) : (noteP p k e).rs.length ≤ p.rs.length + 1 ∧ (noteP p k e).ws.length ≤ p.ws.length + 1 := by
  unfold noteP; (repeat' split) <;> simp
theorem pinv_step {T : Wt} {k : Nat} (h : PInv T k) (e : Ev) : PInv (stepW T k e) (k + 1) := by
  unfold stepW openW
  by_cases h1 : e.kd = 1
  · have hm : markW ⟨T.l ++ [freshP e.th k], fun t => if t = e.th then some T.l.length else T.o t⟩ k e = ⟨T.l ++ [newP e k], fun t => if t = e.th then some T.l.length else T.o t⟩ := by
      unfold markW
      simp only [if_true]
      have hg : ((T.l ++ [freshP e.th k])[T.l.length]?).getD pt0 = freshP e.th k := by simp
      simp only [hg]
      rw [show noteP (freshP e.th k) k e = newP e k from rfl, if_pos (newP_kd k h1)]
      congr 1
      rw [List.set_append_right _ _ (Nat.le_refl _)]; simp
    rw [if_pos h1, hm]
    have hn : newP e k = ⟨e.th, 5, k, k, e.wd / 2, false, 0, [], [], k, false⟩ := by simp [newP, noteP, freshP, h1]
    refine ⟨?_, by simp; exact h.len, fun p hp => ?_, fun t i hi => ?_⟩
    · unfold Dist
      rw [List.map_append, List.nodup_append]
      refine ⟨h.dist, by simp, fun a ha b hb => ?_⟩
      simp [hn] at hb
      subst hb
      obtain ⟨p, hp, rfl⟩ := List.mem_map.1 ha
      have := (h.bd p hp).2.2.1; omega
    · rcases List.mem_append.1 hp with hp | hp
      · have := h.bd p hp; omega
      · simp only [List.mem_singleton] at hp
        subst hp
        rw [hn]; simp; omega
    · simp only [List.length_append, List.length_singleton]
      simp only at hi
      split at hi
      · cases hi; omega
      · have := h.o t i hi; omega
  · rw [if_neg h1]
    unfold markW
    cases hto : T.o e.th with
    | none => exact ⟨h.dist, by show T.l.length ≤ k + 1; have := h.len; omega, fun p hp => by have := h.bd p hp; omega, h.o⟩
    | some n =>
      have hn := h.o _ _ hto
      have hg : (T.l[n]?).getD pt0 = T.l[n] := by simp [hn]
      simp only [hg]
      have hb := h.bd _ (List.getElem_mem hn)
      have hs := noteP_si (T.l[n]) k e
      have hr := noteP_rs (T.l[n]) k e
      refine ⟨?_, by simp; have := h.len; omega, fun p hp => ?_, fun t i hi => ?_⟩
      · unfold Dist
        rw [List.map_set]
        rcases hs with q | q
        · rw [q]
          have : (T.l.map (·.si)).set n (T.l[n]).si = T.l.map (·.si) := by
            apply List.ext_getElem?
            intro i
            rw [List.getElem?_set]
            split
            · rename_i hi
              subst hi
              simp [hn]
            · rfl
          rw [this]; exact h.dist
        · rw [q]
          have hk : ∀ x ∈ T.l.map (·.si), x ≠ (k : Int) := fun x hx => by
            obtain ⟨p, hp, rfl⟩ := List.mem_map.1 hx
            have := (h.bd p hp).2.2.1; omega
          have hd := h.dist
          unfold Dist at hd
          generalize T.l.map (·.si) = M at hk hd
          clear hg hb hr hn hto q
          induction M generalizing n with
          | nil => simp
          | cons x M ih =>
            rw [List.nodup_cons] at hd
            cases n with
            | zero =>
              rw [List.set_cons_zero, List.nodup_cons]
              exact ⟨fun q => hk _ (List.mem_cons_of_mem _ q) rfl, hd.2⟩
            | succ n =>
              rw [List.set_cons_succ, List.nodup_cons]
              refine ⟨fun q => ?_, ih n (fun y hy => hk y (List.mem_cons_of_mem _ hy)) hd.2⟩
              rcases List.mem_or_eq_of_mem_set q with q | q
              · exact hd.1 q
              · exact hk x (List.mem_cons_self) q
      · rcases List.mem_or_eq_of_mem_set hp with q | q
        · have := h.bd p q; omega
        · have hs := noteP_si (T.l[n]) k e
          rw [q, noteP_fi, noteP_la]
          rcases hs with q | q <;> rw [q] <;> omega
      · simp only [List.length_set]
        simp only at hi
        split at hi
        · exact h.o t i hi
        · by_cases hte : t = e.th
          · simp [hte] at hi
          · simp only [if_neg hte] at hi
            exact h.o t i hi
theorem pinv_all : ∀ (g : List Ev) (T : Wt) (k : Nat), PInv T k → PInv (partsF T g k) (k + g.length)
  | [], T, k, h => h
  | e :: g, T, k, h => by
    have := pinv_all g _ (k + 1) (pinv_step h e)
    rw [partsF]
    simpa [Nat.add_assoc, Nat.add_comm 1] using this
theorem pinv_parts (L : List Ev) : PInv (partsF wt0 L 0) L.length := by simpa using pinv_all L wt0 0 pinv0
end Go.Proofs.YthmiainhaebjiaaGreatDoor


/- Words that stand in cells behind numbers of writing commits (pure). No statement of the seat is proved here. -/
namespace Go.Proofs.YthmiainhaebjiaaGreatDoor

/-- Words are written, one behind the other. -/
def wrt (F : List Int) (ws : List (Int × Int)) : List Int := ws.foldl (fun F w => F.set w.1.toNat w.2) F
/-- The cells behind n writing commits. -/
def stN (F : List Int) (W : List Pt) (n : Nat) : List Int := (W.take n).foldl (fun F p => wrt F p.ws) F
/-- A cell's word. -/
def wdAt (F : List Int) (a : Int) : Int := (F[a.toNat]?).getD 0
theorem wrt_len : ∀ (ws : List (Int × Int)) (F : List Int), (wrt F ws).length = F.length
  | [], _ => rfl
  | w :: ws, F => by
    have : wrt F (w :: ws) = wrt (F.set w.1.toNat w.2) ws := rfl
    rw [this, wrt_len ws, List.length_set]
theorem wrt_push (F : List Int) (ws : List (Int × Int)) (w : Int × Int) : wrt F (ws ++ [w]) = (wrt F ws).set w.1.toNat w.2 := by
  unfold wrt; rw [List.foldl_append]; rfl
theorem stN_zero (F : List Int) (W : List Pt) : stN F W 0 = F := rfl
theorem stN_succ (F : List Int) (W : List Pt) (n : Nat) (h : n < W.length) : stN F W (n + 1) = wrt (stN F W n) (W[n]).ws := by
  unfold stN; rw [List.take_succ_eq_append_getElem h, List.foldl_append]; rfl
theorem stN_len (F : List Int) (W : List Pt) : ∀ n, (stN F W n).length = F.length
  | 0 => rfl
  | n + 1 => by
    by_cases h : n < W.length
    · rw [stN_succ F W n h, wrt_len, stN_len F W n]
    · have : stN F W (n + 1) = stN F W n := by
        unfold stN; rw [List.take_of_length_le (by omega), List.take_of_length_le (by omega)]
      rw [this, stN_len F W n]
theorem wdAt_set (F : List Int) (i : Int) (x : Int) (a : Int) (hi : 0 ≤ i) (hi2 : i < F.length) (ha : 0 ≤ a) : wdAt (F.set i.toNat x) a = if a = i then x else wdAt F a := by
  unfold wdAt
  rw [List.getElem?_set]
  by_cases h : a = i
  · subst h; rw [if_pos rfl, if_pos rfl, if_pos (by omega)]; rfl
  · rw [if_neg (by omega), if_neg h]

/-- A course: words with the number from which on they stand; the word that stands at a number. -/
def valF (l : List (Int × Int)) (n d : Int) : Int := l.foldl (fun d p => if p.1 ≤ n then p.2 else d) d
theorem valF_push (l : List (Int × Int)) (p : Int × Int) (n d : Int) : valF (l ++ [p]) n d = if p.1 ≤ n then p.2 else valF l n d := by
  unfold valF; rw [List.foldl_append]; rfl
theorem valF_late : ∀ (g : List (Int × Int)) (n d : Int), (∀ p ∈ g, n < p.1) → valF g n d = d
  | [], _, _, _ => rfl
  | p :: g, n, d, h => by
    have h1 := h p (by simp)
    have : valF (p :: g) n d = valF g n (if p.1 ≤ n then p.2 else d) := rfl
    rw [this, if_neg (by omega)]
    exact valF_late g n d fun q hq => h q (by simp [hq])
theorem valF_append (l g : List (Int × Int)) (n d : Int) : valF (l ++ g) n d = valF g n (valF l n d) := by
  unfold valF; rw [List.foldl_append]
/-- A course rises, and begins at nought. -/
structure Cr (l : List (Int × Int)) (n : Int) : Prop where
  ne : 0 < l.length
  z : (l[0]).1 = 0
  up : l.Pairwise (fun p q => p.1 < q.1)
  le : ∀ p ∈ l, 0 ≤ p.1 ∧ p.1 ≤ n
theorem valF_at {l : List (Int × Int)} (hr : l.Pairwise (fun p q => p.1 < q.1)) {i : Nat} (hi : i < l.length) {n d : Int} (h1 : (l[i]).1 ≤ n) (h2 : ∀ h : i + 1 < l.length, n < (l[i + 1]).1) : valF l n d = (l[i]).2 := by
  have e : l = l.take i ++ [l[i]] ++ l.drop (i + 1) := by
    rw [← List.take_succ_eq_append_getElem hi, List.take_append_drop]
  have hl : ∀ p ∈ l.drop (i + 1), n < p.1 := fun p hp => by
    obtain ⟨j, hj, rfl⟩ := List.getElem_of_mem hp
    rw [List.length_drop] at hj
    have h3 := h2 (by omega)
    rw [List.getElem_drop]
    rcases Nat.eq_zero_or_pos j with rfl | hj0
    · exact h3
    · have := List.pairwise_iff_getElem.1 hr (i + 1) (i + 1 + j) (by omega) (by omega) (by omega)
      omega
  have h9 : valF (l.take i ++ [l[i]] ++ l.drop (i + 1)) n d = (l[i]).2 := by rw [valF_append, valF_late _ _ _ hl, valF_push, if_pos h1]
  rw [← e] at h9
  exact h9
/-- All courses: a course for each cell that was written. -/
abbrev Crs2 := Int → Option (List (Int × Int))
def crs (F : List Int) (S : Crs2) (a : Int) : List (Int × Int) := (S a).getD [(0, wdAt F a)]
/-- A word stands from a number on. -/
def insC (l : List (Int × Int)) (n x : Int) : List (Int × Int) := if ((l.getLast?).getD (0, 0)).1 = n then l.dropLast ++ [(n, x)] else l ++ [(n, x)]
def putS (F : List Int) (S : Crs2) (n : Int) (w : Int × Int) : Crs2 := fun b => if b = w.1 then some (insC (crs F S w.1) n w.2) else S b
def putW (F : List Int) (S : Crs2) (n : Int) (ws : List (Int × Int)) : Crs2 := ws.foldl (fun S w => putS F S n w) S
def setN (F : List Int) (W : List Pt) : Nat → Crs2
  | 0 => fun _ => none
  | k + 1 => putW F (setN F W k) ((k : Int) + 1) ((W[k]?).getD pt0).ws
theorem putW_push (F : List Int) (S : Crs2) (n : Int) (ws : List (Int × Int)) (w : Int × Int) : putW F S n (ws ++ [w]) = putS F (putW F S n ws) n w := by
  unfold putW; rw [List.foldl_append]; rfl
theorem insC_cr {l : List (Int × Int)} {n m x : Int} (h : Cr l m) (hm : m ≤ n) (h0 : 0 < n) : Cr (insC l n x) n := by
  obtain ⟨l', p, rfl⟩ : ∃ l' p, l = l' ++ [p] := ⟨l.dropLast, l.getLast (by intro e; have := h.ne; rw [e] at this; exact absurd this (by simp)), (List.dropLast_concat_getLast _).symm⟩
  unfold insC
  rw [List.getLast?_concat, List.dropLast_concat]
  simp only [Option.getD_some]
  have hp := h.le p (by simp)
  have hup := List.pairwise_append.1 h.up
  by_cases he : p.1 = n
  · rw [if_pos he]
    refine ⟨by simp, ?_, List.pairwise_append.2 ⟨hup.1, by simp, fun a ha b hb => ?_⟩, fun q hq => ?_⟩
    · cases l' with
      | nil => have := h.z; simp at this; omega
      | cons a l' => have := h.z; simpa using this
    · simp only [List.mem_singleton] at hb; subst hb
      have := hup.2.2 a ha p (by simp); simp only; omega
    · rcases List.mem_append.1 hq with hq | hq
      · have := h.le q (by simp [hq]); omega
      · simp only [List.mem_singleton] at hq; subst hq; simp only; omega
  · rw [if_neg he]
    refine ⟨by simp, ?_, List.pairwise_append.2 ⟨h.up, by simp, fun a ha b hb => ?_⟩, fun q hq => ?_⟩
    · have := h.z
      cases l' with
      | nil => simpa using this
      | cons a l' => simpa using this
    · simp only [List.mem_singleton] at hb; subst hb
      simp only
      rcases List.mem_append.1 ha with hq | hq
      · have := hup.2.2 a hq p (by simp); omega
      · simp only [List.mem_singleton] at hq; subst hq; omega
    · rcases List.mem_append.1 hq with hq | hq
      · have := h.le q hq; omega
      · simp only [List.mem_singleton] at hq; subst hq; simp only; omega
theorem insC_val {l : List (Int × Int)} {n m x : Int} (h : Cr l m) (k d : Int) : valF (insC l n x) k d = if n ≤ k then x else valF l k d := by
  obtain ⟨l', p, rfl⟩ : ∃ l' p, l = l' ++ [p] := ⟨l.dropLast, l.getLast (by intro e; have := h.ne; rw [e] at this; exact absurd this (by simp)), (List.dropLast_concat_getLast _).symm⟩
  unfold insC
  rw [List.getLast?_concat, List.dropLast_concat]
  simp only [Option.getD_some]
  by_cases he : p.1 = n
  · rw [if_pos he, valF_push, valF_push]
    simp only
    by_cases hk : n ≤ k
    · rw [if_pos hk, if_pos hk]
    · rw [if_neg hk, if_neg hk, if_neg (by omega)]
  · rw [if_neg he, valF_push]
/-- What the courses tell, up to a number, with the words that the next commit has written. -/
structure SInv (F : List Int) (S : Crs2) (n : Int) (A : Int → List Int) : Prop where
  cr : ∀ a : Int, 0 ≤ a → a < F.length → Cr (crs F S a) n
  val : ∀ a : Int, 0 ≤ a → a < F.length → ∀ m : Int, 0 ≤ m → valF (crs F S a) m 0 = wdAt (A m) a
  dom : ∀ a : Int, (S a).isSome = true → 0 ≤ a ∧ a < F.length
theorem sinv0 (F : List Int) : SInv F (fun _ => none) 0 (fun _ => F) := by
  refine ⟨fun a _ _ => ?_, fun a _ _ m hm => ?_, fun a h => by simp at h⟩
  · refine ⟨by simp [crs], by simp [crs], by simp [crs], fun p hp => ?_⟩
    simp only [crs, Option.getD_none, List.mem_singleton] at hp; subst hp; simp
  · simp [crs, valF, hm]
theorem crs_put (F : List Int) (S : Crs2) (n : Int) (w : Int × Int) (a : Int) : crs F (putS F S n w) a = if a = w.1 then insC (crs F S w.1) n w.2 else crs F S a := by
  unfold crs putS
  by_cases h : a = w.1
  · rw [if_pos h, if_pos h]; rfl
  · rw [if_neg h, if_neg h]
theorem sinv_put {F : List Int} {S : Crs2} {m n : Int} {A : Int → List Int} (h : SInv F S m A) (hm : m ≤ n) (h0 : 0 < n) (w : Int × Int) (hw : 0 ≤ w.1 ∧ w.1 < F.length) (hA : ∀ k, (A k).length = F.length) :
    SInv F (putS F S n w) n (fun k => if n ≤ k then (A k).set w.1.toNat w.2 else A k) := by
  refine ⟨fun a h1 h2 => ?_, fun a h1 h2 k hk => ?_, fun a ha => ?_⟩
  · rw [crs_put]
    split
    · exact insC_cr (h.cr _ hw.1 hw.2) hm h0
    · have := h.cr a h1 h2
      exact ⟨this.ne, this.z, this.up, fun p hp => by have := this.le p hp; omega⟩
  · rw [crs_put]
    by_cases ha : a = w.1
    · rw [if_pos ha, insC_val (h.cr _ hw.1 hw.2)]
      split
      · rw [wdAt_set _ _ _ _ hw.1 (by rw [hA]; exact hw.2) h1, if_pos ha]
      · rw [h.val _ hw.1 hw.2 k hk, ha]
    · rw [if_neg ha, h.val a h1 h2 k hk]
      split
      · rw [wdAt_set _ _ _ _ hw.1 (by rw [hA]; exact hw.2) h1, if_neg ha]
      · rfl
  · unfold putS at ha
    split at ha
    · rename_i q; rw [q]; exact hw
    · exact h.dom a ha
theorem SInv.congr {F : List Int} {S : Crs2} {n : Int} {A B : Int → List Int} (h : SInv F S n A) (e : ∀ k, 0 ≤ k → A k = B k) : SInv F S n B :=
  ⟨h.cr, fun a h1 h2 m hm => by rw [h.val a h1 h2 m hm, e m hm], h.dom⟩
/-- Inside a commit. -/
theorem sinv_in {F : List Int} {W : List Pt} {k : Nat} {ws : List (Int × Int)} (h : SInv F (setN F W k) k (fun m => stN F W (min m.toNat k))) (hw : ∀ w ∈ ws, 0 ≤ w.1 ∧ w.1 < F.length) :
    ∀ j, j ≤ ws.length → SInv F (putW F (setN F W k) ((k : Int) + 1) (ws.take j)) (if j = 0 then (k : Int) else (k : Int) + 1) (fun m => if (k : Int) + 1 ≤ m then wrt (stN F W k) (ws.take j) else stN F W (min m.toNat k))
  | 0, _ => by
    refine SInv.congr (by simpa [putW] using h) fun m hm => ?_
    split
    · rw [Nat.min_eq_right (by omega)]; rfl
    · rfl
  | j + 1, hj => by
    have ih := sinv_in h hw j (by omega)
    have hlt : j < ws.length := by omega
    rw [List.take_succ_eq_append_getElem hlt, putW_push, if_neg (by omega)]
    refine SInv.congr (sinv_put ih (by split <;> omega) (by omega) (ws[j]) (hw _ (List.getElem_mem hlt)) (fun m => by split <;> simp [wrt_len, stN_len])) fun m hm => ?_
    split
    · rw [wrt_push]
    · rfl
theorem sinv_all {F : List Int} {W : List Pt} (hw : ∀ p ∈ W, ∀ w ∈ p.ws, 0 ≤ w.1 ∧ w.1 < F.length) : ∀ k, k ≤ W.length → SInv F (setN F W k) k (fun m => stN F W (min m.toNat k))
  | 0, _ => SInv.congr (sinv0 F) fun m hm => by simp [stN]
  | k + 1, hk => by
    have hlt : k < W.length := by omega
    have h := sinv_in (ws := (W[k]).ws) (sinv_all hw k (by omega)) (hw _ (List.getElem_mem hlt)) (W[k]).ws.length (Nat.le_refl _)
    rw [List.take_length] at h
    have e : setN F W (k + 1) = putW F (setN F W k) ((k : Int) + 1) (W[k]).ws := by
      show putW F (setN F W k) ((k : Int) + 1) ((W[k]?).getD pt0).ws = _
      rw [List.getElem?_eq_getElem hlt]; rfl
    rw [e]
    have h2 : SInv F (putW F (setN F W k) ((k : Int) + 1) (W[k]).ws) (((k + 1 : Nat) : Int)) (fun m => if (k : Int) + 1 ≤ m then wrt (stN F W k) (W[k]).ws else stN F W (min m.toNat k)) := by
      refine ⟨fun a h1 h2 => ?_, h.val, h.dom⟩
      have := h.cr a h1 h2
      exact ⟨this.ne, this.z, this.up, fun p hp => by have := this.le p hp; split at this <;> omega⟩
    refine h2.congr fun m hm => ?_
    split
    · rw [← stN_succ F W k hlt, Nat.min_eq_right (by omega)]
    · congr 1; omega

/-- How often numbers are struck out: prefix sums. -/
theorem sum_take_set : ∀ (D : List Int) (b : Nat) (x : Int) (k : Nat) (hb : b < D.length), ((D.set b (D[b] + x)).take k).sum = (D.take k).sum + if b < k then x else 0
  | [], b, x, k, hb => absurd hb (by simp)
  | d :: D, 0, x, k, _ => by
    cases k with
    | zero => simp
    | succ k => simp; omega
  | d :: D, b + 1, x, k, hb => by
    cases k with
    | zero => simp
    | succ k =>
      have := sum_take_set D b x k (by simpa using hb)
      simp only [List.set_cons_succ, List.getElem_cons_succ, List.take_succ_cons, List.sum_cons, this]
      by_cases h : b < k
      · rw [if_pos h, if_pos (by omega)]; omega
      · rw [if_neg h, if_neg (by omega)]; omega
def preD (D : List Int) (k : Nat) : Int := (D.take (k + 1)).sum
/-- The numbers that are left. -/
def numsD (D : List Int) (fr : Int) (n : Nat) : List Int := ((List.range n).filter fun k => decide (preD D k = 0)).map fun (k : Nat) => fr + k
theorem numsD_succ (D : List Int) (fr : Int) (n : Nat) : numsD D fr (n + 1) = if preD D n = 0 then numsD D fr n ++ [fr + n] else numsD D fr n := by
  unfold numsD
  rw [List.range_succ, List.filter_append, List.map_append]
  by_cases h : preD D n = 0
  · simp [h]
  · simp [h]
/-- The numbers at which words stood together. -/
def togL (F : List Int) (W : List Pt) (fr up : Nat) (ws : List (Int × Int)) : List Int :=
  ((List.range (up + 1 - fr)).filter fun k => ws.all fun w => decide (wdAt (stN F W (fr + k)) w.1 = w.2)).map fun (k : Nat) => (fr : Int) + k
theorem nums_tog {F : List Int} {W : List Pt} {fr up : Nat} {ws : List (Int × Int)} {D : List Int} (h : ∀ k, k < up + 1 - fr → (preD D k = 0 ↔ ∀ w ∈ ws, wdAt (stN F W (fr + k)) w.1 = w.2)) : numsD D fr (up + 1 - fr) = togL F W fr up ws := by
  unfold numsD togL
  congr 1
  apply List.filter_congr
  intro k hk
  rw [List.mem_range] at hk
  have := h k hk
  by_cases q : preD D k = 0
  · rw [decide_eq_true q]
    symm
    rw [List.all_eq_true]
    exact fun w hw => decide_eq_true (this.1 q w hw)
  · rw [decide_eq_false q]
    symm
    rw [Bool.eq_false_iff]
    intro hc
    rw [List.all_eq_true] at hc
    exact q (this.2 fun w hw => of_decide_eq_true (hc w hw))
theorem tog_none {F : List Int} {W : List Pt} {fr up : Nat} {ws : List (Int × Int)} {a x y : Int} (h1 : (a, x) ∈ ws) (h2 : (a, y) ∈ ws) (hn : x ≠ y) : togL F W fr up ws = [] := by
  unfold togL
  rw [List.map_eq_nil_iff, List.filter_eq_nil_iff]
  intro k _ hc
  rw [List.all_eq_true] at hc
  have a1 := of_decide_eq_true (hc _ h1)
  have a2 := of_decide_eq_true (hc _ h2)
  exact hn (a1.symm.trans a2)
end Go.Proofs.YthmiainhaebjiaaGreatDoor


/- Numbers in a map. No statement of the seat is proved here. -/
namespace Go.Proofs.YthmiainhaebjiaaGreatDoor
open Go.RowKit Go.Shelf

def numI (a : Int) : Value := .int .i64 a
theorem lookup_erase : ∀ (L : List (Int × Int)) (j : Nat) (a z : Int), (L.map (·.1)).Nodup → L[j]? = some (a, z) → ∀ y, (L.eraseIdx j).lookup y = if y = a then none else L.lookup y
  | [], j, a, z, _, h => by simp at h
  | (b, u) :: L, 0, a, z, hn, h => by
    simp at h
    obtain ⟨rfl, rfl⟩ := h
    simp only [List.map_cons, List.nodup_cons] at hn
    intro y
    rw [List.eraseIdx_zero, List.tail_cons]
    by_cases hy : y = b
    · subst hy; rw [if_pos rfl, lookup_of_not hn.1]
    · have : (y == b) = false := by simp [hy]
      simp [List.lookup, this, hy]
  | (b, u) :: L, j + 1, a, z, hn, h => by
    simp only [List.map_cons, List.nodup_cons] at hn
    simp at h
    intro y
    have ih := lookup_erase L j a z hn.2 h y
    have hab : a ≠ b := by
      rintro rfl
      exact hn.1 (List.mem_map.2 ⟨(a, z), List.mem_of_getElem? h, rfl⟩)
    rw [List.eraseIdx_cons_succ, List.lookup, List.lookup]
    by_cases hy : y = b
    · subst hy
      have : ¬ y = a := fun e => hab e.symm
      simp [this]
    · have : (y == b) = false := by simp [hy]
      rw [this]; exact ih
/-- Numbers in a map. -/
structure MapI (w : World) (b : Nat) (f : Int → Option Int) : Prop where
  ex : ∃ (es : Array MapEntry) (clock : Nat) (L : List (Int × Int)), w.heap[b]? = some (.map es clock) ∧ es.toList.map (fun x => (x.key, x.val)) = L.map (fun p => (numI p.1, numI p.2)) ∧ (L.map (·.1)).Nodup ∧ (∀ y, L.lookup y = f y)
theorem MapI.keeps {w w' : World} {S : Nat → Prop} {b : Nat} {f : Int → Option Int} (h : MapI w b f) (k : Keeps S w w') (hs : ¬ S b) : MapI w' b f := by
  obtain ⟨es, clock, L, h1, h2⟩ := h.ex
  exact ⟨es, clock, L, (k.block b (lt_of_block h1) hs).trans h1, h2⟩
theorem MapI.lt {w : World} {b : Nat} {f : Int → Option Int} (h : MapI w b f) : b < w.heap.size := by
  obtain ⟨es, clock, L, h1, h2⟩ := h.ex
  exact lt_of_block h1
theorem enti_mem {es : List MapEntry} {L : List (Int × Int)} (h : es.map (fun x => (x.key, x.val)) = L.map (fun p => (numI p.1, numI p.2))) {j : Nat} {x : MapEntry} (hx : es[j]? = some x) : ∃ p, L[j]? = some p ∧ x.key = numI p.1 ∧ x.val = numI p.2 := by
  have h1 : (es.map (fun x => (x.key, x.val)))[j]? = some (x.key, x.val) := by rw [List.getElem?_map, hx]; rfl
  rw [h, List.getElem?_map] at h1
  obtain ⟨p, hp, he⟩ := Option.map_eq_some_iff.1 h1
  exact ⟨p, hp, (Prod.mk.inj he).1.symm, (Prod.mk.inj he).2.symm⟩
theorem enti_keys {es : List MapEntry} {L : List (Int × Int)} (h : es.map (fun x => (x.key, x.val)) = L.map (fun p => (numI p.1, numI p.2))) : ∀ x ∈ es, MapKept.IsKey (.int .i64) x.key := fun x hx => by
  obtain ⟨j, hj⟩ := List.getElem?_of_mem hx
  obtain ⟨p, _, h1, _⟩ := enti_mem h hj
  rw [h1]; rfl
theorem numI_inj {a b : Int} (h : numI a = numI b) : a = b := by unfold numI at h; injection h
/-- What a look into the map tells. -/
def lookI (f : Int → Option Int) (a : Int) : Value := .tuple #[.int .i64 ((f a).getD 0), .bool (f a).isSome]
theorem MapI.look {w : World} {b : Nat} {f : Int → Option Int} (h : MapI w b f) (a : Int) : (Instr.lookup 133 (.map (some b)) (.int .i64 a) true).run Tryz.prog w = .ok (lookI f a) w := by
  obtain ⟨es, clock, L, h1, h2, h3, h4⟩ := h.ex
  have hk : MapKept.IsKey (.int .i64) (numI a) := rfl
  have hgo := MapKept.run_getObj_map (P := Tryz.prog) h1
  have hck := fun e => MapKept.run_checkKey (P := Tryz.prog) (w := w) Tryz.underlying3 hk e 9999
  unfold lookI
  rw [← h4 a]
  rcases MapKept.findNow_spec hk es.toList 0 (enti_keys h2) with ⟨f1, f2⟩ | ⟨j, e, f1, f2, f3⟩
  · have hx : a ∉ L.map (·.1) := fun hm => by
      obtain ⟨p, hp, rfl⟩ := List.mem_map.1 hm
      have : (numI p.1, numI p.2) ∈ es.toList.map (fun x => (x.key, x.val)) := by rw [h2]; exact List.mem_map.2 ⟨p, hp, rfl⟩
      obtain ⟨y, hy, he⟩ := List.mem_map.1 this
      exact f2 y hy (Prod.mk.inj he).1
    have hf := MapKept.run_findKey (P := Tryz.prog) (w := w) Tryz.underlying3 f1
    rw [lookup_of_not hx]
    simp only [numI] at hck hf
    simp [Instr.lookup, run_underlying Tryz.underlying133, hgo, hck, hf, Result.andThen, go_sem]
  · have hf := MapKept.run_findKey (P := Tryz.prog) (w := w) Tryz.underlying3 f1
    obtain ⟨p, hp, e1, e2⟩ := enti_mem h2 f2
    have : a = p.1 := numI_inj (f3.symm.trans e1)
    rw [this, lookup_of_mem h3 (List.mem_of_getElem? hp)]
    simp only [numI, this] at hck hf e2
    simp [Instr.lookup, run_underlying Tryz.underlying133, hgo, hck, hf, Result.andThen, e2]
/-- A word more. -/
theorem MapI.put {w : World} {b : Nat} {f : Int → Option Int} (h : MapI w b f) (a x : Int) :
    ∃ w', (Instr.mapUpdate 133 (.map (some b)) (.int .i64 a) (.int .i64 x)).run Tryz.prog w = .ok () w' ∧ MapI w' b (fun y => if y = a then some x else f y) ∧ Keeps (fun k => k = b) w w' := by
  obtain ⟨es, clock, L, h1, h2, h3, h4⟩ := h.ex
  have hk : MapKept.IsKey (.int .i64) (numI a) := rfl
  have hgo := MapKept.run_getObj_map (P := Tryz.prog) h1
  have hck := fun e => MapKept.run_checkKey (P := Tryz.prog) (w := w) Tryz.underlying3 hk e 9999
  rcases MapKept.findNow_spec hk es.toList 0 (enti_keys h2) with ⟨f1, f2⟩ | ⟨j, e, f1, f2, f3⟩
  · have hf := MapKept.run_findKey (P := Tryz.prog) (w := w) Tryz.underlying3 f1
    have hx : a ∉ L.map (·.1) := fun hm => by
      obtain ⟨p, hp, rfl⟩ := List.mem_map.1 hm
      have : (numI p.1, numI p.2) ∈ es.toList.map (fun x => (x.key, x.val)) := by rw [h2]; exact List.mem_map.2 ⟨p, hp, rfl⟩
      obtain ⟨y, hy, he⟩ := List.mem_map.1 this
      exact f2 y hy (Prod.mk.inj he).1
    have hso := MapKept.run_setObj_map (P := Tryz.prog) (.map (es.push { key := numI a, val := numI x, born := clock }) (clock + 1)) h1
    refine ⟨{ w with heap := w.heap.setIfInBounds b (.map (es.push { key := numI a, val := numI x, born := clock }) (clock + 1)) }, ?_, ⟨_, _, L ++ [(a, x)], (MapKept.heap_set h1).1, ?_, ?_, ?_⟩, ?_⟩
    · simp only [numI] at hck hf hso
      simp [Instr.mapUpdate, run_underlying Tryz.underlying133, hgo, hck, hf, hso, Result.andThen, numI]
    · simp [h2]
    · rw [List.map_append, List.nodup_append]
      refine ⟨h3, by simp, ?_⟩
      intro u hu v hv
      simp only [List.map_cons, List.map_nil, List.mem_singleton] at hv
      subst hv
      rintro rfl
      exact hx hu
    · intro y
      rw [List.lookup_append, h4]
      by_cases hy : y = a
      · subst hy; rw [← h4, lookup_of_not hx]; simp [List.lookup]
      · have : (y == a) = false := by simp [hy]
        simp [List.lookup, this, hy]
    · refine ⟨rfl, rfl, rfl, by simp, fun k hk hs => ?_⟩
      exact (MapKept.heap_set h1).2 k hs
  · have hf := MapKept.run_findKey (P := Tryz.prog) (w := w) Tryz.underlying3 f1
    obtain ⟨p, hp, e1, e2⟩ := enti_mem h2 f2
    have hap : a = p.1 := numI_inj (f3.symm.trans e1)
    have hso := MapKept.run_setObj_map (P := Tryz.prog) (.map (es.modify j fun e => { e with key := numI a, val := numI x }) clock) h1
    have hej : es[j]? = some e := by simpa using f2
    have hsb : Instr.sameBits 10000 (Value.int .i64 a) (Value.int .i64 a) = true := by rw [show (10000 : Nat) = 9999 + 1 from rfl, Instr.sameBits]; simp
    refine ⟨{ w with heap := w.heap.setIfInBounds b (.map (es.modify j fun e => { e with key := numI a, val := numI x }) clock) }, ?_, ⟨_, _, L.set j (a, x), (MapKept.heap_set h1).1, ?_, ?_, ?_⟩, ?_⟩
    · simp only [numI] at hck hf hso f3
      simp [Instr.mapUpdate, run_underlying Tryz.underlying133, hgo, hck, hf, hso, Result.andThen, hej, f3, Instr.keyThatStays, hsb, numI]
    · apply List.ext_getElem?
      intro i
      have hl := congrArg (fun l : List (Value × Value) => l[i]?) h2
      simp only [List.getElem?_map] at hl ⊢
      rw [List.getElem?_set]
      by_cases hi : j = i
      · subst hi
        have hjl : j < L.length := (List.getElem?_eq_some_iff.1 hp).1
        simp [hej, hjl]
      · simp only [hi, if_false]
        rw [← hl]
        simp [hi]
    · have : (L.set j (a, x)).map (·.1) = L.map (·.1) := by
        apply List.ext_getElem?
        intro i
        simp only [List.getElem?_map, List.getElem?_set]
        by_cases hi : j = i
        · subst hi
          have hjl : j < L.length := (List.getElem?_eq_some_iff.1 hp).1
          simp only [if_true, hjl, Option.map_some]
          rw [hp, hap]; rfl
        · simp [hi]
      rw [this]; exact h3
    · intro y
      rw [lookup_set L j a x p.2 h3 (by rw [hp, hap]) y, h4]
    · refine ⟨rfl, rfl, rfl, by simp, fun k hk hs => ?_⟩
      exact (MapKept.heap_set h1).2 k hs
theorem MapI.new (w : World) : MapI (w.alloc (.map #[] 0)) w.heap.size (fun _ => none) := ⟨#[], 0, [], (MapKept.heap_alloc w (.map #[] 0)).1, rfl, List.nodup_nil, fun _ => rfl⟩
/-- One less. -/
theorem MapI.del {w : World} {b : Nat} {f : Int → Option Int} (h : MapI w b f) (a : Int) (ty : TypeId) :
    ∃ w', (Builtin.delete_ #[133, 3] ty #[.map (some b), .int .i64 a]).run Tryz.prog w = .ok (.tuple #[]) w' ∧ MapI w' b (fun y => if y = a then none else f y) ∧ Keeps (fun k => k = b) w w' := by
  obtain ⟨es, clock, L, h1, h2, h3, h4⟩ := h.ex
  have hk : MapKept.IsKey (.int .i64) (numI a) := rfl
  have hgo := MapKept.run_getObj_map (P := Tryz.prog) h1
  have hck := fun e => MapKept.run_checkKey (P := Tryz.prog) (w := w) Tryz.underlying3 hk e 9999
  rcases MapKept.findNow_spec hk es.toList 0 (enti_keys h2) with ⟨f1, f2⟩ | ⟨j, e, f1, f2, f3⟩
  · have hf := MapKept.run_findKey (P := Tryz.prog) (w := w) Tryz.underlying3 f1
    have hx : a ∉ L.map (·.1) := fun hm => by
      obtain ⟨p, hp, rfl⟩ := List.mem_map.1 hm
      have : (numI p.1, numI p.2) ∈ es.toList.map (fun x => (x.key, x.val)) := by rw [h2]; exact List.mem_map.2 ⟨p, hp, rfl⟩
      obtain ⟨y, hy, he⟩ := List.mem_map.1 this
      exact f2 y hy (Prod.mk.inj he).1
    have hso := MapKept.run_setObj_map (P := Tryz.prog) (.map es clock) h1
    refine ⟨{ w with heap := w.heap.setIfInBounds b (.map es clock) }, ?_, ⟨es, clock, L, (MapKept.heap_set h1).1, h2, h3, fun y => ?_⟩, ⟨rfl, rfl, rfl, by simp, fun k hk hs => (MapKept.heap_set h1).2 k hs⟩⟩
    · simp only [numI] at hck hf
      simp [Builtin.delete_, run_underlying Tryz.underlying133, hgo, hck, hf, hso, Result.andThen]
    · rw [h4]
      split
      · rename_i hy; subst hy; rw [← h4, lookup_of_not hx]
      · rfl
  · have hf := MapKept.run_findKey (P := Tryz.prog) (w := w) Tryz.underlying3 f1
    obtain ⟨p, hp, e1, e2⟩ := enti_mem h2 f2
    have hap : a = p.1 := numI_inj (f3.symm.trans e1)
    have hjl : j < es.toList.length := (List.getElem?_eq_some_iff.1 f2).1
    have hjs : j < es.size := by simpa using hjl
    have hsub : (es.eraseIdxIfInBounds j).toList = es.toList.eraseIdx j := by
      unfold Array.eraseIdxIfInBounds
      rw [dif_pos hjs]
      simp
    have hso := MapKept.run_setObj_map (P := Tryz.prog) (.map (es.eraseIdxIfInBounds j) clock) h1
    refine ⟨{ w with heap := w.heap.setIfInBounds b (.map (es.eraseIdxIfInBounds j) clock) }, ?_, ⟨_, clock, L.eraseIdx j, (MapKept.heap_set h1).1, ?_, ?_, fun y => ?_⟩, ⟨rfl, rfl, rfl, by simp, fun k hk hs => (MapKept.heap_set h1).2 k hs⟩⟩
    · simp only [numI] at hck hf
      simp [Builtin.delete_, run_underlying Tryz.underlying133, hgo, hck, hf, hso, Result.andThen]
    · rw [hsub]
      have : ∀ {α β : Type} (g : α → β) (l : List α) (n : Nat), (l.eraseIdx n).map g = (l.map g).eraseIdx n := by
        intro α β g l
        induction l with
        | nil => intro n; simp
        | cons x l ih => intro n; cases n <;> simp [ih]
      rw [this, this, h2]
    · exact h3.sublist ((List.eraseIdx_sublist L j).map _)
    · rw [lookup_erase L j a p.2 h3 (by rw [hp, hap]) y, h4]
end Go.Proofs.YthmiainhaebjiaaGreatDoor


/- What is kept where one's own blocks change. No statement of the seat is proved here. -/
namespace Go.Proofs.YthmiainhaebjiaaGreatDoor
open Go.RowKit Go.Shelf
theorem Keeps.row {S : Nat → Prop} {w W : World} {b : Nat} (h : Keeps S w W) (hb : w.heap.size ≤ b) (cs : Array Value) : Keeps S w (W.setRow b cs) :=
  ⟨h.os, h.tape, h.output, by simpa [World.setRow] using h.size, fun k hk hs => by
    rw [← h.block k hk hs]
    simp [World.setRow, Array.getElem?_modify, show ¬ b = k by omega]⟩
/-- What is changed in one's own blocks alone. -/
theorem Keeps.young {S : Nat → Prop} {w a b : World} (h : Keeps (fun _ => False) w a) (k : Keeps S a b) (hs : ∀ q, S q → w.heap.size ≤ q) : Keeps (fun _ => False) w b :=
  ⟨k.os.trans h.os, k.tape.trans h.tape, k.output.trans h.output, Nat.le_trans h.size k.size, fun q hq _ => (k.block q (Nat.lt_of_lt_of_le hq h.size) (fun f => by have := hs q f; omega)).trans (h.block q hq (fun f => f))⟩
end Go.Proofs.YthmiainhaebjiaaGreatDoor


/- Rows of blocks, each with rows of its own. No statement of the seat is proved here. -/
namespace Go.Proofs.YthmiainhaebjiaaGreatDoor
open Go.RowKit Go.Shelf

theorem Keeps.cellB {S : Nat → Prop} {w w' : World} (k : Keeps S w w') {a : Addr} {v : Value} (hs : ¬ S a.block) (h : w.cell? a = some v) : w'.cell? a = some v := by
  rw [← h]; simp only [World.cell?, k.block a.block (World.block_lt_of_cell? _ _ h) hs]
/-- An address and a word. -/
@[reducible] def enC (p : Int × Int) : List Value := [.int .u64 p.1, .int .u64 p.2, .bool false]
theorem en_len (p : Int × Int) : (enC p).length = 3 := rfl
theorem en_ne (p : Int × Int) : enC p ≠ [] := by simp
theorem en_one (p : Int × Int) : ∀ u ∈ enC p, u.oneCell' = true := by
  intro u hu
  simp at hu
  rcases hu with rfl | rfl | rfl <;> rfl
theorem info_en : (Tryz.prog.info? 75).map (fun i => (i.zero, i.size, i.bytes)) = some (some (.agg #[.int .u64 0, .int .u64 0, .bool false]), 3, 24) := by kernel_rfl
abbrev EnR (w : World) (base : Nat) (v : Value) (L : List (Int × Int)) : Prop := OwnR enC 3 75 w base v L
/-- A slice. -/
structure Sl where
  a : Option Addr
  n : Nat
  c : Nat
@[reducible] def Sl.v (s : Sl) : Value := .slice s.a s.n s.c
def sl0 : Sl := ⟨none, 0, 0⟩
theorem sl_of {α : Type} {c : α → List Value} {sz : Nat} {t : TypeId} {w : World} {base : Nat} {v : Value} {L : List α} (h : OwnR c sz t w base v L) : ∃ s : Sl, v = s.v ∧ s.n = L.length := by
  obtain ⟨b, cp, rfl⟩ := h.form
  exact ⟨⟨b, L.length, cp⟩, rfl, rfl⟩
/-- A block with its two rows. -/
structure Bx where
  p : Pt
  r : Sl
  s : Sl
@[reducible] def Bx.cp (x : Bx) : List Value := [.int .i64 x.p.th, .int .i64 x.p.kd, .int .i64 x.p.fi, .int .i64 x.p.la, .int .u64 x.p.nu, .bool x.p.wr, .int .i64 x.p.er, x.r.v, x.s.v, .int .i64 x.p.si, .bool x.p.lk]
@[reducible] def Bx.cb (x : Bx) : List Value := [.int .i64 x.p.th, .int .i64 x.p.kd, .int .i64 x.p.fi, .int .i64 x.p.la, .int .u64 x.p.nu, .bool x.p.wr, .int .i64 x.p.er, x.r.v, x.s.v]
theorem cp_len (x : Bx) : x.cp.length = 11 := rfl
theorem cb_len (x : Bx) : x.cb.length = 9 := rfl
theorem cp_ne (x : Bx) : x.cp ≠ [] := by simp
theorem cb_ne (x : Bx) : x.cb ≠ [] := by simp
theorem cp_one (x : Bx) : ∀ u ∈ x.cp, u.oneCell' = true := by
  intro u hu
  simp at hu
  rcases hu with rfl | rfl | rfl | rfl | rfl | rfl | rfl | rfl | rfl | rfl | rfl <;> rfl
theorem cb_one (x : Bx) : ∀ u ∈ x.cb, u.oneCell' = true := by
  intro u hu
  simp at hu
  rcases hu with rfl | rfl | rfl | rfl | rfl | rfl | rfl | rfl | rfl <;> rfl
def Bx.ow (x : Bx) : List Nat := x.r.v.ownBlock.toList ++ x.s.v.ownBlock.toList
def ows (X : List Bx) : List Nat := X.flatMap Bx.ow
theorem ows_append (X Y : List Bx) : ows (X ++ Y) = ows X ++ ows Y := by simp [ows]
theorem mem_ows {X : List Bx} {q : Nat} (h : q ∈ ows X) : ∃ x ∈ X, x.r.v.ownBlock = some q ∨ x.s.v.ownBlock = some q := by
  obtain ⟨x, hx, hq⟩ := List.mem_flatMap.1 h
  refine ⟨x, hx, ?_⟩
  unfold Bx.ow at hq
  rcases List.mem_append.1 hq with hq | hq
  · exact .inl (Option.mem_toList.1 hq)
  · exact .inr (Option.mem_toList.1 hq)
theorem ows_mem {X : List Bx} {x : Bx} (hx : x ∈ X) {q : Nat} (hq : x.r.v.ownBlock = some q ∨ x.s.v.ownBlock = some q) : q ∈ ows X := by
  refine List.mem_flatMap.2 ⟨x, hx, ?_⟩
  unfold Bx.ow
  rcases hq with hq | hq
  · exact List.mem_append_left _ (by rw [hq]; simp)
  · exact List.mem_append_right _ (by rw [hq]; simp)
/-- The blocks' rows: of the call's own, all apart. -/
structure Rws (w : World) (base : Nat) (X : List Bx) : Prop where
  rd : ∀ x ∈ X, EnR w base x.r.v x.p.rs
  wt : ∀ x ∈ X, EnR w base x.s.v x.p.ws
  nd : (ows X).Nodup
theorem Rws.nil (w : World) (base : Nat) : Rws w base [] := ⟨fun _ h => by simp at h, fun _ h => by simp at h, by simp [ows]⟩
theorem Rws.young {w : World} {base : Nat} {X : List Bx} (h : Rws w base X) {q : Nat} (hq : q ∈ ows X) : q < w.heap.size ∧ base ≤ q := by
  obtain ⟨x, hx, hq | hq⟩ := mem_ows hq
  · exact own_block (h.rd x hx).own hq
  · exact own_block (h.wt x hx).own hq
theorem Rws.keeps {w w' : World} {base : Nat} {X : List Bx} {S : Nat → Prop} (h : Rws w base X) (k : Keeps S w w') (hs : ∀ q ∈ ows X, ¬ S q) : Rws w' base X :=
  ⟨fun x hx => (h.rd x hx).keeps k fun g hg => hs g (ows_mem hx (.inl hg)), fun x hx => (h.wt x hx).keeps k fun g hg => hs g (ows_mem hx (.inr hg)), h.nd⟩
theorem OwnR.low {α : Type} {c : α → List Value} {sz : Nat} {t : TypeId} {w : World} {b b' : Nat} {v : Value} {L : List α} (h : OwnR c sz t w b v L) (hb : b' ≤ b) : OwnR c sz t w b' v L :=
  ⟨⟨h.own.1, by
    rcases h.own.2 with h2 | ⟨g, cap, cur, hv, h1, h2⟩
    · exact .inl h2
    · exact .inr ⟨g, cap, cur, hv, Nat.le_trans hb h1, h2⟩⟩, Nat.le_trans hb h.base⟩
theorem Rws.low {w : World} {b b' : Nat} {X : List Bx} (h : Rws w b X) (hb : b' ≤ b) : Rws w b' X := ⟨fun x hx => (h.rd x hx).low hb, fun x hx => (h.wt x hx).low hb, h.nd⟩
theorem Rws.add {w : World} {base b : Nat} {X : List Bx} {x : Bx} (h : Rws w base X) (hx : Rws w b [x]) (hb : base ≤ b) (hs : ∀ q ∈ ows X, q < b) : Rws w base (X ++ [x]) := by
  refine ⟨fun y hy => ?_, fun y hy => ?_, ?_⟩
  · rcases List.mem_append.1 hy with hy | hy
    · exact h.rd y hy
    · exact (hx.rd y hy).low hb
  · rcases List.mem_append.1 hy with hy | hy
    · exact h.wt y hy
    · exact (hx.wt y hy).low hb
  · rw [ows_append, List.nodup_append]
    refine ⟨h.nd, hx.nd, fun a ha c hc e => ?_⟩
    have := hs a ha
    have := (hx.young hc).2
    omega
theorem ows_set {X : List Bx} {n : Nat} {y : Bx} (hn : n < X.length) (hy : y.ow = (X[n]).ow) : ows (X.set n y) = ows X := by
  unfold ows
  rw [List.flatMap_def, List.flatMap_def]
  congr 1
  apply List.ext_getElem?
  intro i
  rw [List.getElem?_map, List.getElem?_map, List.getElem?_set]
  split
  · rename_i hi
    subst hi
    simp [hn, hy]
  · rfl
theorem ows_split {X : List Bx} {n : Nat} (hn : n < X.length) : ows X = ows (X.take n) ++ ((X[n]).ow ++ ows (X.drop (n + 1))) := by
  have h : X = X.take n ++ X[n] :: X.drop (n + 1) := by rw [← List.drop_eq_getElem_cons hn, List.take_append_drop]
  conv => lhs; rw [h]
  rw [ows_append]; rfl
theorem ows_set_split {X : List Bx} {n : Nat} (y : Bx) (hn : n < X.length) : ows (X.set n y) = ows (X.take n) ++ (y.ow ++ ows (X.drop (n + 1))) := by
  rw [ows_split (n := n) (by simpa using hn), List.getElem_set_self]
  congr 2
  · rw [List.take_set_of_le (Nat.le_refl _)]
  · rw [List.drop_set_of_lt (by omega)]
theorem nodup_set {X : List Bx} {n z : Nat} {y : Bx} (hn : n < X.length) (h : (ows X).Nodup) (hz : ∀ q ∈ ows X, q < z) (hy : y.ow.Nodup) (hq : ∀ q ∈ y.ow, q ∈ (X[n]).ow ∨ z ≤ q) : (ows (X.set n y)).Nodup := by
  rw [ows_split hn] at h
  rw [ows_split hn] at hz
  rw [ows_set_split y hn]
  rw [List.nodup_append, List.nodup_append] at h ⊢
  obtain ⟨h1, ⟨h2, h3, h4⟩, h5⟩ := h
  refine ⟨h1, ⟨hy, h3, fun a ha b hb e => ?_⟩, fun a ha b hb e => ?_⟩
  · rcases hq a ha with q | q
    · exact h4 a q b hb e
    · have := hz b (List.mem_append_right _ (List.mem_append_right _ hb)); omega
  · rcases List.mem_append.1 hb with hb | hb
    · rcases hq b hb with q | q
      · exact h5 a ha b (List.mem_append_left _ q) e
      · have := hz a (List.mem_append_left _ ha); omega
    · exact h5 a ha b (List.mem_append_right _ hb) e
theorem mem_set_at {X : List Bx} {n : Nat} {y x : Bx} (h : x ∈ X.set n y) : x = y ∨ ∃ i, i ≠ n ∧ X[i]? = some x := by
  obtain ⟨i, hi⟩ := List.getElem?_of_mem h
  rw [List.getElem?_set] at hi
  split at hi
  · split at hi
    · exact .inl (Option.some.inj hi).symm
    · cases hi
  · exact .inr ⟨i, by omega, hi⟩
theorem ows_other {X : List Bx} {n i : Nat} {x : Bx} (hn : n < X.length) (h : (ows X).Nodup) (hi : i ≠ n) (hx : X[i]? = some x) {q : Nat} (hq : x.r.v.ownBlock = some q ∨ x.s.v.ownBlock = some q) : q ∉ (X[n]).ow := by
  intro hc
  rw [ows_split hn] at h
  rw [List.nodup_append, List.nodup_append] at h
  obtain ⟨h1, ⟨h2, h3, h4⟩, h5⟩ := h
  obtain ⟨hil, hxe⟩ := List.getElem?_eq_some_iff.1 hx
  rcases Nat.lt_or_gt_of_ne hi with hlt | hgt
  · have : x ∈ X.take n := List.mem_iff_getElem.2 ⟨i, by simp; omega, by simp [hxe]⟩
    exact h5 q (ows_mem this hq) q (List.mem_append_left _ hc) rfl
  · have : x ∈ X.drop (n + 1) := List.mem_iff_getElem.2 ⟨i - (n + 1), by simp; omega, by
      rw [List.getElem_drop]
      have e : n + 1 + (i - (n + 1)) = i := by omega
      simp [e, hxe]⟩
    exact h4 q hc q (ows_mem this hq) rfl

/-- A row of blocks, its blocks' rows apart. -/
structure RwL (c : Bx → List Value) (sz : Nat) (t : TypeId) (w : World) (base : Nat) (v : Value) (X : List Bx) : Prop where
  own : OwnR c sz t w base v X
  rws : Rws w base X
  ap : ∀ g, v.ownBlock = some g → g ∉ ows X
variable {c : Bx → List Value} {sz : Nat} {t : TypeId}
theorem RwL.keeps {w w' : World} {base : Nat} {v : Value} {X : List Bx} {S : Nat → Prop} (h : RwL c sz t w base v X) (k : Keeps S w w') (hs : ∀ q, base ≤ q → q < w.heap.size → ¬ S q) : RwL c sz t w' base v X :=
  ⟨h.own.keeps k fun g hg => hs g (own_block h.own.own hg).2 (own_block h.own.own hg).1, h.rws.keeps k fun q hq => hs q (h.rws.young hq).2 (h.rws.young hq).1, h.ap⟩
theorem RwL.low {w : World} {b b' : Nat} {v : Value} {X : List Bx} (h : RwL c sz t w b v X) (hb : b' ≤ b) : RwL c sz t w b' v X := ⟨h.own.low hb, h.rws.low hb, h.ap⟩
/-- The row has grown by one block. -/
theorem RwL.grew {w w' : World} {base : Nat} {v v' : Value} {X : List Bx} {x : Bx} (ho : OwnR c sz t w' base v' (X ++ [x])) (g : Grew w w' v v') (hx : Rws w base (X ++ [x])) (hap : ∀ q, v.ownBlock = some q → q ∉ ows (X ++ [x])) : RwL c sz t w' base v' (X ++ [x]) := by
  refine ⟨ho, hx.keeps g.keeps fun q hq e => hap q e hq, fun q hq => ?_⟩
  rcases g.own with e | e
  · exact hap q (e ▸ hq)
  · intro hc
    have := e q hq
    have := (hx.young hc).1
    omega
/-- A cell of a block that is no row is stored. -/
theorem RwL.set (hc : ∀ x, (c x).length = sz) {w : World} {base g N cap : Nat} {X : List Bx} (h : RwL c sz t w base (.slice (some ⟨g, 0, none⟩) N cap) X) (n f : Nat) (y : Bx) (u : Value) (hn : n < X.length) (hf : f < sz) (hy : c y = (c (X[n])).set f u) (hr : y.r = (X[n]).r) (hs : y.s = (X[n]).s) (h1 : y.p.rs = (X[n]).p.rs) (h2 : y.p.ws = (X[n]).p.ws) :
    RwL c sz t (w.setCell ⟨g, n * sz + f, none⟩ u) base (.slice (some ⟨g, 0, none⟩) N cap) (X.set n y) := by
  have k : Keeps (fun q => q = g) w (w.setCell ⟨g, n * sz + f, none⟩ u) := Keeps.setCell (S := fun q => q = g) (p := ⟨g, n * sz + f, none⟩) (Keeps.refl _ w) (.inr rfl) u
  have hg : g ∉ ows X := h.ap g rfl
  have ho : ows (X.set n y) = ows X := ows_set hn (by unfold Bx.ow; rw [hr, hs])
  have R := h.rws.keeps k (fun q hq e => hg (e ▸ hq))
  have hm := List.getElem_mem hn
  refine ⟨h.own.set hc n f y u hn hf hy, ⟨fun x hx => ?_, fun x hx => ?_, by rw [ho]; exact R.nd⟩, fun q hq => by rw [ho]; exact h.ap q hq⟩
  · rcases List.mem_or_eq_of_mem_set hx with q | q
    · exact R.rd x q
    · rw [q, hr, h1]; exact R.rd _ hm
  · rcases List.mem_or_eq_of_mem_set hx with q | q
    · exact R.wt x q
    · rw [q, hs, h2]; exact R.wt _ hm
/-- A block's row of reads has grown, and is stored. -/
theorem RwL.reads (hc : ∀ x, (c x).length = sz) {w w1 : World} {base g N cap : Nat} {X : List Bx} (h : RwL c sz t w base (.slice (some ⟨g, 0, none⟩) N cap) X) (n f : Nat) (y : Bx) (hn : n < X.length) (hf : f < sz) (hy : c y = (c (X[n])).set f y.r.v) (hs : y.s = (X[n]).s) (h2 : y.p.ws = (X[n]).p.ws)
    (hI : EnR w1 base y.r.v y.p.rs) (gr : Grew w w1 (X[n]).r.v y.r.v) :
    RwL c sz t (w1.setCell ⟨g, n * sz + f, none⟩ y.r.v) base (.slice (some ⟨g, 0, none⟩) N cap) (X.set n y) ∧ Keeps (fun q => base ≤ q) w (w1.setCell ⟨g, n * sz + f, none⟩ y.r.v) := by
  have hm := List.getElem_mem hn
  have hgb := own_block h.own.own (g := g) rfl
  have hg : g ∉ ows X := h.ap g rfl
  have k : Keeps (fun q => q = g) w1 (w1.setCell ⟨g, n * sz + f, none⟩ y.r.v) := Keeps.setCell (S := fun q => q = g) (p := ⟨g, n * sz + f, none⟩) (Keeps.refl _ w1) (.inr rfl) _
  have o1 : OwnR c sz t w1 base (.slice (some ⟨g, 0, none⟩) N cap) X := h.own.keeps gr.keeps fun q hq e => by
    cases hq; exact hg (ows_mem hm (.inl e))
  have hyo : ∀ q ∈ y.ow, q ∈ (X[n]).ow ∨ w.heap.size ≤ q := fun q hq => by
    unfold Bx.ow at hq ⊢
    rcases List.mem_append.1 hq with hq | hq
    · have hq := Option.mem_toList.1 hq
      rcases gr.own with e | e
      · left; exact List.mem_append_left _ (by rw [← e, hq]; simp)
      · exact .inr (e q hq)
    · left; rw [hs] at hq; exact List.mem_append_right _ hq
  have hynd : y.ow.Nodup := by
    have hxn : (X[n]).ow.Nodup := by
      have := h.rws.nd
      rw [ows_split hn, List.nodup_append, List.nodup_append] at this
      exact this.2.1.1
    unfold Bx.ow at hxn ⊢
    rw [hs]
    rcases gr.own with e | e
    · rw [e]; exact hxn
    · rw [List.nodup_append] at hxn ⊢
      refine ⟨by cases y.r.v.ownBlock <;> simp, hxn.2.1, fun a ha b hb he => ?_⟩
      have h3 := e a (Option.mem_toList.1 ha)
      have h4 := (own_block (h.rws.wt _ hm).own (Option.mem_toList.1 hb)).1
      omega
  have nd2 := nodup_set hn h.rws.nd (fun q hq => (h.rws.young hq).1) hynd hyo
  have hgy : g ∉ y.ow := fun hq => by
    rcases hyo g hq with q | q
    · exact hg (by rw [ows_split hn]; exact List.mem_append_right _ (List.mem_append_left _ q))
    · omega
  have hgs : g ∉ ows (X.set n y) := fun hq => by
    rw [ows_set_split y hn] at hq
    rw [ows_split hn] at hg
    rcases List.mem_append.1 hq with hq | hq
    · exact hg (List.mem_append_left _ hq)
    · rcases List.mem_append.1 hq with hq | hq
      · exact hgy hq
      · exact hg (List.mem_append_right _ (List.mem_append_right _ hq))
  have oth : ∀ (x : Bx) (i : Nat), i ≠ n → X[i]? = some x → ∀ q, x.r.v.ownBlock = some q ∨ x.s.v.ownBlock = some q → ¬ (X[n]).r.v.ownBlock = some q := fun x i hi hx q hq e => ows_other hn h.rws.nd hi hx hq (by unfold Bx.ow; exact List.mem_append_left _ (by rw [e]; simp))
  have gne : ∀ q, q ∈ ows (X.set n y) → ¬ q = g := fun q hq e => hgs (e ▸ hq)
  refine ⟨⟨o1.set hc n f y _ hn hf hy, ⟨fun x hx => ?_, fun x hx => ?_, nd2⟩, fun q hq => by cases hq; exact hgs⟩, ?_⟩
  · rcases mem_set_at hx with q | ⟨i, hi, hxi⟩
    · subst q
      exact hI.keeps k fun q hq => gne q (ows_mem hx (.inl hq))
    · exact ((h.rws.rd x (List.mem_of_getElem? hxi)).keeps gr.keeps fun q hq => oth x i hi hxi q (.inl hq)).keeps k fun q hq => gne q (ows_mem hx (.inl hq))
  · rcases mem_set_at hx with q | ⟨i, hi, hxi⟩
    · subst q
      have := (h.rws.wt _ hm).keeps gr.keeps fun q hq e => by
        have hxn := h.rws.nd
        rw [ows_split hn, List.nodup_append, List.nodup_append] at hxn
        have hxn := hxn.2.1.1
        unfold Bx.ow at hxn
        rw [List.nodup_append] at hxn
        exact hxn.2.2 q (by rw [e]; simp) q (by rw [hq]; simp) rfl
      rw [hs, h2]
      exact this.keeps k fun q hq => gne q (ows_mem hx (.inr (by rw [hs]; exact hq)))
    · exact ((h.rws.wt x (List.mem_of_getElem? hxi)).keeps gr.keeps fun q hq => oth x i hi hxi q (.inr hq)).keeps k fun q hq => gne q (ows_mem hx (.inr hq))
  · exact (gr.keeps.mono fun q hq e => (own_block (h.rws.rd _ hm).own e).2).setCell (.inr hgb.2) _
/-- A block's row of writes has grown, and is stored. -/
theorem RwL.writes (hc : ∀ x, (c x).length = sz) {w w1 : World} {base g N cap : Nat} {X : List Bx} (h : RwL c sz t w base (.slice (some ⟨g, 0, none⟩) N cap) X) (n f : Nat) (y : Bx) (hn : n < X.length) (hf : f < sz) (hy : c y = (c (X[n])).set f y.s.v) (hs : y.r = (X[n]).r) (h2 : y.p.rs = (X[n]).p.rs)
    (hI : EnR w1 base y.s.v y.p.ws) (gr : Grew w w1 (X[n]).s.v y.s.v) :
    RwL c sz t (w1.setCell ⟨g, n * sz + f, none⟩ y.s.v) base (.slice (some ⟨g, 0, none⟩) N cap) (X.set n y) ∧ Keeps (fun q => base ≤ q) w (w1.setCell ⟨g, n * sz + f, none⟩ y.s.v) := by
  have hm := List.getElem_mem hn
  have hgb := own_block h.own.own (g := g) rfl
  have hg : g ∉ ows X := h.ap g rfl
  have k : Keeps (fun q => q = g) w1 (w1.setCell ⟨g, n * sz + f, none⟩ y.s.v) := Keeps.setCell (S := fun q => q = g) (p := ⟨g, n * sz + f, none⟩) (Keeps.refl _ w1) (.inr rfl) _
  have o1 : OwnR c sz t w1 base (.slice (some ⟨g, 0, none⟩) N cap) X := h.own.keeps gr.keeps fun q hq e => by
    cases hq; exact hg (ows_mem hm (.inr e))
  have hyo : ∀ q ∈ y.ow, q ∈ (X[n]).ow ∨ w.heap.size ≤ q := fun q hq => by
    unfold Bx.ow at hq ⊢
    rcases List.mem_append.1 hq with hq | hq
    · left; rw [hs] at hq; exact List.mem_append_left _ hq
    · have hq := Option.mem_toList.1 hq
      rcases gr.own with e | e
      · left; exact List.mem_append_right _ (by rw [← e, hq]; simp)
      · exact .inr (e q hq)
  have hynd : y.ow.Nodup := by
    have hxn : (X[n]).ow.Nodup := by
      have := h.rws.nd
      rw [ows_split hn, List.nodup_append, List.nodup_append] at this
      exact this.2.1.1
    unfold Bx.ow at hxn ⊢
    rw [hs]
    rcases gr.own with e | e
    · rw [e]; exact hxn
    · rw [List.nodup_append] at hxn ⊢
      refine ⟨hxn.1, by cases y.s.v.ownBlock <;> simp, fun a ha b hb he => ?_⟩
      have h3 := e b (Option.mem_toList.1 hb)
      have h4 := (own_block (h.rws.rd _ hm).own (Option.mem_toList.1 ha)).1
      omega
  have nd2 := nodup_set hn h.rws.nd (fun q hq => (h.rws.young hq).1) hynd hyo
  have hgy : g ∉ y.ow := fun hq => by
    rcases hyo g hq with q | q
    · exact hg (by rw [ows_split hn]; exact List.mem_append_right _ (List.mem_append_left _ q))
    · omega
  have hgs : g ∉ ows (X.set n y) := fun hq => by
    rw [ows_set_split y hn] at hq
    rw [ows_split hn] at hg
    rcases List.mem_append.1 hq with hq | hq
    · exact hg (List.mem_append_left _ hq)
    · rcases List.mem_append.1 hq with hq | hq
      · exact hgy hq
      · exact hg (List.mem_append_right _ (List.mem_append_right _ hq))
  have oth : ∀ (x : Bx) (i : Nat), i ≠ n → X[i]? = some x → ∀ q, x.r.v.ownBlock = some q ∨ x.s.v.ownBlock = some q → ¬ (X[n]).s.v.ownBlock = some q := fun x i hi hx q hq e => ows_other hn h.rws.nd hi hx hq (by unfold Bx.ow; exact List.mem_append_right _ (by rw [e]; simp))
  have gne : ∀ q, q ∈ ows (X.set n y) → ¬ q = g := fun q hq e => hgs (e ▸ hq)
  refine ⟨⟨o1.set hc n f y _ hn hf hy, ⟨fun x hx => ?_, fun x hx => ?_, nd2⟩, fun q hq => by cases hq; exact hgs⟩, ?_⟩
  · rcases mem_set_at hx with q | ⟨i, hi, hxi⟩
    · subst q
      have := (h.rws.rd _ hm).keeps gr.keeps fun q hq e => by
        have hxn := h.rws.nd
        rw [ows_split hn, List.nodup_append, List.nodup_append] at hxn
        have hxn := hxn.2.1.1
        unfold Bx.ow at hxn
        rw [List.nodup_append] at hxn
        exact hxn.2.2 q (by rw [hq]; simp) q (by rw [e]; simp) rfl
      rw [hs, h2]
      exact this.keeps k fun q hq => gne q (ows_mem hx (.inl (by rw [hs]; exact hq)))
    · exact ((h.rws.rd x (List.mem_of_getElem? hxi)).keeps gr.keeps fun q hq => oth x i hi hxi q (.inl hq)).keeps k fun q hq => gne q (ows_mem hx (.inl hq))
  · rcases mem_set_at hx with q | ⟨i, hi, hxi⟩
    · subst q
      exact hI.keeps k fun q hq => gne q (ows_mem hx (.inr hq))
    · exact ((h.rws.wt x (List.mem_of_getElem? hxi)).keeps gr.keeps fun q hq => oth x i hi hxi q (.inr hq)).keeps k fun q hq => gne q (ows_mem hx (.inr hq))
  · exact (gr.keeps.mono fun q hq e => (own_block (h.rws.wt _ hm).own e).2).setCell (.inr hgb.2) _
end Go.Proofs.YthmiainhaebjiaaGreatDoor
