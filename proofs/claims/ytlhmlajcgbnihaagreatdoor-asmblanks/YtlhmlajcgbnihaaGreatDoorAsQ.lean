
/- A line read colon by colon, as the document's answer reads it, is the line read word by word. No statement of the seat is proved here. -/
import Derived.Test.YtlhmlajcgbnihaaGreatDoorAsB
namespace Go.Proofs.YtlhmlajcgbnihaaGreatDoor
open Go.RowKit Go.Shelf

theorem wordOf_app : ∀ l : List UInt8, (wordOf l).1 ++ (wordOf l).2 = l
  | [] => rfl
  | c :: t => by
    have := wordOf_app t
    unfold wordOf
    split
    · rename_i h; simp [h]
    · split
      · simp
      · simp [this]
theorem dropWhile_head (p : UInt8 → Bool) : ∀ (l : List UInt8) (c : UInt8) (t : List UInt8), l.dropWhile p = c :: t → p c = false
  | [], c, t, h => by simp at h
  | d :: l, c, t, h => by
    rw [List.dropWhile_cons] at h
    split at h
    · exact dropWhile_head p l c t h
    · rename_i hd; cases h; simpa using hd
theorem wordOf_ne {c : UInt8} (t : List UInt8) (h : blk c = false) : (wordOf (c :: t)).1 ≠ [] := by
  unfold wordOf
  split
  · simp
  · rw [if_neg (by simp [h])]; simp
theorem nextW_nil {l : List UInt8} (h : (nextW l).1 = []) : l.dropWhile blk = [] := by
  cases hd : l.dropWhile blk with
  | nil => rfl
  | cons c t =>
    unfold nextW at h
    rw [hd] at h
    exact absurd h (wordOf_ne t (dropWhile_head _ _ _ _ hd))
theorem mem_dropWhile {x : UInt8} (hx : blk x = false) : ∀ l : List UInt8, x ∈ l → x ∈ l.dropWhile blk
  | c :: t, h => by
    rw [List.dropWhile_cons]
    split
    · rename_i hc
      rcases List.mem_cons.1 h with rfl | h
      · rw [hx] at hc; cases hc
      · exact mem_dropWhile hx t h
    · exact h
/-- A byte that is no blank stands in one of the words. -/
theorem toks_mem {x : UInt8} (hx : blk x = false) (l : List UInt8) (h : x ∈ l) : ∃ t ∈ toks l, x ∈ t := by
  have hm := mem_dropWhile hx l h
  have hne : (nextW l).1 ≠ [] := fun e => by rw [nextW_nil e] at hm; simp at hm
  rw [toks_cons hne]
  have ha : (nextW l).1 ++ (nextW l).2 = l.dropWhile blk := wordOf_app _
  rw [← ha] at hm
  rcases List.mem_append.1 hm with hm | hm
  · exact ⟨_, by simp, hm⟩
  · have := nextW_len l
    have := List.length_pos_iff.2 hne
    obtain ⟨t, h1, h2⟩ := toks_mem hx _ hm
    exact ⟨t, by simp [h1], h2⟩
termination_by l.length

theorem nms_nocolon : ∀ k : Fin 18, (58 : UInt8) ∉ (nms[k.val]?).getD [] := by decide
theorem decGo_mem : ∀ (l : List UInt8) (b : Bool) (n m : Nat), decGo b n l = some m → ∀ c ∈ l, 48 ≤ c.toNat ∧ c.toNat ≤ 57
  | [], _, _, _, _, c, h => by simp at h
  | d :: t, b, n, m, h, c, hc => by
    rw [decGo] at h
    split at h
    · cases h
    · rename_i h1
      split at h
      · cases h
      · rcases List.mem_cons.1 hc with rfl | hc
        · omega
        · exact decGo_mem t _ _ _ h c hc
theorem decL_mem {l : List UInt8} {m : Nat} (h : decL l = some m) : ∀ c ∈ l, 48 ≤ c.toNat ∧ c.toNat ≤ 57 := by
  unfold decL at h
  split at h
  · cases h
  · exact decGo_mem l _ _ _ h
theorem signB_blk {c : UInt8} (h : signB c = true) : blk c = false ∧ c ≠ 58 := by
  refine ⟨?_, ?_⟩
  · cases hb : blk c with
    | false => rfl
    | true =>
      simp only [blk, Bool.or_eq_true, beq_iff_eq] at hb
      rcases hb with rfl | rfl <;> exact absurd h (by decide)
  · rintro rfl; exact absurd h (by decide)
theorem labB_sign {l : List UInt8} (h : labB l = true) : ∀ c ∈ l, signB c = true := by
  simp only [labB, Bool.and_eq_true, List.all_eq_true] at h
  exact h.1.2
theorem labB_ne {l : List UInt8} (h : labB l = true) : l ≠ [] := by
  rintro rfl; simp [labB] at h

/-- A part with a colon behind an operation: there is no instruction. -/
theorem parseW_colon {h : List UInt8} {ws : List (List UInt8)} {t : List UInt8} (ht : t ∈ ws) (hc : (58 : UInt8) ∈ t) : parseW (h :: ws) = none := by
  have hd : decAll ws = none := by
    refine decAll_none ws t ht ?_
    cases hd : decL t with
    | none => rfl
    | some m => have := decL_mem hd 58 hc; simp at this
  simp only [parseW, hd]
  split
  · rfl
  · split <;> rfl
theorem zeroed_mem {h : List UInt8} {ws : List (List UInt8)} {t : List UInt8} (ht : t ∈ ws) (hc : (58 : UInt8) ∈ t) : ∃ ws', zeroed (h :: ws) = h :: ws' ∧ t ∈ ws' := by
  unfold zeroed
  split
  · rename_i hu
    simp only [usesB, Bool.and_eq_true] at hu
    have hl := labB_sign hu.2
    have hne : ws ≠ [] := by rintro rfl; simp at ht
    have hlast : lastW (h :: ws) = ws.getLast hne := by
      unfold lastW
      rw [List.getLast?_cons, List.getLast?_eq_some_getLast hne]; rfl
    obtain ⟨k, hk, he⟩ := List.getElem_of_mem ht
    have hkl : k ≠ ws.length - 1 := by
      rintro rfl
      rw [← List.getLast_eq_getElem hne, ← hlast] at he
      have := (signB_blk (hl 58 (by rw [he]; exact hc))).2
      exact this rfl
    have hpos := List.length_pos_iff.2 hne
    refine ⟨ws.set (ws.length - 1) [48], ?_, ?_⟩
    · rw [show (h :: ws).length - 1 = (ws.length - 1) + 1 by simp; omega, List.set_cons_succ]
    · rw [← he]
      have : (ws.set (ws.length - 1) [48])[k]'(by simpa using hk) = ws[k] := List.getElem_set_ne (Ne.symm hkl) _
      rw [← this]
      exact List.getElem_mem _
  · exact ⟨ws, rfl, ht⟩
theorem insR_colon {r : Rd} {n : Nat} {h : List UInt8} {ws : List (List UInt8)} {t : List UInt8} (ht : t ∈ ws) (hc : (58 : UInt8) ∈ t) : insR r (h :: ws) n = none := by
  obtain ⟨ws', h1, h2⟩ := zeroed_mem (h := h) ht hc
  unfold insR
  rw [h1, parseW_colon h2 hc]; rfl

/-- Words between blanks. -/
def bparts : List UInt8 → List UInt8 → List (List UInt8)
  | word, [] => if word = [] then [] else [word]
  | word, c :: t => if blk c then (if word = [] then bparts [] t else word :: bparts [] t) else bparts (word ++ [c]) t
theorem wordOf_word : ∀ (x t : List UInt8), (∀ c ∈ x, brk c = false) → wordOf (x ++ t) = (x ++ (wordOf t).1, (wordOf t).2)
  | [], t, _ => rfl
  | c :: x, t, h => by
    have hc := h c (by simp)
    simp only [brk, Bool.or_eq_false_iff, beq_eq_false_iff_ne] at hc
    have := wordOf_word x t (fun d hd => h d (by simp [hd]))
    rw [List.cons_append, wordOf, if_neg hc.2, if_neg (by simp [hc.1]), this]
    rfl
theorem toks_next {l l' : List UInt8} (h : nextW l = nextW l') : toks l = toks l' := by
  by_cases hn : (nextW l).1 = []
  · rw [toks_nil hn, toks_nil (by rw [← h]; exact hn)]
  · rw [toks_cons hn, toks_cons (l := l') (by rw [← h]; exact hn), h]
/-- Without a colon the words are those between blanks. -/
theorem toks_bparts : ∀ (t word : List UInt8), (∀ c ∈ word, brk c = false) → (58 : UInt8) ∉ t → bparts word t = toks (word ++ t)
  | [], word, hw, _ => by
    rw [bparts, List.append_nil]
    split
    · rename_i h; subst h; rw [toks_nil (by rfl)]
    · rename_i h
      have e : nextW word = (word, []) := by
        unfold nextW
        have hd : word.dropWhile blk = word := by
          cases word with
          | nil => rfl
          | cons c x =>
            have := hw c (by simp)
            simp only [brk, Bool.or_eq_false_iff] at this
            rw [List.dropWhile_cons, if_neg (by simp [this.1])]
        rw [hd]; exact wordOf_no word hw
      rw [toks_cons (by rw [e]; exact h), e, toks_nil (by rfl)]
  | c :: t, word, hw, hn => by
    have hn' : (58 : UInt8) ∉ t := fun h => hn (by simp [h])
    have hc58 : c ≠ 58 := fun h => hn (by simp [h])
    rw [bparts]
    split
    · rename_i hb
      have ih := toks_bparts t [] (by simp) hn'
      simp only [List.nil_append] at ih
      split
      · rename_i h; subst h
        rw [ih, List.nil_append]
        exact toks_next (by unfold nextW; rw [List.dropWhile_cons, if_pos hb])
      · rename_i h
        have e : nextW (word ++ c :: t) = (word, c :: t) := by
          unfold nextW
          have hd : (word ++ c :: t).dropWhile blk = word ++ c :: t := by
            cases word with
            | nil => exact absurd rfl h
            | cons d x =>
              have := hw d (by simp)
              simp only [brk, Bool.or_eq_false_iff] at this
              rw [List.cons_append, List.dropWhile_cons, if_neg (by simp [this.1])]
          rw [hd, wordOf_word word _ hw, wordOf, if_neg hc58, if_pos hb, List.append_nil]
        rw [toks_cons (by rw [e]; exact h), e, ih]
        congr 1
        exact toks_next (by unfold nextW; rw [List.dropWhile_cons, if_pos hb])
    · rename_i hb
      have ih := toks_bparts t (word ++ [c]) (fun d hd => by
        rcases List.mem_append.1 hd with hd | hd
        · exact hw d hd
        · simp only [List.mem_singleton] at hd; subst hd; simp [brk, hb, hc58]) hn'
      rw [ih, List.append_assoc]; rfl

/-- A line, colon by colon: first the labels. -/
def colR (r : Rd) (n : Nat) (s : List UInt8) : Option Rd :=
  if h : s.idxOf 58 < s.length then
    (standR r ((s.take (s.idxOf 58)).dropWhile blk)).bind fun r' => have _ := h; colR r' n (s.drop (s.idxOf 58 + 1))
  else if bparts [] s = [] then some r else insR r (bparts [] s) n
termination_by s.length
decreasing_by simp; omega

theorem no58 {s : List UInt8} (h : ¬ s.idxOf 58 < s.length) : (58 : UInt8) ∉ s := fun hm => h (List.idxOf_lt_length_of_mem hm)
theorem take58 {s : List UInt8} : (58 : UInt8) ∉ s.take (s.idxOf 58) := by
  intro hm
  obtain ⟨k, hk, he⟩ := List.getElem_of_mem hm
  simp only [List.length_take] at hk
  rw [List.getElem_take] at he
  have hlt : k < s.findIdx (fun x => x == (58 : UInt8)) := by
    have : s.idxOf 58 = s.findIdx (fun x => x == (58 : UInt8)) := rfl
    omega
  have := List.not_of_lt_findIdx hlt
  simp [he] at this
theorem at58 {s : List UInt8} (h : s.idxOf 58 < s.length) : s[s.idxOf 58] = 58 := List.getElem_idxOf h
theorem split58 {s : List UInt8} (h : s.idxOf 58 < s.length) : s = s.take (s.idxOf 58) ++ 58 :: s.drop (s.idxOf 58 + 1) := by
  conv => lhs; rw [← List.take_append_drop (s.idxOf 58) s, List.drop_eq_getElem_cons h, at58 h]
theorem dropWhile_app {a b : List UInt8} : ∀ l : List UInt8, l.dropWhile blk = a → a ≠ [] → (l ++ b).dropWhile blk = a ++ b
  | [], h, hne => by simp at h; exact absurd h hne
  | c :: t, h, hne => by
    rw [List.dropWhile_cons] at h
    rw [List.cons_append, List.dropWhile_cons]
    split
    · rename_i hc; rw [if_pos hc] at h; exact dropWhile_app t h hne
    · rename_i hc; rw [if_neg hc] at h; rw [← h]; rfl
theorem dropWhile_app_nil {b : List UInt8} : ∀ l : List UInt8, l.dropWhile blk = [] → (l ++ b).dropWhile blk = b.dropWhile blk
  | [], _ => rfl
  | c :: t, h => by
    rw [List.dropWhile_cons] at h
    rw [List.cons_append, List.dropWhile_cons]
    split
    · rename_i hc; rw [if_pos hc] at h; exact dropWhile_app_nil t h
    · rename_i hc; rw [if_neg hc] at h; cases h

theorem colR_eq (r : Rd) (n : Nat) (s : List UInt8) : colR r n s = lineR r n (toks s) := by
  rw [colR]
  by_cases h : s.idxOf 58 < s.length
  · rw [dif_pos h]
    have hs := split58 h
    have hno := take58 (s := s)
    have hlen : (s.drop (s.idxOf 58 + 1)).length < s.length := by simp; omega
    have ih := fun r' => colR_eq r' n (s.drop (s.idxOf 58 + 1))
    generalize s.take (s.idxOf 58) = a at hs hno ⊢
    generalize s.drop (s.idxOf 58 + 1) = b at hs hlen ih ⊢
    generalize hname : a.dropWhile blk = name
    have hn58 : (58 : UInt8) ∉ name := fun hm => hno (by
      have := (List.dropWhile_sublist (l := a) blk).subset
      rw [hname] at this; exact this hm)
    by_cases hbl : ∀ c ∈ name, blk c = false
    · have e : nextW s = (name ++ [58], b) := by
        unfold nextW
        have hd : s.dropWhile blk = name ++ 58 :: b := by
          rw [hs]
          by_cases hne : name = []
          · subst hne; rw [dropWhile_app_nil a hname]; rfl
          · exact dropWhile_app a hname hne
        rw [hd, wordOf_word name _ (fun c hc => by simp [brk, hbl c hc]; rintro rfl; exact hn58 hc), wordOf, if_pos rfl]
      rw [toks_cons (by rw [e]; simp), e]
      simp only [lineR, List.getLast?_append, List.getLast?_singleton, Option.some_or, if_pos, List.dropLast_concat]
      cases standR r name with
      | none => rfl
      | some r' => exact ih r'
    · have hlab : labB name = false := by
        cases hl : labB name with
        | false => rfl
        | true => exact absurd (fun c hc => (signB_blk (labB_sign hl c hc)).1) hbl
      have h1 : standR r name = none := by unfold standR; rw [if_neg (by simp [hlab])]
      rw [h1]
      have hne : name ≠ [] := by rintro rfl; exact hbl (by simp)
      have hd : s.dropWhile blk = name ++ 58 :: b := by rw [hs]; exact dropWhile_app a hname hne
      obtain ⟨c0, t0, rfl⟩ : ∃ c t, name = c :: t := by
        cases name with
        | nil => exact absurd rfl hne
        | cons c t => exact ⟨c, t, rfl⟩
      have hc0 : blk c0 = false := dropWhile_head _ _ _ _ hname
      have hw : (nextW s).1 ≠ [] := by unfold nextW; rw [hd]; exact wordOf_ne _ hc0
      -- the word ends ahead of the blank
      obtain ⟨i, hi, hib, hmin⟩ : ∃ i, ∃ hi : i < (c0 :: t0).length, blk ((c0 :: t0)[i]) = true ∧ ∀ j (hj : j < i), blk ((c0 :: t0)[j]'(by omega)) = false := by
        have hex : ∃ c ∈ (c0 :: t0), blk c = true := by
          by_cases hh : ∃ c ∈ (c0 :: t0), blk c = true
          · exact hh
          · refine absurd (fun c hc => ?_) hbl
            cases hq : blk c with
            | false => rfl
            | true => exact absurd ⟨c, hc, hq⟩ hh
        refine ⟨(c0 :: t0).findIdx blk, List.findIdx_lt_length_of_exists hex, List.findIdx_getElem, fun j hj => ?_⟩
        have := List.not_of_lt_findIdx hj
        simpa using this
      have hcol : ∀ j (hj : j < (c0 :: t0).length), (c0 :: t0)[j] ≠ 58 := fun j hj he => hn58 (he ▸ List.getElem_mem hj)
      have hwo := wordOf_at ((c0 :: t0) ++ 58 :: b) i (by simp at hi ⊢; omega) (fun j hj => by
        rw [List.getElem_append_left (by omega)]
        simp [brk, hmin j hj, hcol j (by omega)]) (by rw [List.getElem_append_left hi]; simp [brk, hib])
      rw [List.getElem_append_left hi, if_neg (hcol i hi)] at hwo
      have e : nextW s = (((c0 :: t0) ++ 58 :: b).take i, ((c0 :: t0) ++ 58 :: b).drop i) := by unfold nextW; rw [hd]; exact hwo
      have h58 : (58 : UInt8) ∈ (nextW s).2 := by
        rw [e]
        dsimp only
        rw [List.drop_append_of_le_length (by omega)]
        simp
      obtain ⟨t, ht, htc⟩ := toks_mem (by decide) _ h58
      rw [toks_cons hw]
      have hnl : (nextW s).1.getLast? ≠ some 58 := by
        rw [e]
        intro hl
        have hm := List.mem_of_getLast? hl
        rw [List.take_append_of_le_length (by omega)] at hm
        exact hn58 (List.mem_of_mem_take hm)
      rw [lineR, if_neg hnl, insR_colon ht htc]
      rfl
  · rw [dif_neg h]
    have hno := no58 h
    have hb := toks_bparts s [] (by simp) hno
    rw [List.nil_append] at hb
    rw [hb]
    cases ht : toks s with
    | nil => rfl
    | cons t T =>
      rw [if_neg (by simp), lineR, if_neg]
      intro hl
      have hm := List.mem_of_getLast? hl
      -- a word of s has only bytes of s
      have : ∀ (l : List UInt8), ∀ t ∈ toks l, ∀ c ∈ t, c ∈ l := fun l => toks_sub l
      exact hno (this s t (by rw [ht]; simp) 58 hm)
termination_by s.length
where
  toks_sub (l : List UInt8) : ∀ t ∈ toks l, ∀ c ∈ t, c ∈ l := by
    intro t ht c hc
    by_cases h : (nextW l).1 = []
    · rw [toks_nil h] at ht; simp at ht
    · have ha : (nextW l).1 ++ (nextW l).2 = l.dropWhile blk := wordOf_app _
      have hsub := (List.dropWhile_sublist (l := l) blk).subset
      rw [toks_cons h] at ht
      rcases List.mem_cons.1 ht with rfl | ht
      · exact hsub (by rw [← ha]; simp [hc])
      · have := nextW_len l
        have := List.length_pos_iff.2 h
        exact hsub (by rw [← ha]; exact List.mem_append_right _ (toks_sub _ t ht c hc))
  termination_by l.length
end Go.Proofs.YtlhmlajcgbnihaaGreatDoor
