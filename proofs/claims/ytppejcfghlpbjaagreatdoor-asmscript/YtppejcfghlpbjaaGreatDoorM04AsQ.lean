/-
  No statement of the seat is proved here. (Several texts in one: AsQ, AwA, AsC, AsD, ARound, ARoundB, AsE, ARoundC, AIr, AsF.)
-/
import Derived.Test.YtppejcfghlpbjaaGreatDoorM03Lay
import Derived.Laws.Strings3
import Derived.Scope
import Derived.Laws.RangeAny
import Derived.Lib.OthersKept
import Derived.Lib.CutLaws
import Derived.Test.YtppejcfghlpbjaaGreatDoorM00CMem
import Derived.Deep.RegionHeld3
import Derived.Shelf.Abstract
import Derived.Shelf.RegionOpen
import Derived.WalkKit
import Derived.OwnWalkIn
import Derived.TacticsInMore
import Derived.LoopNIn
import Derived.LoopIn
import Derived.Deep.Draws
import Derived.WalkMore
import Derived.ScopeJumps
import Derived.RangeFuncNested
import Derived.RangeFuncBound
import Derived.RangeFuncCalls
import Derived.RangeFuncLeaves
import Derived.OrdersIn
import Derived.OrdersHeld
import Derived.Deep.QuietTactic
import Derived.BigQuiet
import Derived.Test.YtppejcfghlpbjaaGreatDoorM01CdC
import Derived.Test.YtppejcfghlpbjaaGreatDoorM02CdF
import Derived.Deep.Upon

/- A line read colon by colon, as the document's answer reads it, is the line read word by word. No statement of the seat is proved here. -/
namespace Go.Proofs.YtppejcfghlpbjaaGreatDoor
open Go.RowKit Go.Shelf

theorem wordOf_app : ∀ l : List UInt8, (wordOf l).1 ++ (wordOf l).2 = l
  | [] => rfl
  | c :: t => by
    have := wordOf_app t
    unfold wordOf
    split
    · rename_i h; simp [h]
    · split
      · simp
      · simp [this]
theorem dropWhile_head (p : UInt8 → Bool) : ∀ (l : List UInt8) (c : UInt8) (t : List UInt8), l.dropWhile p = c :: t → p c = false
  | [], c, t, h => by simp at h
  | d :: l, c, t, h => by
    rw [List.dropWhile_cons] at h
    split at h
    · exact dropWhile_head p l c t h
    · rename_i hd; cases h; simpa using hd
theorem wordOf_ne {c : UInt8} (t : List UInt8) (h : blk c = false) : (wordOf (c :: t)).1 ≠ [] := by
  unfold wordOf
  split
  · simp
  · rw [if_neg (by simp [h])]; simp
theorem nextW_nil {l : List UInt8} (h : (nextW l).1 = []) : l.dropWhile blk = [] := by
  cases hd : l.dropWhile blk with
  | nil => rfl
  | cons c t =>
    unfold nextW at h
    rw [hd] at h
    exact absurd h (wordOf_ne t (dropWhile_head _ _ _ _ hd))
theorem mem_dropWhile {x : UInt8} (hx : blk x = false) : ∀ l : List UInt8, x ∈ l → x ∈ l.dropWhile blk
  | c :: t, h => by
    rw [List.dropWhile_cons]
    split
    · rename_i hc
      rcases List.mem_cons.1 h with rfl | h
      · rw [hx] at hc; cases hc
      · exact mem_dropWhile hx t h
    · exact h
/-- A byte that is no blank stands in one of the words. -/
theorem toks_mem {x : UInt8} (hx : blk x = false) (l : List UInt8) (h : x ∈ l) : ∃ t ∈ toks l, x ∈ t := by
  have hm := mem_dropWhile hx l h
  have hne : (nextW l).1 ≠ [] := fun e => by rw [nextW_nil e] at hm; simp at hm
  rw [toks_cons hne]
  have ha : (nextW l).1 ++ (nextW l).2 = l.dropWhile blk := wordOf_app _
  rw [← ha] at hm
  rcases List.mem_append.1 hm with hm | hm
  · exact ⟨_, by simp, hm⟩
  · have := nextW_len l
    have := List.length_pos_iff.2 hne
    obtain ⟨t, h1, h2⟩ := toks_mem hx _ hm
    exact ⟨t, by simp [h1], h2⟩
termination_by l.length

theorem nms_nocolon : ∀ k : Fin 18, (58 : UInt8) ∉ (nms[k.val]?).getD [] := by decide
theorem decGo_mem : ∀ (l : List UInt8) (b : Bool) (n m : Nat), decGo b n l = some m → ∀ c ∈ l, 48 ≤ c.toNat ∧ c.toNat ≤ 57
  | [], _, _, _, _, c, h => by simp at h
  | d :: t, b, n, m, h, c, hc => by
    rw [decGo] at h
    split at h
    · cases h
    · rename_i h1
      split at h
      · cases h
      · rcases List.mem_cons.1 hc with rfl | hc
        · omega
        · exact decGo_mem t _ _ _ h c hc
theorem decL_mem {l : List UInt8} {m : Nat} (h : decL l = some m) : ∀ c ∈ l, 48 ≤ c.toNat ∧ c.toNat ≤ 57 := by
  unfold decL at h
  split at h
  · cases h
  · exact decGo_mem l _ _ _ h
theorem signB_blk {c : UInt8} (h : signB c = true) : blk c = false ∧ c ≠ 58 := by
  refine ⟨?_, ?_⟩
  · cases hb : blk c with
    | false => rfl
    | true =>
      simp only [blk, Bool.or_eq_true, beq_iff_eq] at hb
      rcases hb with rfl | rfl <;> exact absurd h (by decide)
  · rintro rfl; exact absurd h (by decide)
theorem labB_sign {l : List UInt8} (h : labB l = true) : ∀ c ∈ l, signB c = true := by
  simp only [labB, Bool.and_eq_true, List.all_eq_true] at h
  exact h.1.2
theorem labB_ne {l : List UInt8} (h : labB l = true) : l ≠ [] := by
  rintro rfl; simp [labB] at h

/-- A part with a colon behind an operation: there is no instruction. -/
theorem parseW_colon {h : List UInt8} {ws : List (List UInt8)} {t : List UInt8} (ht : t ∈ ws) (hc : (58 : UInt8) ∈ t) : parseW (h :: ws) = none := by
  have hd : decAll ws = none := by
    refine decAll_none ws t ht ?_
    cases hd : decL t with
    | none => rfl
    | some m => have := decL_mem hd 58 hc; simp at this
  simp only [parseW, hd]
  split
  · rfl
  · split <;> rfl
theorem zeroed_mem {h : List UInt8} {ws : List (List UInt8)} {t : List UInt8} (ht : t ∈ ws) (hc : (58 : UInt8) ∈ t) : ∃ ws', zeroed (h :: ws) = h :: ws' ∧ t ∈ ws' := by
  unfold zeroed
  split
  · rename_i hu
    simp only [usesB, Bool.and_eq_true] at hu
    have hl := labB_sign hu.2
    have hne : ws ≠ [] := by rintro rfl; simp at ht
    have hlast : lastW (h :: ws) = ws.getLast hne := by
      unfold lastW
      rw [List.getLast?_cons, List.getLast?_eq_some_getLast hne]; rfl
    obtain ⟨k, hk, he⟩ := List.getElem_of_mem ht
    have hkl : k ≠ ws.length - 1 := by
      rintro rfl
      rw [← List.getLast_eq_getElem hne, ← hlast] at he
      have := (signB_blk (hl 58 (by rw [he]; exact hc))).2
      exact this rfl
    have hpos := List.length_pos_iff.2 hne
    refine ⟨ws.set (ws.length - 1) [48], ?_, ?_⟩
    · rw [show (h :: ws).length - 1 = (ws.length - 1) + 1 by simp; omega, List.set_cons_succ]
    · rw [← he]
      have : (ws.set (ws.length - 1) [48])[k]'(by simpa using hk) = ws[k] := List.getElem_set_ne (Ne.symm hkl) _
      rw [← this]
      exact List.getElem_mem _
  · exact ⟨ws, rfl, ht⟩
theorem insR_colon {r : Rd} {n : Nat} {h : List UInt8} {ws : List (List UInt8)} {t : List UInt8} (ht : t ∈ ws) (hc : (58 : UInt8) ∈ t) : insR r (h :: ws) n = none := by
  obtain ⟨ws', h1, h2⟩ := zeroed_mem (h := h) ht hc
  unfold insR
  rw [h1, parseW_colon h2 hc]; rfl

/-- Words between blanks. -/
def bparts : List UInt8 → List UInt8 → List (List UInt8)
  | word, [] => if word = [] then [] else [word]
  | word, c :: t => if blk c then (if word = [] then bparts [] t else word :: bparts [] t) else bparts (word ++ [c]) t
theorem wordOf_word : ∀ (x t : List UInt8), (∀ c ∈ x, brk c = false) → wordOf (x ++ t) = (x ++ (wordOf t).1, (wordOf t).2)
  | [], t, _ => rfl
  | c :: x, t, h => by
    have hc := h c (by simp)
    simp only [brk, Bool.or_eq_false_iff, beq_eq_false_iff_ne] at hc
    have := wordOf_word x t (fun d hd => h d (by simp [hd]))
    rw [List.cons_append, wordOf, if_neg hc.2, if_neg (by simp [hc.1]), this]
    rfl
theorem toks_next {l l' : List UInt8} (h : nextW l = nextW l') : toks l = toks l' := by
  by_cases hn : (nextW l).1 = []
  · rw [toks_nil hn, toks_nil (by rw [← h]; exact hn)]
  · rw [toks_cons hn, toks_cons (l := l') (by rw [← h]; exact hn), h]
/-- Without a colon the words are those between blanks. -/
theorem toks_bparts : ∀ (t word : List UInt8), (∀ c ∈ word, brk c = false) → (58 : UInt8) ∉ t → bparts word t = toks (word ++ t)
  | [], word, hw, _ => by
    rw [bparts, List.append_nil]
    split
    · rename_i h; subst h; rw [toks_nil (by rfl)]
    · rename_i h
      have e : nextW word = (word, []) := by
        unfold nextW
        have hd : word.dropWhile blk = word := by
          cases word with
          | nil => rfl
          | cons c x =>
            have := hw c (by simp)
            simp only [brk, Bool.or_eq_false_iff] at this
            rw [List.dropWhile_cons, if_neg (by simp [this.1])]
        rw [hd]; exact wordOf_no word hw
      rw [toks_cons (by rw [e]; exact h), e, toks_nil (by rfl)]
  | c :: t, word, hw, hn => by
    have hn' : (58 : UInt8) ∉ t := fun h => hn (by simp [h])
    have hc58 : c ≠ 58 := fun h => hn (by simp [h])
    rw [bparts]
    split
    · rename_i hb
      have ih := toks_bparts t [] (by simp) hn'
      simp only [List.nil_append] at ih
      split
      · rename_i h; subst h
        rw [ih, List.nil_append]
        exact toks_next (by unfold nextW; rw [List.dropWhile_cons, if_pos hb])
      · rename_i h
        have e : nextW (word ++ c :: t) = (word, c :: t) := by
          unfold nextW
          have hd : (word ++ c :: t).dropWhile blk = word ++ c :: t := by
            cases word with
            | nil => exact absurd rfl h
            | cons d x =>
              have := hw d (by simp)
              simp only [brk, Bool.or_eq_false_iff] at this
              rw [List.cons_append, List.dropWhile_cons, if_neg (by simp [this.1])]
          rw [hd, wordOf_word word _ hw, wordOf, if_neg hc58, if_pos hb, List.append_nil]
        rw [toks_cons (by rw [e]; exact h), e, ih]
        congr 1
        exact toks_next (by unfold nextW; rw [List.dropWhile_cons, if_pos hb])
    · rename_i hb
      have ih := toks_bparts t (word ++ [c]) (fun d hd => by
        rcases List.mem_append.1 hd with hd | hd
        · exact hw d hd
        · simp only [List.mem_singleton] at hd; subst hd; simp [brk, hb, hc58]) hn'
      rw [ih, List.append_assoc]; rfl

/-- A line, colon by colon: first the labels. -/
def colR (r : Rd) (n : Nat) (s : List UInt8) : Option Rd :=
  if h : s.idxOf 58 < s.length then
    (standR r ((s.take (s.idxOf 58)).dropWhile blk)).bind fun r' => have _ := h; colR r' n (s.drop (s.idxOf 58 + 1))
  else if bparts [] s = [] then some r else insR r (bparts [] s) n
termination_by s.length
decreasing_by simp; omega

theorem no58 {s : List UInt8} (h : ¬ s.idxOf 58 < s.length) : (58 : UInt8) ∉ s := fun hm => h (List.idxOf_lt_length_of_mem hm)
theorem take58 {s : List UInt8} : (58 : UInt8) ∉ s.take (s.idxOf 58) := by
  intro hm
  obtain ⟨k, hk, he⟩ := List.getElem_of_mem hm
  simp only [List.length_take] at hk
  rw [List.getElem_take] at he
  have hlt : k < s.findIdx (fun x => x == (58 : UInt8)) := by
    have : s.idxOf 58 = s.findIdx (fun x => x == (58 : UInt8)) := rfl
    omega
  have := List.not_of_lt_findIdx hlt
  simp [he] at this
theorem at58 {s : List UInt8} (h : s.idxOf 58 < s.length) : s[s.idxOf 58] = 58 := List.getElem_idxOf h
theorem split58 {s : List UInt8} (h : s.idxOf 58 < s.length) : s = s.take (s.idxOf 58) ++ 58 :: s.drop (s.idxOf 58 + 1) := by
  conv => lhs; rw [← List.take_append_drop (s.idxOf 58) s, List.drop_eq_getElem_cons h, at58 h]
theorem dropWhile_app {a b : List UInt8} : ∀ l : List UInt8, l.dropWhile blk = a → a ≠ [] → (l ++ b).dropWhile blk = a ++ b
  | [], h, hne => by simp at h; exact absurd h hne
  | c :: t, h, hne => by
    rw [List.dropWhile_cons] at h
    rw [List.cons_append, List.dropWhile_cons]
    split
    · rename_i hc; rw [if_pos hc] at h; exact dropWhile_app t h hne
    · rename_i hc; rw [if_neg hc] at h; rw [← h]; rfl
theorem dropWhile_app_nil {b : List UInt8} : ∀ l : List UInt8, l.dropWhile blk = [] → (l ++ b).dropWhile blk = b.dropWhile blk
  | [], _ => rfl
  | c :: t, h => by
    rw [List.dropWhile_cons] at h
    rw [List.cons_append, List.dropWhile_cons]
    split
    · rename_i hc; rw [if_pos hc] at h; exact dropWhile_app_nil t h
    · rename_i hc; rw [if_neg hc] at h; cases h

theorem colR_eq (r : Rd) (n : Nat) (s : List UInt8) : colR r n s = lineR r n (toks s) := by
  rw [colR]
  by_cases h : s.idxOf 58 < s.length
  · rw [dif_pos h]
    have hs := split58 h
    have hno := take58 (s := s)
    have hlen : (s.drop (s.idxOf 58 + 1)).length < s.length := by simp; omega
    have ih := fun r' => colR_eq r' n (s.drop (s.idxOf 58 + 1))
    generalize s.take (s.idxOf 58) = a at hs hno ⊢
    generalize s.drop (s.idxOf 58 + 1) = b at hs hlen ih ⊢
    generalize hname : a.dropWhile blk = name
    have hn58 : (58 : UInt8) ∉ name := fun hm => hno (by
      have := (List.dropWhile_sublist (l := a) blk).subset
      rw [hname] at this; exact this hm)
    by_cases hbl : ∀ c ∈ name, blk c = false
    · have e : nextW s = (name ++ [58], b) := by
        unfold nextW
        have hd : s.dropWhile blk = name ++ 58 :: b := by
          rw [hs]
          by_cases hne : name = []
          · subst hne; rw [dropWhile_app_nil a hname]; rfl
          · exact dropWhile_app a hname hne
        rw [hd, wordOf_word name _ (fun c hc => by simp [brk, hbl c hc]; rintro rfl; exact hn58 hc), wordOf, if_pos rfl]
      rw [toks_cons (by rw [e]; simp), e]
      simp only [lineR, List.getLast?_append, List.getLast?_singleton, Option.some_or, if_pos, List.dropLast_concat]
      cases standR r name with
      | none => rfl
      | some r' => exact ih r'
    · have hlab : labB name = false := by
        cases hl : labB name with
        | false => rfl
        | true => exact absurd (fun c hc => (signB_blk (labB_sign hl c hc)).1) hbl
      have h1 : standR r name = none := by unfold standR; rw [if_neg (by simp [hlab])]
      rw [h1]
      have hne : name ≠ [] := by rintro rfl; exact hbl (by simp)
      have hd : s.dropWhile blk = name ++ 58 :: b := by rw [hs]; exact dropWhile_app a hname hne
      obtain ⟨c0, t0, rfl⟩ : ∃ c t, name = c :: t := by
        cases name with
        | nil => exact absurd rfl hne
        | cons c t => exact ⟨c, t, rfl⟩
      have hc0 : blk c0 = false := dropWhile_head _ _ _ _ hname
      have hw : (nextW s).1 ≠ [] := by unfold nextW; rw [hd]; exact wordOf_ne _ hc0
      -- the word ends ahead of the blank
      obtain ⟨i, hi, hib, hmin⟩ : ∃ i, ∃ hi : i < (c0 :: t0).length, blk ((c0 :: t0)[i]) = true ∧ ∀ j (hj : j < i), blk ((c0 :: t0)[j]'(by omega)) = false := by
        have hex : ∃ c ∈ (c0 :: t0), blk c = true := by
          by_cases hh : ∃ c ∈ (c0 :: t0), blk c = true
          · exact hh
          · refine absurd (fun c hc => ?_) hbl
            cases hq : blk c with
            | false => rfl
            | true => exact absurd ⟨c, hc, hq⟩ hh
        refine ⟨(c0 :: t0).findIdx blk, List.findIdx_lt_length_of_exists hex, List.findIdx_getElem, fun j hj => ?_⟩
        have := List.not_of_lt_findIdx hj
        simpa using this
      have hcol : ∀ j (hj : j < (c0 :: t0).length), (c0 :: t0)[j] ≠ 58 := fun j hj he => hn58 (he ▸ List.getElem_mem hj)
      have hwo := wordOf_at ((c0 :: t0) ++ 58 :: b) i (by simp at hi ⊢; omega) (fun j hj => by
        rw [List.getElem_append_left (by omega)]
        simp [brk, hmin j hj, hcol j (by omega)]) (by rw [List.getElem_append_left hi]; simp [brk, hib])
      rw [List.getElem_append_left hi, if_neg (hcol i hi)] at hwo
      have e : nextW s = (((c0 :: t0) ++ 58 :: b).take i, ((c0 :: t0) ++ 58 :: b).drop i) := by unfold nextW; rw [hd]; exact hwo
      have h58 : (58 : UInt8) ∈ (nextW s).2 := by
        rw [e]
        dsimp only
        rw [List.drop_append_of_le_length (by omega)]
        simp
      obtain ⟨t, ht, htc⟩ := toks_mem (by decide) _ h58
      rw [toks_cons hw]
      have hnl : (nextW s).1.getLast? ≠ some 58 := by
        rw [e]
        intro hl
        have hm := List.mem_of_getLast? hl
        rw [List.take_append_of_le_length (by omega)] at hm
        exact hn58 (List.mem_of_mem_take hm)
      rw [lineR, if_neg hnl, insR_colon ht htc]
      rfl
  · rw [dif_neg h]
    have hno := no58 h
    have hb := toks_bparts s [] (by simp) hno
    rw [List.nil_append] at hb
    rw [hb]
    cases ht : toks s with
    | nil => rfl
    | cons t T =>
      rw [if_neg (by simp), lineR, if_neg]
      intro hl
      have hm := List.mem_of_getLast? hl
      -- a word of s has only bytes of s
      have : ∀ (l : List UInt8), ∀ t ∈ toks l, ∀ c ∈ t, c ∈ l := fun l => toks_sub l
      exact hno (this s t (by rw [ht]; simp) 58 hm)
termination_by s.length
where
  toks_sub (l : List UInt8) : ∀ t ∈ toks l, ∀ c ∈ t, c ∈ l := by
    intro t ht c hc
    by_cases h : (nextW l).1 = []
    · rw [toks_nil h] at ht; simp at ht
    · have ha : (nextW l).1 ++ (nextW l).2 = l.dropWhile blk := wordOf_app _
      have hsub := (List.dropWhile_sublist (l := l) blk).subset
      rw [toks_cons h] at ht
      rcases List.mem_cons.1 ht with rfl | ht
      · exact hsub (by rw [← ha]; simp [hc])
      · have := nextW_len l
        have := List.length_pos_iff.2 h
        exact hsub (by rw [← ha]; exact List.mem_append_right _ (toks_sub _ t ht c hc))
  termination_by l.length
end Go.Proofs.YtppejcfghlpbjaaGreatDoor


/- The document's way to read a number, against the program's: pure facts. No statement of the seat is proved here. -/
namespace Go.Proofs.YtppejcfghlpbjaaGreatDoor
open Go.RowKit Go.Shelf

theorem cut_str (l : List UInt8) (a b : Nat) : (⟨l.toArray⟩ : ByteArray).extract a b = ⟨((l.drop a).take (b - a)).toArray⟩ := ByteArray.extract_mk l a b
/-- The number of decimal digits, at most a greatest one. -/
def numM (most : Nat) (s : List UInt8) : Option Nat := (decL s).bind fun n => if n ≤ most then some n else none
theorem decGo_ge : ∀ (l : List UInt8) (b : Bool) (n m : Nat), decGo b n l = some m → n ≤ m
  | [], _, n, m, h => by simp [decGo] at h; omega
  | c :: t, b, n, m, h => by
    rw [decGo] at h
    split at h
    · cases h
    · split at h
      · cases h
      · have := decGo_ge t _ _ _ h
        omega
theorem decGo_app : ∀ (l r : List UInt8) (b : Bool) (m : Nat), decGo b m (l ++ r) = (decGo b m l).bind fun n => decGo (b && l.isEmpty) n r
  | [], r, b, m => by simp [decGo]
  | x :: l, r, b, m => by
    rw [List.cons_append, decGo, decGo]
    split
    · rfl
    · split
      · rfl
      · rw [decGo_app l r false _]
        simp
theorem numM_nil (most : Nat) : numM most [] = none := by simp [numM, decL]
theorem numM_none {most : Nat} {s : List UInt8} (h : decL s = none) : numM most s = none := by simp [numM, h]
theorem numM_zero (most : Nat) (c : UInt8) (t : List UInt8) : numM most (48 :: c :: t) = none := by
  apply numM_none
  unfold decL
  rw [if_neg (by simp), decGo, if_neg (by simp), if_neg (by simp), decGo, if_pos (by simp)]
theorem numM_long {most : Nat} {s : List UInt8} (h : 20 < s.length) : numM most s = none := by
  apply numM_none
  cases hd : decL s with
  | none => rfl
  | some n =>
    exfalso
    have hlt := decL_lt hd
    unfold decL at hd
    split at hd
    · cases hd
    · rename_i hne
      have := dec_forth s.length s n rfl hne hd
      have hl : (Lib.decDigits n).length ≤ 20 := by rw [Lib.decDigits_length]; exact Lib.nDigits_le20 _ (by omega)
      rw [← this] at hl
      omega
theorem numM_bad {most : Nat} {s : List UInt8} {k : Nat} (hk : k < s.length) (h : ¬ (48 ≤ (s[k]).toNat ∧ (s[k]).toNat ≤ 57)) : numM most s = none := by
  apply numM_none
  cases hd : decL s with
  | none => rfl
  | some n => exact absurd (decL_mem hd _ (List.getElem_mem hk)) h
theorem numM_big {most : Nat} (_hm : most < 18446744073709551616) {s : List UInt8} {k n : Nat} (hk : k < s.length) (h : decGo true 0 (s.take k) = some n) (_hd : 48 ≤ (s[k]).toNat ∧ (s[k]).toNat ≤ 57) (hb : most < n * 10 + ((s[k]).toNat - 48)) : numM most s = none := by
  unfold numM
  cases hdl : decL s with
  | none => rfl
  | some m =>
    have hge : n * 10 + ((s[k]).toNat - 48) ≤ m := by
      unfold decL at hdl
      split at hdl
      · cases hdl
      · have e : s = s.take k ++ s[k] :: s.drop (k + 1) := by
          conv => lhs; rw [← List.take_append_drop k s, List.drop_eq_getElem_cons hk]
        rw [e, decGo_app, h, Option.bind_some, decGo] at hdl
        split at hdl
        · cases hdl
        · split at hdl
          · cases hdl
          · exact decGo_ge _ _ _ _ hdl
    simp only [Option.bind_some]
    rw [if_neg (by omega)]
theorem num_step {most : Nat} (hm : most < 18446744073709551616) {s : List UInt8} {k n : Nat} (hk : k < s.length) (hz : 1 ≤ k → n ≠ 0) (h : decGo true 0 (s.take k) = some n) (hd : 48 ≤ (s[k]).toNat ∧ (s[k]).toNat ≤ 57) (hb : n * 10 + ((s[k]).toNat - 48) ≤ most) : decGo true 0 (s.take (k + 1)) = some (n * 10 + ((s[k]).toNat - 48)) := by
  rw [List.take_succ_eq_append_getElem hk, decGo_app, h, Option.bind_some, decGo, if_neg, if_neg, decGo]
  · omega
  · rintro (q | q | ⟨q1, q2⟩)
    · omega
    · omega
    · by_cases h1 : 1 ≤ k
      · exact hz h1 q2
      · obtain rfl : k = 0 := by omega
        simp at q1
theorem numM_end {most : Nat} {s : List UInt8} {n : Nat} (hne : s ≠ []) (h : decGo true 0 s = some n) (hn : n ≤ most) : numM most s = some n := by
  unfold numM decL
  rw [if_neg hne, h]
  simp [hn]
end Go.Proofs.YtppejcfghlpbjaaGreatDoor


/- strings.IndexRune and strings.IndexAny at the three signs that end a word, over any bytes. No statement of the seat is proved here. -/
namespace Go.Proofs.YtppejcfghlpbjaaGreatDoor
open Go.RowKit Go.Shelf

def C3 : ByteArray := ⟨#[32, 9, 58]⟩

/-- It answers a bool. -/
def BoolE (e : Ending) : Prop := ∃ b, e = .returned (.bool b)
theorem valid_any (r : Int) (w : World) : Calls Tryz.prog 138 #[.int .i32 r] w fun e w' => BoolE e ∧ w' = w := by
  by_cases h1 : 0 ≤ r
  · by_cases h2 : r < 55296
    · go_enter Tryz.func138, Tryz.ntmps138
      go_wp2
      go_ret
      exact ⟨⟨_, rfl⟩, rfl⟩
    · by_cases h3 : 57343 < r
      · by_cases h4 : r ≤ 1114111
        · go_enter Tryz.func138, Tryz.ntmps138
          go_wp2
          go_ret
          exact ⟨⟨_, rfl⟩, rfl⟩
        · go_enter Tryz.func138, Tryz.ntmps138
          go_wp2
          go_ret
          exact ⟨⟨_, rfl⟩, rfl⟩
      · go_enter Tryz.func138, Tryz.ntmps138
        go_wp2
        go_ret
        exact ⟨⟨_, rfl⟩, rfl⟩
  · have h3 : ¬ 57343 < r := by omega
    go_enter Tryz.func138, Tryz.ntmps138
    go_wp2
    go_ret
    exact ⟨⟨_, rfl⟩, rfl⟩

/-- The bytes of a rune that is not ASCII: two to four, the last of them at least 128. -/
theorem enc_high (r : Int) (h : 128 ≤ r) : (∃ b0 b1, Utf8.encode r = ⟨#[b0, b1]⟩ ∧ 128 ≤ b1.toNat) ∨ (∃ b0 b1 b2, Utf8.encode r = ⟨#[b0, b1, b2]⟩ ∧ 128 ≤ b2.toNat) ∨ (∃ b0 b1 b2 b3, Utf8.encode r = ⟨#[b0, b1, b2, b3]⟩ ∧ 128 ≤ b3.toNat) := by
  have hc : 128 ≤ (if Utf8.valid r then r.toNat else Utf8.runeError) := by
    split
    · omega
    · decide
  unfold Utf8.encode
  generalize (if Utf8.valid r then r.toNat else Utf8.runeError) = c at hc
  have hb : 128 ≤ (UInt8.ofNat (128 + c % 64)).toNat := by simp; omega
  dsimp only
  rw [if_neg (by omega)]
  split
  · exact .inl ⟨_, _, rfl, hb⟩
  · split
    · exact .inr (.inl ⟨_, _, _, rfl, hb⟩)
    · exact .inr (.inr ⟨_, _, _, _, rfl, hb⟩)
theorem ibyte_any (l : List UInt8) (c : Int) (w : World) : Calls Tryz.prog 42 #[.string ⟨l.toArray⟩, .int .u8 c] w fun e w' => e = .returned (.int .i64 (Lib.indexByte l c.toNat.toUInt8)) ∧ w' = w :=
  Any.strings_IndexByte lays137 ⟨l.toArray⟩ c w

set_option maxRecDepth 100000 in
set_option maxHeartbeats 2000000 in
theorem irune_high (r : Int) (h0 : 128 ≤ r) (h1 : r ≤ 2147483647) (w : World) : Calls Tryz.prog 118 #[.string ⟨#[32, 9, 58]⟩, .int .i32 r] w fun e w' => e = .returned (.int .i64 (-1)) ∧ Below w.heap.size w w' := by
  have g0 : 0 ≤ r := by omega
  have g1 : ¬ r < 128 := by omega
  by_cases he : r = 65533
  · subst he
    have ki : ∀ p, Below w.heap.size w (w.iter ⟨#[32, 9, 58]⟩ p) := fun p => (Below.refl _ w).alloc (Nat.le_refl _) _
    go_enter Tryz.func118, Tryz.ntmps118
    go_wp2_with fail
    go_loopw [4] (fun v wr => v = .int .i64 0 ∧ ∃ p : Nat, p ≤ 3 ∧ wr = w.iter ⟨#[32, 9, 58]⟩ p) (fun _ wr => 3 - wr.iterPos w.heap.size)
    case atStart => exact ⟨rfl, 0, by omega, rfl⟩
    case round =>
      obtain ⟨rfl, p, hp, rfl⟩ := hrel
      have hps : p = 0 ∨ p = 1 ∨ p = 2 ∨ p = 3 := by omega
      rcases hps with rfl | rfl | rfl | rfl
      · have hn := fun ty => run_next_ascii (P := Tryz.prog) w ⟨#[32, 9, 58]⟩ 0 ty (by decide) (by decide)
        go_wp2_with fail
        go_roundw
        · exact ⟨rfl, 1, by omega, rfl⟩
        · simp
      · have hn := fun ty => run_next_ascii (P := Tryz.prog) w ⟨#[32, 9, 58]⟩ 1 ty (by decide) (by decide)
        go_wp2_with fail
        go_roundw
        · exact ⟨rfl, 2, by omega, rfl⟩
        · simp
      · have hn := fun ty => run_next_ascii (P := Tryz.prog) w ⟨#[32, 9, 58]⟩ 2 ty (by decide) (by decide)
        go_wp2_with fail
        go_roundw
        · exact ⟨rfl, 3, by omega, rfl⟩
        · simp
      · have hn := run_next_end (P := Tryz.prog) w ⟨#[32, 9, 58]⟩ 3
        go_wp2_with fail
        go_ret
        exact ⟨rfl, ki _⟩
  · have V := valid_any r
    have E := enc_high r h0
    go_enter Tryz.func118, Tryz.ntmps118
    go_wp2_with fail
    refine (V _).mono ?_
    rintro e w1 ⟨⟨b, rfl⟩, rfl⟩
    cases b
    · go_wp2_with fail
      go_ret
      exact ⟨rfl, Below.refl _ _⟩
    · have ne9 : ∀ b : UInt8, 128 ≤ b.toNat → ((9 : Int) != (b.toNat : Int)) = true := fun b hb => by simp; omega
      have ne58 : ∀ b : UInt8, 128 ≤ b.toNat → ((58 : Int) != (b.toNat : Int)) = true := fun b hb => by simp; omega
      have i1 : ∀ b : UInt8, 128 ≤ b.toNat → Lib.indexByte [58] ((b.toNat : Int)).toNat.toUInt8 = -1 := fun b hb => by
        have : ((58 : UInt8) == b) = false := by
          rw [beq_eq_false_iff_ne]; rintro rfl; simp at hb
        simp [Lib.indexByte, this]
      have i0 : ∀ b : UInt8, 128 ≤ b.toNat → Lib.indexByte [] ((b.toNat : Int)).toNat.toUInt8 = -1 := fun b hb => rfl
      clear V h1 g0 g1
      rcases E with ⟨b0, b1, hE, hb⟩ | ⟨b0, b1, b2, hE, hb⟩ | ⟨b0, b1, b2, b3, hE, hb⟩
      · have q1 : ((((⟨#[32, 9, 58]⟩ : ByteArray)[1]'(by decide)).toNat : Int) != (((⟨#[b0, b1]⟩ : ByteArray)[1]'(by exact (by decide : 1 < 2))).toNat : Int)) = true := ne9 _ hb
        have IB : ∀ w, Calls Tryz.prog 42 #[.string ⟨#[58]⟩, .int .u8 (((⟨#[b0, b1]⟩ : ByteArray)[1]'(by exact (by decide : 1 < 2))).toNat : Int)] w fun e w' => e = .returned (.int .i64 (-1)) ∧ w' = w := fun w => by
          have := ibyte_any [58] (b1.toNat : Int) w
          rw [i1 _ hb] at this
          exact this
        have wr2 : IntKind.i64.wrap 2 = 2 := by decide
        have wr3 : IntKind.i64.wrap 3 = 3 := by decide
        clear ne9 ne58 i1 i0
        go_wp2_with fail
        refine wp_scope_straight ?_
        go_wp2_with fail
        go_loopw [9] (fun v wr => v = .int .i64 1 ∧ wr = w1) (fun _ _ => 0)
        case atStart => exact ⟨rfl, rfl⟩
        case round =>
          obtain ⟨rfl, rfl⟩ := hrel
          go_wp2_with fail
          refine wp_scope_straight ?_
          go_wp2_with fail
          go_quiet (fail)
          go_wp2_with fail
          go_quiet ((go_at_call 42; exact (IB _).mono (fun _ _ ⟨h1, h2⟩ => ⟨h1, _, h2⟩)))
          go_wp2_with fail
          simp only [Exit.noGoto]
          first
          | go_ret
          | (go_wp2_with fail
             simp only [Exit.noGoto]
             go_ret)
          exact ⟨rfl, ⟨rfl, rfl, rfl, Nat.le_refl _, fun _ _ => rfl⟩⟩
      · have q1 : ((((⟨#[32, 9, 58]⟩ : ByteArray)[2]'(by decide)).toNat : Int) != (((⟨#[b0, b1, b2]⟩ : ByteArray)[2]'(by exact (by decide : 2 < 3))).toNat : Int)) = true := ne58 _ hb
        have IB : ∀ w, Calls Tryz.prog 42 #[.string ⟨#[]⟩, .int .u8 (((⟨#[b0, b1, b2]⟩ : ByteArray)[2]'(by exact (by decide : 2 < 3))).toNat : Int)] w fun e w' => e = .returned (.int .i64 (-1)) ∧ w' = w := fun w => by
          have := ibyte_any [] (b2.toNat : Int) w
          rw [i0 _ hb] at this
          exact this
        have wr2 : IntKind.i64.wrap 2 = 2 := by decide
        have wr3 : IntKind.i64.wrap 3 = 3 := by decide
        clear ne9 ne58 i1 i0
        go_wp2_with fail
        refine wp_scope_straight ?_
        go_wp2_with fail
        go_loopw [9] (fun v wr => v = .int .i64 2 ∧ wr = w1) (fun _ _ => 0)
        case atStart => exact ⟨rfl, rfl⟩
        case round =>
          obtain ⟨rfl, rfl⟩ := hrel
          go_wp2_with fail
          refine wp_scope_straight ?_
          go_wp2_with fail
          go_quiet (fail)
          go_wp2_with fail
          go_quiet ((go_at_call 42; exact (IB _).mono (fun _ _ ⟨h1, h2⟩ => ⟨h1, _, h2⟩)))
          go_wp2_with fail
          simp only [Exit.noGoto]
          first
          | go_ret
          | (go_wp2_with fail
             simp only [Exit.noGoto]
             go_ret)
          exact ⟨rfl, ⟨rfl, rfl, rfl, Nat.le_refl _, fun _ _ => rfl⟩⟩
      · go_wp2_with fail
        refine wp_scope_straight ?_
        go_wp2_with fail
        go_loopw [9] (fun v wr => v = .int .i64 3 ∧ wr = w1) (fun _ _ => 0)
        case atStart => exact ⟨rfl, rfl⟩
        case round =>
          obtain ⟨rfl, rfl⟩ := hrel
          go_wp2_with fail
          simp only [Exit.noGoto]
          first
          | go_ret
          | (go_wp2_with fail
             simp only [Exit.noGoto]
             go_ret)
          exact ⟨rfl, ⟨rfl, rfl, rfl, Nat.le_refl _, fun _ _ => rfl⟩⟩

/-- No sign of ASCII stands within a rune that begins with a byte of 128 or more. -/
theorem decode_skip (s : ByteArray) (pos : Nat) (h : pos < s.size) (ha : 128 ≤ (s[pos]'h).toNat) : pos + (Utf8.decode s pos).2 ≤ s.size ∧ ∀ k, 1 ≤ k → k < (Utf8.decode s pos).2 → 128 ≤ (s.get! (pos + k)).toNat := by
  have hn : ¬ (s[pos]'h).toNat < 128 := by omega
  simp only [Utf8.decode, get_at s pos h, hn, if_false]
  repeat' split
  all_goals simp_all
  all_goals first
    | (intro k h1 h2
       have hk : k = 1 ∨ k = 2 ∨ k = 3 := by omega
       rcases hk with rfl | rfl | rfl <;> omega)
    | (refine ⟨by omega, ?_⟩
       intro k h1 h2
       have hk : k = 1 ∨ k = 2 ∨ k = 3 := by omega
       rcases hk with rfl | rfl | rfl <;> omega)
theorem get_bang (s : ByteArray) (k : Nat) (h : k < s.size) : s.get! k = s[k]'h := get_at s k h
theorem not_c3 {b : UInt8} (h : 128 ≤ b.toNat) : ([32, 9, 58] : List UInt8).contains b = false := by
  have h1 : b ≠ 32 := by rintro rfl; simp at h
  have h2 : b ≠ 9 := by rintro rfl; simp at h
  have h3 : b ≠ 58 := by rintro rfl; simp at h
  simp [h1, h2, h3]

theorem irune_low (r : Int) (h0 : 0 ≤ r) (h1 : r < 128) (w : World) : Calls Tryz.prog 118 #[.string ⟨#[32, 9, 58]⟩, .int .i32 r] w fun e w' => e = .returned (.int .i64 (Lib.indexByte [32, 9, 58] r.toNat.toUInt8)) ∧ w' = w :=
  Any.strings_IndexRune_ascii { lays153 with } ⟨#[32, 9, 58]⟩ r w h0 h1
theorem useset_any (n : Int) (w : World) : Calls Tryz.prog 119 #[.int .i64 n] w fun e w' => e = .returned (.bool (decide (8 < n))) ∧ w' = w :=
  Any.strings_shouldUseASCIISet { lays153 with } n w

set_option maxRecDepth 100000 in
set_option maxHeartbeats 2000000 in
theorem iany_short (s : ByteArray) (w : World) (h8 : s.size ≤ 8) :
    Calls Tryz.prog 97 #[.string s, .string ⟨#[32, 9, 58]⟩] w fun e w' => e = .returned (.int .i64 (Lib.indexAny s.data.toList [32, 9, 58])) ∧ Below w.heap.size w w' := by
  have h8z : decide ((8 : Int) < (s.size : Int)) = false := decide_eq_false (by omega)
  go_enter Tryz.func97, Tryz.ntmps97
  go_wp2_with (go_at_call 119; refine (useset_any _ _).mono ?_; rintro e w' ⟨rfl, hw⟩; rw [hw, h8z])
  subst hw
  go_loopw [4] (fun v wr => v = .int .i64 0 ∧ ∃ p : Nat, p ≤ s.size ∧ wr.heap[w'.heap.size]? = some (.stringIter s p) ∧ Hid (Below w'.heap.size w' wr ∧ Lib.NoAny s.data.toList [32, 9, 58] p)) (fun _ wr => s.size - wr.iterPos w'.heap.size)
  case atStart => exact ⟨rfl, 0, by omega, World.iter_heap _ _ _, ⟨(Below.refl _ w').alloc (Nat.le_refl _) _, Lib.NoAny.zero _ _⟩⟩
  case round =>
    obtain ⟨rfl, p, hp, hit, hno⟩ := hrel
    have hpos : wr.iterPos w'.heap.size = p := by simp [World.iterPos, hit]
    by_cases hlt : p < s.size
    · obtain ⟨x, hx⟩ : ∃ x : UInt8, s[p]'hlt = x := ⟨_, rfl⟩
      have hxl : Hid (s.data.toList[p]? = some x) := by rw [← hx]; exact Lib.data_getElem? s p hlt
      by_cases hhi : 128 ≤ x.toNat
      · have hn := fun ty => Lib.run_next_any_at (P := Tryz.prog) wr w'.heap.size s p ty hit hlt
        have hr := (decode_high s p hlt (by rw [hx]; exact hhi)).1
        have hz1 := (decode_high s p hlt (by rw [hx]; exact hhi)).2
        have hle := decode_le s p
        obtain ⟨hs1, hs2⟩ := decode_skip s p hlt (by rw [hx]; exact hhi)
        have hno2 : Hid (Lib.NoAny s.data.toList [32, 9, 58] (p + (Utf8.decode s p).2)) := by
          intro j b hj hb
          by_cases hjp : j < p
          · exact hno.out.2 j b hjp hb
          · by_cases hje : j = p
            · subst hje
              rw [hxl.out] at hb
              cases hb
              exact not_c3 hhi
            · have := hs2 (j - p) (by omega) (by omega)
              rw [show p + (j - p) = j by omega, get_bang s j (by omega)] at this
              have hjl := Lib.data_getElem? s j (by omega)
              rw [hjl] at hb
              cases hb
              exact not_c3 this
        have IR := irune_high (Utf8.decode s p).1 (by omega) (by omega)
        have hB := Lib.below_iterAt hno.out.1 (Nat.le_refl _) s (p + (Utf8.decode s p).2)
        have hI := Lib.iterAt_heap wr w'.heap.size s p (p + (Utf8.decode s p).2) hit
        generalize (Utf8.decode s p).1 = r at *
        generalize (Utf8.decode s p).2 = z at *
        clear hs2 hno hxl
        generalize wr.iterAt w'.heap.size s (p + z) = W1 at *
        go_wp2_with fail
        refine (IR _).mono ?_
        rintro e w2 ⟨rfl, k2⟩
        have hI2 := (k2.block _ (lt_of_block hI)).trans hI
        have hB2 := hB.trans (k2.mono hB.size)
        have hpos2 : w2.iterPos w'.heap.size = p + z := by simp [World.iterPos, hI2]
        clear hn
        go_wp2_with fail
        go_roundw
        · exact ⟨rfl, p + z, hs1, hI2, ⟨hB2, hno2.out⟩⟩
        · rw [hpos2, hpos]; omega
      · have hn := fun ty => Lib.run_next_ascii_at (P := Tryz.prog) wr w'.heap.size s p ty hit hlt (by rw [hx]; omega)
        rw [hx] at hn
        have IR := irune_low (x.toNat : Int) (by omega) (by omega)
        have hback : ((x.toNat : Int)).toNat.toUInt8 = x := by simp
        rw [hback] at IR
        have hcon := Lib.contains_iff_indexByte [32, 9, 58] x
        have hB := Lib.below_iterAt hno.out.1 (Nat.le_refl _) s (p + 1)
        have hI := Lib.iterAt_heap wr w'.heap.size s p (p + 1) hit
        generalize wr.iterAt w'.heap.size s (p + 1) = W1 at *
        have hpos2 : W1.iterPos w'.heap.size = p + 1 := by simp [World.iterPos, hI]
        cases hin : ([32, 9, 58] : List UInt8).contains x
        · rw [hin] at hcon
          have hlt0 : ¬ ((0 : Int) ≤ Lib.indexByte [32, 9, 58] x) := of_decide_eq_false hcon.symm
          have hno2 : Hid (Lib.NoAny s.data.toList [32, 9, 58] (p + 1)) := hno.out.2.succ hxl.out hin
          generalize Lib.indexByte [32, 9, 58] x = ib at *
          clear hcon hin hno hxl
          go_wp2_with fail
          refine (IR _).mono ?_
          rintro e w2 ⟨rfl, hw2⟩
          subst hw2
          clear hn
          go_wp2_with fail
          go_roundw
          · exact ⟨rfl, p + 1, by omega, hI, ⟨hB, hno2.out⟩⟩
          · rw [hpos2, hpos]; omega
        · rw [hin] at hcon
          have hlt0 : (0 : Int) ≤ Lib.indexByte [32, 9, 58] x := of_decide_eq_true hcon.symm
          have hres : Hid (Lib.indexAny s.data.toList [32, 9, 58] = p) := Lib.indexAny_hit hno.out.2 hxl.out hin
          generalize Lib.indexByte [32, 9, 58] x = ib at *
          clear hcon hin hno hxl
          go_wp2_with fail
          refine (IR _).mono ?_
          rintro e w2 ⟨rfl, hw2⟩
          subst hw2
          clear hn
          go_wp2_with fail
          go_ret
          exact ⟨by rw [hres.out]; rfl, hB⟩
    · have hn := fun ty => Lib.run_next_end_at (P := Tryz.prog) wr w'.heap.size s p ty hit hlt
      obtain rfl : p = s.size := by omega
      have hres : Hid (Lib.indexAny s.data.toList [32, 9, 58] = -1) := Lib.indexAny_none (by rw [← Lib.size_eq]; exact hno.out.2)
      have hB := hno.out.1
      clear hno
      go_wp2_with fail
      go_ret
      exact ⟨by rw [hres.out]; rfl, hB⟩

theorem h172 : (Tryz.prog.info? (lays153_ren.t 116)).map (fun i => (i.zero, i.size)) = some (some (.agg (Array.replicate 256 (.bool false))), 256) := by kernel_rfl
/-- strings.IndexAny at the three signs, over any bytes. -/
theorem iany_any (l : List UInt8) (hl : l.length < 4294967281) (w : World) :
    Calls Tryz.prog 97 #[.string ⟨l.toArray⟩, .string ⟨#[32, 9, 58]⟩] w fun e w' => e = .returned (.int .i64 (Lib.indexAny l [32, 9, 58])) ∧ Below w.heap.size w w' := by
  have hs : (⟨l.toArray⟩ : ByteArray).size = l.length := by simp [ByteArray.size]
  by_cases h8 : l.length ≤ 8
  · exact iany_short ⟨l.toArray⟩ w (by omega)
  · refine (Any.strings_IndexAny_long lays153 (zero_of_info h172).1 (zero_of_info h172).2 ⟨l.toArray⟩ ⟨#[32, 9, 58]⟩ w (by decide) (by omega) (by omega) (by decide) (ascii_of_all (by decide))).mono fun e w' ⟨h1, h2⟩ => ⟨h1, ?_⟩
    rw [h2]
    exact ((Below.refl _ _).alloc (Nat.le_refl _) _).alloc (by simp) _
end Go.Proofs.YtppejcfghlpbjaaGreatDoor


/- Walks of next, isLetter, isLabel, targetPart (package asm), over what Go's library does. No statement of the seat is proved here. -/
namespace Go.Proofs.YtppejcfghlpbjaaGreatDoor
open Go.RowKit Go.Shelf

theorem size_of (l : List UInt8) : (⟨l.toArray⟩ : ByteArray).size = l.length := by simp [ByteArray.size]
theorem keeps_below {w w' : World} (h : Below w.heap.size w w') : Keeps (fun _ => False) w w' := Keeps.of_below h _

theorem trimLeft_any (l : List UInt8) (w : World) : Calls Tryz.prog 96 #[.string ⟨l.toArray⟩, .string ⟨#[32, 9]⟩] w fun e w' => e = .returned (.string ⟨(l.dropWhile blk).toArray⟩) ∧ Keeps (fun _ => False) w w' := by
  have h := Any.strings_TrimLeft_laid lays161 (by kernel_rfl) ⟨l.toArray⟩ ⟨#[32, 9]⟩ w (by decide) (ascii_of_all (by decide))
  have e : Lib.trimLeftS l [32, 9] = l.dropWhile blk := by
    unfold Lib.trimLeftS
    congr 1
    funext c
    simp [blk]
    rfl
  refine h.mono fun e' w' ⟨h1, h2⟩ => ⟨?_, keeps_below h2⟩
  rw [← e]; exact h1
theorem suffix_one (l : List UInt8) (c : UInt8) : Lib.hasSuffix l [c] = decide (l.getLast? = some c) := by
  unfold Lib.hasSuffix
  rcases List.eq_nil_or_concat l with rfl | ⟨x, d, rfl⟩
  · simp [List.isSuffixOf]
  · by_cases h : c = d
    · subst h; simp [List.isSuffixOf, List.isPrefixOf]
    · have h' : ¬ d = c := fun e => h e.symm
      simp [List.isSuffixOf, List.isPrefixOf, h, h']
def trimC (l : List UInt8) (c : UInt8) : List UInt8 := if l.getLast? = some c then l.dropLast else l
theorem trim_one (l : List UInt8) (c : UInt8) : Lib.trimSuffix l [c] = trimC l c := by
  unfold Lib.trimSuffix trimC
  rw [suffix_one]
  by_cases h : l.getLast? = some c
  · rw [if_pos (by simpa using h), if_pos h, List.dropLast_eq_take]; rfl
  · rw [if_neg (by simpa using h), if_neg h]
theorem trimSuffix_any (l : List UInt8) (hl : l.length < 4294967281) (w : World) : Calls Tryz.prog 71 #[.string ⟨l.toArray⟩, .string ⟨#[10]⟩] w fun e w' => e = .returned (.string ⟨(trimC l 10).toArray⟩) ∧ w' = w := by
  have h := Any.strings_TrimSuffix lays102 ⟨l.toArray⟩ ⟨#[10]⟩ w (by rw [size_of]; omega)
  rw [← trim_one]; exact h
theorem cutSuffix_any (l : List UInt8) (c : UInt8) (hl : l.length < 4294967281) (w : World) : Calls Tryz.prog 43 #[.string ⟨l.toArray⟩, .string ⟨#[c]⟩] w fun e w' => e = .returned (.tuple #[.string ⟨(trimC l c).toArray⟩, .bool (decide (l.getLast? = some c))]) ∧ w' = w := by
  have h := Any.strings_CutSuffix lays104 ⟨l.toArray⟩ ⟨#[c]⟩ w (by rw [size_of]; omega)
  rw [← trim_one, ← suffix_one]; exact h

/-- The first place of a byte. -/
theorem index_one (c : UInt8) : ∀ l : List UInt8, (Lib.index l [c] = -1 ∧ l.takeWhile (fun x => x != c) = l) ∨ ∃ i : Nat, Lib.index l [c] = i ∧ l.takeWhile (fun x => x != c) = l.take i ∧ i < l.length
  | [] => .inl ⟨by rfl, rfl⟩
  | d :: t => by
    by_cases hc : d = c
    · subst hc
      refine .inr ⟨0, ?_, by simp, by simp⟩
      exact Lib.index_first (i := 0) (Nat.zero_le _) (by simp [Lib.occAt]) (fun _ h => absurd h (Nat.not_lt_zero _))
    · have hno : Lib.NoOcc (d :: t) [c] 1 := fun j hj => by
        obtain rfl : j = 0 := by omega
        have hc' : ¬ c = d := fun h => hc h.symm
        simp [Lib.occAt, List.isPrefixOf, hc']
      have hd := Lib.index_drop hno (by simp)
      simp only [List.drop_succ_cons, List.drop_zero] at hd
      have ht : (d :: t).takeWhile (fun x => x != c) = d :: t.takeWhile (fun x => x != c) := by simp [hc]
      rcases index_one c t with ⟨h1, h2⟩ | ⟨i, h1, h2, h3⟩
      · exact .inl ⟨by rw [hd, h1]; rfl, by rw [ht, h2]⟩
      · refine .inr ⟨i + 1, ?_, by rw [ht, h2]; rfl, by simp; omega⟩
        rw [hd, h1, if_neg (by simp)]
        simp
theorem cut_one (l : List UInt8) (c : UInt8) : (Lib.cut l [c]).1 = l.takeWhile (fun x => x != c) := by
  unfold Lib.cut
  rcases index_one c l with ⟨h1, h2⟩ | ⟨i, h1, h2, h3⟩
  · rw [if_neg (by rw [h1]; decide), h2]
  · rw [if_pos (by rw [h1]; omega), h1, h2]; simp
/-- What the calls read of the program's variables, for Cut. -/
theorem Gl.max145 {w : World} (h : Gl w) : ∃ m, w.cell? ⟨lays145_ren.g 1, 0, none⟩ = some (.int .i64 m) := h.max
theorem cut59_any (l : List UInt8) (hl : l.length < 4294967281) (w : World) (hw : Gl w) : Calls Tryz.prog 44 #[.string ⟨l.toArray⟩, .string ⟨#[59]⟩] w fun e w' => (∃ x b, e = .returned (.tuple #[.string ⟨(l.takeWhile (fun c => c != 59)).toArray⟩, .string x, .bool b])) ∧ Keeps (fun _ => False) w w' := by
  obtain ⟨m, hm⟩ := hw.max145
  have h := Any.strings_Cut lays145 ⟨l.toArray⟩ ⟨#[59]⟩ m w (by rw [size_of]; omega) hm
  refine h.mono fun e w' ⟨h1, n, h2⟩ => ?_
  change e = .returned (.tuple #[.string ⟨(Lib.cut l [59]).1.toArray⟩, .string ⟨(Lib.cut l [59]).2.1.toArray⟩, .bool (Lib.cut l [59]).2.2]) at h1
  rw [cut_one] at h1
  exact ⟨⟨_, _, h1⟩, by rw [h2]; exact (Keeps.refl _ w).drewN n⟩

theorem nextW_no {l : List UInt8} (h : Lib.indexAny (l.dropWhile blk) [32, 9, 58] = -1) : nextW l = (l.dropWhile blk, []) := by
  unfold nextW
  refine wordOf_no _ ?_
  generalize l.dropWhile blk = m at h
  induction m with
  | nil => simp
  | cons c t ih =>
    unfold Lib.indexAny at h
    split at h
    · cases h
    · rename_i hc
      split at h
      · rename_i ht
        intro d hd
        rcases List.mem_cons.1 hd with rfl | hd
        · simp at hc; simp [brk, blk, hc]
        · exact ih (by simpa using ht) d hd
      · rename_i ht
        have := Lib.indexAny_ge [32, 9, 58] t
        simp at ht
        omega
theorem nextW_at {l : List UInt8} {i : Int} (h : Lib.indexAny (l.dropWhile blk) [32, 9, 58] = i) (h0 : 0 ≤ i) : ∃ hi : i.toNat < (l.dropWhile blk).length, brk ((l.dropWhile blk)[i.toNat]) = true ∧ nextW l = if (l.dropWhile blk)[i.toNat] = 58 then ((l.dropWhile blk).take (i.toNat + 1), (l.dropWhile blk).drop (i.toNat + 1)) else ((l.dropWhile blk).take i.toNat, (l.dropWhile blk).drop i.toNat) := by
  unfold nextW
  generalize l.dropWhile blk = m at h ⊢
  have key : ∀ (m : List UInt8) (i : Int), Lib.indexAny m [32, 9, 58] = i → 0 ≤ i → ∃ hi : i.toNat < m.length, brk (m[i.toNat]) = true ∧ ∀ j (hj : j < i.toNat), brk (m[j]'(by omega)) = false := by
    intro m
    induction m with
    | nil => intro i h h0; unfold Lib.indexAny at h; omega
    | cons c t ih =>
      intro i h h0
      unfold Lib.indexAny at h
      split at h
      · rename_i hc
        subst h
        refine ⟨by simp, ?_, fun j hj => by simp at hj⟩
        simp at hc
        rcases hc with rfl | rfl | rfl <;> rfl
      · rename_i hc
        split at h
        · omega
        · rename_i ht
          have hge := Lib.indexAny_ge [32, 9, 58] t
          simp at ht
          obtain ⟨h1, h2, h3⟩ := ih _ rfl (by omega)
          have e : i.toNat = (Lib.indexAny t [32, 9, 58]).toNat + 1 := by omega
          refine ⟨by rw [e]; simp; omega, ?_, fun j hj => ?_⟩
          · simp only [e, List.getElem_cons_succ]; exact h2
          · cases j with
            | zero => simp at hc; simp [brk, blk, hc]
            | succ j => simp only [List.getElem_cons_succ]; exact h3 j (by omega)
  obtain ⟨h1, h2, h3⟩ := key m i h h0
  exact ⟨h1, h2, wordOf_at m i.toNat h1 h3 h2⟩

theorem extract_take (l : List UInt8) (k : Nat) : (⟨l.toArray⟩ : ByteArray).extract 0 k = ⟨(l.take k).toArray⟩ := by
  apply ByteArray.ext; simp [ByteArray.data_extract]
theorem extract_drop (l : List UInt8) (k : Nat) : (⟨l.toArray⟩ : ByteArray).extract k l.length = ⟨(l.drop k).toArray⟩ := by
  apply ByteArray.ext
  simp only [ByteArray.data_extract, List.extract_toArray, List.extract_eq_take_drop]
  congr 1
  rw [List.take_of_length_le (by simp)]

set_option maxRecDepth 100000 in
set_option maxHeartbeats 2000000 in
theorem next_any (l : List UInt8) (hl : l.length < 4294967281) (w : World) : Calls Tryz.prog 72 #[.string ⟨l.toArray⟩] w fun e w' => e = .returned (.tuple #[.string ⟨(nextW l).1.toArray⟩, .string ⟨(nextW l).2.toArray⟩]) ∧ Keeps (fun _ => False) w w' := by
  have TL := trimLeft_any l w
  have hml : (l.dropWhile blk).length < 4294967281 := Nat.lt_of_le_of_lt (dropWhile_len blk l) hl
  have IA := iany_any (l.dropWhile blk) hml
  have hno := @nextW_no l
  have hat := @nextW_at l
  have hge := Lib.indexAny_ge [32, 9, 58] (l.dropWhile blk)
  generalize nextW l = nw at *
  generalize l.dropWhile blk = m at *
  generalize Lib.indexAny m [32, 9, 58] = i at *
  clear hl
  by_cases h0 : i < 0
  · have := hno (by omega)
    subst this
    clear hno hat hge
    go_enter Tryz.func72, Tryz.ntmps72
    go_wp2_with fail
    refine TL.mono ?_
    rintro e w1 ⟨rfl, k1⟩
    go_wp2_with fail
    refine (IA _).mono ?_
    rintro e w2 ⟨rfl, k2⟩
    have kk := k1.trans (keeps_below k2)
    go_wp2_with fail
    go_ret2
    exact ⟨rfl, kk⟩
  · obtain ⟨hi, hb, hnw⟩ := hat rfl (by omega)
    obtain ⟨k, rfl⟩ : ∃ k : Nat, i = k := ⟨i.toNat, by omega⟩
    simp only [Int.toNat_natCast] at hi hb hnw
    clear hno hat hge h0 hb
    have hs := size_of m
    have hkb : k < (⟨m.toArray⟩ : ByteArray).size := by omega
    have hki : (k : Int) < (m.length : Int) := by omega
    by_cases h58 : m[k] = 58
    · rw [if_pos h58] at hnw
      subst hnw
      have hx : (((⟨m.toArray⟩ : ByteArray)[k]'hkb).toNat : Int) = 58 := by rw [at_list m k hi, h58]; rfl
      have e1 := extract_take m (k + 1)
      have e2 := extract_drop m (k + 1)
      clear h58
      go_enter Tryz.func72, Tryz.ntmps72
      go_wp2_with fail
      refine TL.mono ?_
      rintro e w1 ⟨rfl, k1⟩
      go_wp2_with fail
      refine (IA _).mono ?_
      rintro e w2 ⟨rfl, k2⟩
      have kk := k1.trans (keeps_below k2)
      have hk1 : (k : Int) + 1 ≤ (m.length : Int) := by omega
      have hk0 : (0 : Int) ≤ (k : Int) + 1 := by omega
      go_wp2_with fail
      go_quiet (fail)
      go_wp2_with fail
      go_ret2
      exact ⟨rfl, kk.drewN _⟩
    · rw [if_neg h58] at hnw
      subst hnw
      have hx : ((((⟨m.toArray⟩ : ByteArray)[k]'hkb).toNat : Int) == 58) = false := by
        rw [at_list m k hi, beq_eq_false_iff_ne]
        intro h
        have h2 : (m[k]).toNat = 58 := by omega
        exact h58 (UInt8.toNat_inj.1 h2)
      have e1 := extract_take m k
      have e2 := extract_drop m k
      have hk1 : (k : Int) ≤ (m.length : Int) := by omega
      clear h58
      go_enter Tryz.func72, Tryz.ntmps72
      go_wp2_with fail
      refine TL.mono ?_
      rintro e w1 ⟨rfl, k1⟩
      go_wp2_with fail
      refine (IA _).mono ?_
      rintro e w2 ⟨rfl, k2⟩
      have kk := k1.trans (keeps_below k2)
      go_wp2_with fail
      go_quiet (fail)
      go_wp2_with fail
      go_ret2
      exact ⟨rfl, kk.drewN _⟩

theorem isLetter_any (c : UInt8) (w : World) : Calls Tryz.prog 121 #[.int .u8 c.toNat] w fun e w' => e = .returned (.bool (lowB c)) ∧ w' = w := by
  have hb : lowB c = decide ((97 : Int) ≤ c.toNat ∧ (c.toNat : Int) ≤ 122) := by unfold lowB; congr 1; simp; omega
  rw [hb]
  generalize (c.toNat : Int) = n at *
  by_cases h1 : 97 ≤ n
  · by_cases h2 : n ≤ 122
    · go_enter Tryz.func121, Tryz.ntmps121
      go_wp2
      go_ret
      exact ⟨by rw [decide_eq_true ⟨h1, h2⟩]; rfl, rfl⟩
    · go_enter Tryz.func121, Tryz.ntmps121
      go_wp2
      go_ret
      exact ⟨by rw [decide_eq_false (by omega)]; rfl, rfl⟩
  · go_enter Tryz.func121, Tryz.ntmps121
    go_wp2
    go_ret
    exact ⟨by rw [decide_eq_false (by omega)]; rfl, rfl⟩

theorem npost_namedN {l : List UInt8} {e : Ending} (h : NPost l e) : (∃ k : Nat, namedN l = some k ∧ 1 ≤ k ∧ k ≤ 17 ∧ e = .returned (.tuple #[.int .i64 k, .bool true])) ∨ (namedN l = none ∧ e = .returned (.tuple #[.int .i64 0, .bool false])) := by
  rcases h with ⟨k, h1, h2, h3, h4⟩ | ⟨h1, h2⟩
  · exact .inl ⟨k, namedN_yes h1 h2 h3, h1, h2, h4⟩
  · exact .inr ⟨namedN_no h1, h2⟩

/-- The rest of isLabel's answer, once all signs are looked at. -/
theorem labB_end {l : List UInt8} (h1 : 1 ≤ l.length ∧ l.length ≤ 64) (h2 : ((l.head?).map lowB).getD false = true) (h3 : ∀ c ∈ l, signB c = true) : labB l = (namedN l).isNone := by
  simp [labB, h1, h2, List.all_eq_true.2 h3]
theorem labB_bad {l : List UInt8} {k : Nat} (hk : k < l.length) (h : signB l[k] = false) : labB l = false := by
  cases hl : labB l with
  | false => rfl
  | true => rw [labB_sign hl _ (List.getElem_mem hk)] at h; cases h

set_option maxRecDepth 100000 in
set_option maxHeartbeats 2000000 in
theorem isLabel_any (l : List UInt8) (w : World) (hw : Nms w) : Calls Tryz.prog 98 #[.string ⟨l.toArray⟩] w fun e w' => e = .returned (.bool (labB l)) ∧ w' = w := by
  have hs := size_of l
  by_cases h0 : l = []
  · subst h0
    go_enter Tryz.func98, Tryz.ntmps98
    go_wp2_with fail
    go_ret
    exact ⟨rfl, rfl⟩
  · have hem : l.isEmpty = false := by cases l; exact absurd rfl h0; rfl
    have hemp : (ByteArray.toList ⟨l.toArray⟩ == []) = false := by simpa using h0
    have hpos := List.length_pos_iff.2 h0
    by_cases h64 : 64 < l.length
    · have hi : (64 : Int) < l.length := by omega
      have hr : labB l = false := by simp [labB]; omega
      rw [hr]
      go_enter Tryz.func98, Tryz.ntmps98
      go_wp2_with fail
      go_ret
      exact ⟨rfl, rfl⟩
    · have hi : ¬ (64 : Int) < l.length := by omega
      obtain ⟨c0, t0, hct⟩ : ∃ c t, l = c :: t := by
        cases l with
        | nil => exact absurd rfl h0
        | cons c t => exact ⟨c, t, rfl⟩
      have hhd : (l.head?).map lowB = some (lowB c0) := by rw [hct]; rfl
      have hb0 : (0 : Nat) < (⟨l.toArray⟩ : ByteArray).size := by omega
      have hc0 : (⟨l.toArray⟩ : ByteArray)[0]'hb0 = c0 := by rw [at_list l 0 hpos]; simp [hct]
      have IL := isLetter_any
      have L0 : ∀ w, Calls Tryz.prog 121 #[.int .u8 (((⟨l.toArray⟩ : ByteArray)[0]'hb0).toNat : Int)] w fun e w' => e = .returned (.bool (lowB c0)) ∧ w' = w := fun w => by rw [hc0]; exact isLetter_any c0 w
      clear hct hc0
      cases hlow : lowB c0
      · have hr : labB l = false := by simp [labB, hhd, hlow]
        rw [hr]
        rw [hlow] at L0
        clear IL hhd hlow hr
        go_enter Tryz.func98, Tryz.ntmps98
        go_wp2_with fail
        refine (L0 _).mono ?_
        rintro e w1 ⟨rfl, rfl⟩
        go_wp2_with fail
        go_ret
        exact ⟨rfl, rfl⟩
      · rw [hlow] at L0
        have hend : Hid ((∀ c ∈ l, signB c = true) → labB l = (namedN l).isNone) := labB_end ⟨by omega, by omega⟩ (by rw [hhd, hlow]; rfl)
        have NM := named_any l w hw
        clear hhd hlow
        go_enter Tryz.func98, Tryz.ntmps98
        go_wp2_with fail
        refine (L0 _).mono ?_
        rintro e w1 ⟨rfl, hw1⟩
        subst hw1
        clear L0
        go_wp2_with fail
        go_loopw [22] (fun v wr => ∃ k : Nat, v = .int .i64 k ∧ k ≤ l.length ∧ wr = w1 ∧ Hid (∀ c ∈ l.take k, signB c = true)) (fun v _ => l.length - (intOf v).toNat)
        case atStart => exact ⟨0, rfl, Nat.zero_le _, rfl, fun c hc => by simp at hc⟩
        case round =>
          obtain ⟨k, rfl, hk, rfl, hh⟩ := hrel
          by_cases hlt : k < l.length
          · have hki : (k : Int) < l.length := by omega
            have hbk : k < (⟨l.toArray⟩ : ByteArray).size := by omega
            have hck : (⟨l.toArray⟩ : ByteArray)[k]'hbk = l[k] := at_list l k hlt
            have hnext : Hid (signB l[k] = true → ∀ c ∈ l.take (k + 1), signB c = true) := fun hx c hc => by
              rw [List.take_succ_eq_append_getElem hlt] at hc
              rcases List.mem_append.1 hc with hc | hc
              · exact hh.out c hc
              · simp only [List.mem_singleton] at hc; subst hc; exact hx
            have hbad : Hid (signB l[k] = false → labB l = false) := fun hx => labB_bad hlt hx
            have LK : ∀ w, Calls Tryz.prog 121 #[.int .u8 (((⟨l.toArray⟩ : ByteArray)[k]'hbk).toNat : Int)] w fun e w' => e = .returned (.bool (lowB l[k])) ∧ w' = w := fun w => by rw [hck]; exact isLetter_any _ w
            rw [hck] at LK
            generalize l[k]'hlt = c at *
            have hcn : ∀ n : Nat, c = UInt8.ofNat n → n < 256 → c.toNat = n := fun n h h2 => by rw [h]; simp; omega
            clear IL hh hend NM
            cases hlo : lowB c
            · rw [hlo] at LK
              by_cases h48 : c.toNat < 48
              · have g1 : (c.toNat : Int) < 48 := by omega
                have g2 : ((c.toNat : Int) != 95) = true := by simp; omega
                have hsg : signB c = false := by
                  have : ¬ c = 95 := by rintro rfl; simp at h48
                  simp [signB, hlo, digB, this]; omega
                have hr := hbad.out hsg
                clear hnext hbad hcn hlo hsg
                go_wp2_with (go_at_call 121; refine (LK _).mono ?_; rintro e w' ⟨rfl, hw'⟩; replace hw' := hw'.symm; subst hw')
                go_ret
                exact ⟨by rw [hr]; rfl, rfl⟩
              · have g1 : ¬ (c.toNat : Int) < 48 := by omega
                by_cases h57 : 57 < c.toNat
                · have g2 : (57 : Int) < c.toNat := by omega
                  by_cases h95 : c = 95
                  · have g3 : ((c.toNat : Int) != 95) = false := by rw [h95]; rfl
                    have hn := hnext.out (by rw [h95]; rfl)
                    clear hnext hbad hcn hlo h95
                    go_wp2_with (go_at_call 121; refine (LK _).mono ?_; rintro e w' ⟨rfl, hw'⟩; replace hw' := hw'.symm; subst hw')
                    go_roundw
                    · exact ⟨k + 1, by simp, by omega, by first | rfl | trivial, hn⟩
                    · simp [intOf]; omega
                  · have g3 : ((c.toNat : Int) != 95) = true := by
                      simp only [bne_iff_ne, ne_eq]
                      intro h
                      exact h95 (UInt8.toNat_inj.1 (by simp; omega))
                    have hr := hbad.out (by simp [signB, hlo, digB, h95]; omega)
                    clear hnext hbad hcn hlo h95
                    go_wp2_with (go_at_call 121; refine (LK _).mono ?_; rintro e w' ⟨rfl, hw'⟩; replace hw' := hw'.symm; subst hw')
                    go_ret
                    exact ⟨by rw [hr]; rfl, rfl⟩
                · have g2 : ¬ (57 : Int) < c.toNat := by omega
                  have hn := hnext.out (by simp [signB, digB]; omega)
                  clear hnext hbad hcn hlo
                  go_wp2_with (go_at_call 121; refine (LK _).mono ?_; rintro e w' ⟨rfl, hw'⟩; replace hw' := hw'.symm; subst hw')
                  go_roundw
                  · exact ⟨k + 1, by simp, by omega, by first | rfl | trivial, hn⟩
                  · simp [intOf]; omega
            · rw [hlo] at LK
              have hn := hnext.out (by simp [signB, hlo])
              clear hnext hbad hcn hlo
              go_wp2_with (go_at_call 121; refine (LK _).mono ?_; rintro e w' ⟨rfl, hw'⟩; replace hw' := hw'.symm; subst hw')
              go_roundw
              · exact ⟨k + 1, by simp, by omega, by first | rfl | trivial, hn⟩
              · simp [intOf]; omega
          · obtain rfl : k = l.length := by omega
            have hr := hend.out (by simpa using hh.out)
            clear hend hh
            go_wp2_with fail
            refine NM.mono ?_
            rintro e w2 ⟨hNP, hw2⟩
            subst hw2
            rcases npost_namedN hNP with ⟨q, hq, h1, h2, rfl⟩ | ⟨hq, rfl⟩
            · rw [hq] at hr
              clear hNP hq
              go_wp2_with fail
              go_ret
              exact ⟨by rw [hr]; rfl, rfl⟩
            · rw [hq] at hr
              clear hNP hq
              go_wp2_with fail
              go_ret
              exact ⟨by rw [hr]; rfl, rfl⟩

def tpartI (h : List UInt8) : Int := match tpart h with
  | none => -1
  | some k => k
set_option maxRecDepth 100000 in
set_option maxHeartbeats 2000000 in
theorem targetPart_any (l : List UInt8) (w : World) (hw : Nms w) : Calls Tryz.prog 100 #[.string ⟨l.toArray⟩] w fun e w' => e = .returned (.int .i64 (tpartI l)) ∧ Keeps (fun _ => False) w w' := by
  have NM := named_any l w hw
  go_enter Tryz.func100, Tryz.ntmps100
  go_wp2_with fail
  refine NM.mono ?_
  rintro e w1 ⟨hNP, hw1⟩
  subst hw1
  rcases npost_namedN hNP with ⟨q, hq, h1, h2, rfl⟩ | ⟨hq, rfl⟩
  · have I := info_yes (q : Int) (by omega) (by omega)
    have hr := (regsN_le (op := (q : Int)) (by omega) (by omega)).1
    have ht : Hid (tpartI l = if tgtB q then ((regsN q + 1 : Nat) : Int) else -1) := by
      unfold Hid tpartI tpart
      rw [hq]
      dsimp only
      cases tgtB q <;> rfl
    clear hNP hq NM
    generalize regsN (q : Int) = r at *
    generalize numB (q : Int) = nb at *
    generalize tgtB (q : Int) = tb at *
    generalize outB (q : Int) = ob at *
    generalize insB (q : Int) = ib at *
    go_wp2_with fail
    refine (I _).mono ?_
    rintro e w2 ⟨rfl, k2⟩
    have k3 := k2.alloc (.cells #[.int .i64 r, .bool nb, .bool tb, .bool ob, .bool ib] 117)
    clear I
    cases tb
    · go_wp2_with fail
      go_ret
      exact ⟨by rw [ht.out]; rfl, k3⟩
    · go_wp2_with fail
      go_ret
      exact ⟨by rw [ht.out]; simp, k3⟩
  · have I := info_no (0 : Int) (by omega)
    have ht : Hid (tpartI l = -1) := by
      unfold Hid tpartI tpart
      rw [hq]
    clear hNP hq NM
    go_wp2_with fail
    refine (I _).mono ?_
    rintro e w2 ⟨rfl, k2⟩
    have k3 := k2.alloc (.cells #[.int .i64 0, .bool false, .bool false, .bool false, .bool false] 117)
    clear I
    go_wp2_with fail
    go_ret
    exact ⟨by rw [ht.out]; rfl, k3⟩
end Go.Proofs.YtppejcfghlpbjaaGreatDoor


/-
  A statement that leaves its order open, inside a round of a loop over an iterator, at the wide fence: what holds of it outside a round holds of it there. No statement of the seat is proved here.
-/
namespace Go.Proofs.YtppejcfghlpbjaaGreatDoor
open Go.RowKit

theorem alloc_block (w : World) (o : Obj) : (w.alloc o).heap[w.heap.size]? = some o := (MapKept.heap_alloc w o).1
theorem alloc_old {w : World} {k : Nat} {o : Obj} (h : w.heap[k]? = some o) (o' : Obj) : (w.alloc o').heap[k]? = some o := (Below.heap_alloc _ _ _ (lt_of_block h)).trans h
/-- No operation defers. -/
def noDefer (ops : Array Oper) : Bool := ops.all fun o => match o.op with | .defer _ => false | _ => true
theorem noDefer_spec {ops : Array Oper} (h : noDefer ops = true) {i : Nat} {o : Oper} (ho : ops[i]? = some o) : ∀ c, o.op ≠ .defer c := fun c e => by
  obtain ⟨hi, rfl⟩ := Array.getElem?_eq_some_iff.1 ho
  have := Array.all_eq_true.1 h i hi
  rw [e] at this
  simp at this

section
variable {n l : Nat} {P : Program} {ops : Array Oper} {Q : Exit → Act → World → Prop} {md : Region.Mode}

theorem rowsIn_wide_round {row : String} {args : Array Value} {w : World} {R : Value → World → Prop} (h : Rows P row args w R) : RowsIn (Fence.wide.inRound l) n P row args w R :=
  fun c cs _ => let ⟨v, w', r, s⟩ := h c cs; ⟨v, w', r, stepsIn_wide.2 s⟩

theorem wpIn_of_wp_round {o : Oper} (hd : ∀ c, o.op ≠ .defer c) {a : Act} {w : World} {K : Act → World → Prop} (h : o.wp P a w K Q) : o.wpIn (Fence.wide.inRound l) n P a w K Q := by
  refine ⟨fun _ _ => trivial, ?_⟩
  unfold Oper.wp at h
  rw [show o.semAt (Fence.wide.inRound l).round a.eval = execOp a.eval o from Oper.semAt_eq _ _ _ hd]
  generalize (execOp a.eval o).run P w = r at h ⊢
  cases r with
  | ok x w' =>
    cases x <;> simp only [Oper.upon] at h <;> simp only [Oper.uponIn]
    case value v => exact h
    case skip => exact h
    case defer d => exact h
    case enter f args => exact ⟨fun e => (by cases e), CallsIn.inRound l (callsIn_wide.2 h)⟩
    case row row args => exact ⟨fun e => (by cases e), rowsIn_wide_round h⟩
  | halt x w' =>
    cases x <;> simp only [Oper.upon] at h <;> simp only [Oper.uponIn]
    case panic v => exact h

theorem wpAnyIn_round (hd : noDefer ops = true) (hq : ¬ LetsOut Q) : ∀ (fuel : Nat) (listed : Array Bool) (a : Act) (w : World), wpAny P md ops Q fuel listed a w → wpAnyIn (Fence.wide.inRound l) n P md ops Q fuel listed a w
  | 0, _, _, _, h => h
  | fuel + 1, listed, a, w, h => ⟨h.1, fun i hi => by
      have h1 := h.2 i hi
      unfold wpOp at h1
      unfold wpOpIn
      cases ho : ops[i]? with
      | none =>
        simp only [ho] at h1
        exact wpAnyIn_round hd hq fuel _ _ _ h1
      | some o =>
        simp only [ho] at h1
        by_cases hw : Region.wanted o (yielded ops a.tmps) = true
        · simp only [hw, if_true] at h1 ⊢
          rcases h1 with h1 | ⟨_, h1⟩
          · exact Oper.wpIn_mono (fun a' w' h2 => wpAnyIn_round hd hq fuel _ a' w' h2) (wpIn_of_wp_round (noDefer_spec hd ho) h1)
          · exact (hq h1).elim
        · simp only [hw] at h1 ⊢
          exact ⟨fun _ _ => trivial, wpAnyIn_round hd hq fuel _ _ _ h1⟩⟩

/-- At its normal end alone. -/
def atEnd (K : Act → World → Prop) : Exit → Act → World → Prop
  | .normal, a, w => K a w
  | _, _, _ => False

theorem wpIn_round_any {id : Nat} {a : Act} {w : World} (hm : P.follows .mixedOrders = true) (hd : noDefer ops = true)
    (h : wpAny P .any ops (atEnd (Q .normal)) ops.size (Array.replicate ops.size false) a { w with drawn := w.drawn + 1 }) : (Code.region id ops true).wpIn (Fence.wide.inRound l) n P Q a w :=
  wpIn_mono (wpIn_region_any hm (wpAnyIn_round hd (fun ⟨_, _, f⟩ => f) _ _ _ _ h)) (fun e a w h => by cases e <;> first | exact h | exact h.elim)

/-- A region whose operations only read, in a round: one walk in the order of the text. -/
theorem wpIn_round_quiet {id : Nat} {a : Act} {w : World} {L : List Oper} (hm : P.follows .mixedOrders = true) (hd : noDefer L.toArray = true) (hB : Region.lexB .any L.toArray = true)
    (h : wpQuiet P L.toArray (fun w' => ∃ m, w' = w.drewN m) (fun a' => ∀ w', (∃ m, w' = w.drewN m) → Q .normal a' w') L a) : (Code.region id L.toArray true).wpIn (Fence.wide.inRound l) n P Q a w := by
  simp only [Region.lexB, Bool.and_eq_true] at hB
  refine wpIn_round_any hm hd (wpAny_of_quiet (C := fun w' => ∃ m, w' = w.drewN m) (Q' := atEnd (Q .normal)) (Q := fun a' => ∀ w', (∃ m, w' = w.drewN m) → Q .normal a' w') (fun _ w' hw' h => h w' hw') _ _ _ _ ⟨1, rfl⟩ ?_)
  have := wpAnyQ_lex (C := fun w' => ∃ m, w' = w.drewN m) (md := .any) hB.1 L 0 (Array.replicate L.toArray.size false) a (by simp) (by simpa using hB.2) h
  simpa using this
end

end Go.Proofs.YtppejcfghlpbjaaGreatDoor


/-
  A statement that leaves its order open, inside a round: its loads taken first. No statement of the seat is proved here.
-/
namespace Go.Proofs.YtppejcfghlpbjaaGreatDoor
open Go.RowKit
section
variable {n l : Nat} {P : Program} {ops : Array Oper} {Q : Exit → Act → World → Prop} {md : Region.Mode}

/-- A region in a round, its loads taken first under S. -/
theorem wpIn_round_held {id : Nat} {a : Act} {w : World} {S : World → Prop} (N : Nat) (hN : ops.size = N) (hm : P.follows .mixedOrders = true) (hd : noDefer ops = true)
    (h : wpAnyH P .any ops (atEnd (Q .normal)) S N (Array.replicate N false) a w.drew) : (Code.region id ops true).wpIn (Fence.wide.inRound l) n P Q a w := by
  subst hN
  exact wpIn_round_any hm hd (wpAny_of_held _ _ _ _ h)
/-- Take number i first, into slot d. -/
theorem held_take {S : World → Prop} {i : Nat} {oi : Oper} {v : Value} {K : Act → World → Prop} {fuel : Nat} {listed : Array Bool} {a : Act} {w : World} (d : Nat) (hi : ops[i]? = some oi) (hdst : oi.dst = some d)
    (hs : Region.noSelect ops = true) (hf : Region.free md ops listed i = true) (hr : (Region.ready md ops listed).contains i = true) (hw : Region.wanted oi (yielded ops a.tmps) = true)
    (hy : ∀ w', S w' → (execOp a.eval oi).run P w' = .ok (.value v) w') (hS : S w)
    (h : wpAnyH P md ops (atEnd K) S fuel (listed.setIfInBounds i true) (a.put (some d) v) w) : wpAnyH P md ops (atEnd K) S (fuel + 1) listed a w :=
  wpAnyH_take hi hs hf hr (fun _ _ _ h => h.elim) (.inl ⟨hw, hy⟩) hS (by rw [hdst]; exact h)

/-- One operation that comes up alone. -/
theorem held_one {S : World → Prop} {i : Nat} {o : Oper} {fuel : Nat} {listed : Array Bool} {a : Act} {w : World} {K : Act → World → Prop} (hr : Region.ready md ops listed = [i]) (ho : ops[i]? = some o) (hw : Region.wanted o (yielded ops a.tmps) = true)
    (h : o.wp P a w (fun a' w' => S w' ∧ wpAnyH P md ops (atEnd K) S fuel (listed.setIfInBounds i true) a' w') (atEnd K)) : wpAnyH P md ops (atEnd K) S (fuel + 1) listed a w :=
  wpAnyH_all hr (by simp) (fun j hj => by
    obtain rfl : j = i := by simpa using hj
    unfold wpOp
    simp only [ho, hw, if_true]
    exact .inl h)

/-- A call that comes up alone, into slot d. -/
theorem held_call {S : World → Prop} {i : Nat} {o : Oper} {f : Nat} {args : Array Value} {fuel : Nat} {listed : Array Bool} {a : Act} {w : World} {K : Act → World → Prop} (d : Nat) (hr : Region.ready md ops listed = [i]) (ho : ops[i]? = some o) (hdst : o.dst = some d) (hw : Region.wanted o (yielded ops a.tmps) = true)
    (hrun : (execOp a.eval o).run P w = .ok (.enter f args) w) (h : Calls P f args w fun e w' => ∃ v, e = .returned v ∧ S w' ∧ wpAnyH P md ops (atEnd K) S fuel (listed.setIfInBounds i true) (a.put (some d) v) w') : wpAnyH P md ops (atEnd K) S (fuel + 1) listed a w := by
  refine held_one hr ho hw ?_
  unfold Oper.wp
  rw [hrun]
  show Calls P f args w _
  refine h.mono ?_
  rintro e w' ⟨v, rfl, h1, h2⟩
  exact ⟨h1, by rw [hdst]; exact h2⟩
theorem held_end {S : World → Prop} {listed : Array Bool} {a : Act} {w : World} {K : Act → World → Prop} (hr : Region.ready md ops listed = []) (h : K a w) (fuel : Nat) : wpAnyH P md ops (atEnd K) S fuel listed a w := wpAnyH_done hr h fuel

/-- One operation that comes up alone and yields a value. -/
theorem any_val {i : Nat} {o : Oper} {v : Value} {w' : World} {fuel : Nat} {listed : Array Bool} {a : Act} {w : World} {K : Act → World → Prop} (d : Option Nat) (hr : Region.ready md ops listed = [i]) (ho : ops[i]? = some o) (hdst : o.dst = d)
    (hw : Region.wanted o (yielded ops a.tmps) = true) (hrun : (execOp a.eval o).run P w = .ok (.value v) w') (h : wpAny P md ops (atEnd K) fuel (listed.setIfInBounds i true) (a.put d v) w') : wpAny P md ops (atEnd K) (fuel + 1) listed a w :=
  wpAny_all hr (by simp) (fun j hj => by
    obtain rfl : j = i := by simpa using hj
    unfold wpOp
    simp only [ho, hw, if_true]
    refine .inl ?_
    unfold Oper.wp
    rw [hrun]
    show wpAny P md ops (atEnd K) fuel _ (a.put o.dst v) w'
    rw [hdst]
    exact h)
/-- One operation that comes up alone and yields nothing. -/
theorem any_skip {i : Nat} {o : Oper} {w' : World} {fuel : Nat} {listed : Array Bool} {a : Act} {w : World} {K : Act → World → Prop} (hr : Region.ready md ops listed = [i]) (ho : ops[i]? = some o) (hdst : o.dst = none)
    (hw : Region.wanted o (yielded ops a.tmps) = true) (hrun : (execOp a.eval o).run P w = .ok .skip w') (h : wpAny P md ops (atEnd K) fuel (listed.setIfInBounds i true) a w') : wpAny P md ops (atEnd K) (fuel + 1) listed a w :=
  wpAny_all hr (by simp) (fun j hj => by
    obtain rfl : j = i := by simpa using hj
    unfold wpOp
    simp only [ho, hw, if_true]
    refine .inl ?_
    unfold Oper.wp
    rw [hrun]
    show wpAny P md ops (atEnd K) fuel _ (a.put o.dst undef) w'
    rw [hdst]
    exact h)
/-- Two that may come up. -/
theorem any_val2 {i j : Nat} {oi oj : Oper} {vi vj : Value} {wi wj : World} {fuel : Nat} {listed : Array Bool} {a : Act} {w : World} {K : Act → World → Prop} (di dj : Option Nat) (hr : Region.ready md ops listed = [i, j]) (hoi : ops[i]? = some oi) (hoj : ops[j]? = some oj) (hdi : oi.dst = di) (hdj : oj.dst = dj)
    (hwi : Region.wanted oi (yielded ops a.tmps) = true) (hwj : Region.wanted oj (yielded ops a.tmps) = true) (hri : (execOp a.eval oi).run P w = .ok (.value vi) wi) (hrj : (execOp a.eval oj).run P w = .ok (.value vj) wj)
    (h1 : wpAny P md ops (atEnd K) fuel (listed.setIfInBounds i true) (a.put di vi) wi) (h2 : wpAny P md ops (atEnd K) fuel (listed.setIfInBounds j true) (a.put dj vj) wj) : wpAny P md ops (atEnd K) (fuel + 1) listed a w :=
  wpAny_all hr (by simp) (fun k hk => by
    have hk : k = i ∨ k = j := by simpa using hk
    rcases hk with rfl | rfl
    · unfold wpOp
      simp only [hoi, hwi, if_true]
      refine .inl ?_
      unfold Oper.wp
      rw [hri]
      show wpAny P md ops (atEnd K) fuel _ (a.put oi.dst vi) wi
      rw [hdi]
      exact h1
    · unfold wpOp
      simp only [hoj, hwj, if_true]
      refine .inl ?_
      unfold Oper.wp
      rw [hrj]
      show wpAny P md ops (atEnd K) fuel _ (a.put oj.dst vj) wj
      rw [hdj]
      exact h2)
/-- Take number i first, which yields whatever the world. -/
theorem any_take {i : Nat} {oi : Oper} {v : Value} {K : Act → World → Prop} {fuel : Nat} {listed : Array Bool} {a : Act} {w : World} (d : Nat) (hi : ops[i]? = some oi) (hdst : oi.dst = some d)
    (hs : Region.noSelect ops = true) (hf : Region.free md ops listed i = true) (hr : (Region.ready md ops listed).contains i = true) (hw : Region.wanted oi (yielded ops a.tmps) = true)
    (hy : ∀ w', (execOp a.eval oi).run P w' = .ok (.value v) w')
    (h : wpAny P md ops (atEnd K) fuel (listed.setIfInBounds i true) (a.put (some d) v) w) : wpAny P md ops (atEnd K) (fuel + 1) listed a w :=
  wpAny_take hi hs hf hr (fun _ _ _ h => h.elim) (.inl ⟨hw, hy⟩) (by rw [hdst]; exact h)
theorem any_end {listed : Array Bool} {a : Act} {w : World} {K : Act → World → Prop} (hr : Region.ready md ops listed = []) (h : K a w) (fuel : Nat) : wpAny P md ops (atEnd K) fuel listed a w := wpAny_done hr h fuel

theorem wpIn_round_anyN {id : Nat} {a : Act} {w : World} (N : Nat) (hN : ops.size = N) (hm : P.follows .mixedOrders = true) (hd : noDefer ops = true)
    (h : wpAny P .any ops (atEnd (Q .normal)) N (Array.replicate N false) a w.drew) : (Code.region id ops true).wpIn (Fence.wide.inRound l) n P Q a w := by
  subst hN
  exact wpIn_round_any hm hd h
theorem run_append_op {o : Oper} {a : Act} {w w' : World} {s x : Operand} {t : TypeId} {v y v' : Value} (hop : o.op = Op.call { callee := Callee.builtin Builtin.append, args := #[s, x], argTypes := #[t, t] }) (hs : a.eval s = v) (hx : a.eval x = y)
    (hrun : (Builtin.append_ #[t, t] o.type #[v, y]).run P w = .ok v' w') : (execOp a.eval o).run P w = .ok (.value v') w' := by
  simp [execOp, hop, resolve, invoke, builtin, hs, hx, hrun, Result.andThen]

/-- One operation that comes up alone and yields a value, under S. -/
theorem held_val {S : World → Prop} {i : Nat} {o : Oper} {v : Value} {w' : World} {fuel : Nat} {listed : Array Bool} {a : Act} {w : World} {K : Act → World → Prop} (d : Option Nat) (hr : Region.ready md ops listed = [i]) (ho : ops[i]? = some o) (hdst : o.dst = d)
    (hw : Region.wanted o (yielded ops a.tmps) = true) (hrun : (execOp a.eval o).run P w = .ok (.value v) w') (hS : S w') (h : wpAnyH P md ops (atEnd K) S fuel (listed.setIfInBounds i true) (a.put d v) w') : wpAnyH P md ops (atEnd K) S (fuel + 1) listed a w := by
  refine held_one hr ho hw ?_
  unfold Oper.wp
  rw [hrun]
  show S w' ∧ wpAnyH P md ops (atEnd K) S fuel _ (a.put o.dst v) w'
  rw [hdst]
  exact ⟨hS, h⟩
theorem held_none {S : World → Prop} {i : Nat} {o : Oper} {w' : World} {fuel : Nat} {listed : Array Bool} {a : Act} {w : World} {K : Act → World → Prop} (hr : Region.ready md ops listed = [i]) (ho : ops[i]? = some o) (hdst : o.dst = none)
    (hw : Region.wanted o (yielded ops a.tmps) = true) (hrun : (execOp a.eval o).run P w = .ok .skip w') (hS : S w') (h : wpAnyH P md ops (atEnd K) S fuel (listed.setIfInBounds i true) a w') : wpAnyH P md ops (atEnd K) S (fuel + 1) listed a w := by
  refine held_one hr ho hw ?_
  unfold Oper.wp
  rw [hrun]
  show S w' ∧ wpAnyH P md ops (atEnd K) S fuel _ (a.put o.dst undef) w'
  rw [hdst]
  exact ⟨hS, h⟩
theorem held_val2 {S : World → Prop} {i j : Nat} {oi oj : Oper} {vi vj : Value} {wi wj : World} {fuel : Nat} {listed : Array Bool} {a : Act} {w : World} {K : Act → World → Prop} (di dj : Option Nat) (hr : Region.ready md ops listed = [i, j]) (hoi : ops[i]? = some oi) (hoj : ops[j]? = some oj) (hdi : oi.dst = di) (hdj : oj.dst = dj)
    (hwi : Region.wanted oi (yielded ops a.tmps) = true) (hwj : Region.wanted oj (yielded ops a.tmps) = true) (hri : (execOp a.eval oi).run P w = .ok (.value vi) wi) (hrj : (execOp a.eval oj).run P w = .ok (.value vj) wj) (hSi : S wi) (hSj : S wj)
    (h1 : wpAnyH P md ops (atEnd K) S fuel (listed.setIfInBounds i true) (a.put di vi) wi) (h2 : wpAnyH P md ops (atEnd K) S fuel (listed.setIfInBounds j true) (a.put dj vj) wj) : wpAnyH P md ops (atEnd K) S (fuel + 1) listed a w :=
  wpAnyH_all hr (by simp) (fun k hk => by
    have hk : k = i ∨ k = j := by simpa using hk
    rcases hk with rfl | rfl
    · unfold wpOp
      simp only [hoi, hwi, if_true]
      refine .inl ?_
      unfold Oper.wp
      rw [hri]
      show S wi ∧ wpAnyH P md ops (atEnd K) S fuel _ (a.put oi.dst vi) wi
      rw [hdi]
      exact ⟨hSi, h1⟩
    · unfold wpOp
      simp only [hoj, hwj, if_true]
      refine .inl ?_
      unfold Oper.wp
      rw [hrj]
      show S wj ∧ wpAnyH P md ops (atEnd K) S fuel _ (a.put oj.dst vj) wj
      rw [hdj]
      exact ⟨hSj, h2⟩)
end

end Go.Proofs.YtppejcfghlpbjaaGreatDoor


/- Labels in a map; what has been read of a text, as it lies in memory. No statement of the seat is proved here. -/
namespace Go.Proofs.YtppejcfghlpbjaaGreatDoor
open Go.RowKit Go.Shelf

theorem wp_held_end {P : Program} {ops : Array Oper} {Q : Exit → Act → World → Prop} {id : Nat} {a : Act} {w : World} {S : World → Prop} (N : Nat) (hN : ops.size = N) (hm : P.follows .mixedOrders = true)
    (h : wpAnyH P .any ops (atEnd (Q .normal)) S N (Array.replicate N false) a w.drew) : (Code.region id ops true).wp P Q a w := by
  subst hN
  exact Code.wp_mono (fun e a w h => by cases e <;> first | exact h | exact h.elim) (wp_region_held hm h)

def keyV (l : List UInt8) : Value := .string ⟨l.toArray⟩
/-- Labels in a map. -/
structure MpAt (w : World) (m : Nat) (L : List (List UInt8 × Nat)) : Prop where
  ex : ∃ es clock, w.heap[m]? = some (.map es clock) ∧ es.toList.map (fun x => (x.key, x.val)) = L.map fun p => (keyV p.1, Value.int .i64 (p.2 : Int))
  nodup : (L.map (·.1)).Nodup
theorem keyV_inj {a b : List UInt8} (h : keyV a = keyV b) : a = b := by
  have : (⟨a.toArray⟩ : ByteArray) = ⟨b.toArray⟩ := by unfold keyV at h; injection h
  have h2 := congrArg (fun x : ByteArray => x.data.toList) this
  simpa using h2
theorem MpAt.keeps {w w' : World} {S : Nat → Prop} {m : Nat} {L : List (List UInt8 × Nat)} (h : MpAt w m L) (k : Keeps S w w') (hs : ¬ S m) : MpAt w' m L := by
  obtain ⟨es, clock, h1, h2⟩ := h.ex
  exact ⟨⟨es, clock, (k.block m (lt_of_block h1) hs).trans h1, h2⟩, h.nodup⟩
theorem mem_entries {es : List MapEntry} {L : List (List UInt8 × Nat)} (h : es.map (fun x => (x.key, x.val)) = L.map fun p => (keyV p.1, Value.int .i64 (p.2 : Int))) {x : MapEntry} (hx : x ∈ es) : ∃ p ∈ L, x.key = keyV p.1 ∧ x.val = .int .i64 (p.2 : Int) := by
  have : (x.key, x.val) ∈ es.map (fun x => (x.key, x.val)) := List.mem_map.2 ⟨x, hx, rfl⟩
  rw [h] at this
  obtain ⟨p, h1, h2⟩ := List.mem_map.1 this
  exact ⟨p, h1, (Prod.mk.inj h2).1.symm, (Prod.mk.inj h2).2.symm⟩
theorem lookup_mem {L : List (List UInt8 × Nat)} (hn : (L.map (·.1)).Nodup) {p : List UInt8 × Nat} (hp : p ∈ L) : L.lookup p.1 = some p.2 := by
  induction L with
  | nil => simp at hp
  | cons q L ih =>
    simp only [List.map_cons, List.nodup_cons] at hn
    rcases List.mem_cons.1 hp with rfl | hp2
    · obtain ⟨a, b⟩ := p; simp [List.lookup]
    · obtain ⟨a, b⟩ := q
      have : (p.1 == a) = false := by
        rw [beq_eq_false_iff_ne]
        rintro rfl
        exact hn.1 (List.mem_map.2 ⟨p, hp2, rfl⟩)
      rw [List.lookup, this]
      exact ih hn.2 hp2
theorem lookup_none {L : List (List UInt8 × Nat)} {x : List UInt8} (h : x ∉ L.map (·.1)) : L.lookup x = none := by
  rw [List.lookup_eq_none_iff]
  intro p hp
  simp only [bne_iff_ne, ne_eq]
  rintro rfl
  exact h (List.mem_map.2 ⟨p, hp, rfl⟩)
theorem isKeys {es : List MapEntry} {L : List (List UInt8 × Nat)} (h : es.map (fun x => (x.key, x.val)) = L.map fun p => (keyV p.1, Value.int .i64 (p.2 : Int))) : ∀ x ∈ es, MapKept.IsKey .string x.key := fun x hx => by
  obtain ⟨p, _, h1, _⟩ := mem_entries h hx
  rw [h1]; exact trivial
/-- What a look into the map tells. -/
def lookV (L : List (List UInt8 × Nat)) (x : List UInt8) : Value := match L.lookup x with
  | some p => .tuple #[.int .i64 (p : Int), .bool true]
  | none => .tuple #[.int .i64 0, .bool false]
theorem MpAt.look {w : World} {m : Nat} {L : List (List UInt8 × Nat)} (h : MpAt w m L) (x : List UInt8) : (Instr.lookup 79 (.map (some m)) (.string ⟨x.toArray⟩) true).run Tryz.prog w = .ok (lookV L x) w := by
  obtain ⟨es, clock, h1, h2⟩ := h.ex
  have hk : MapKept.IsKey .string (keyV x) := trivial
  have hgo := MapKept.run_getObj_map (P := Tryz.prog) h1
  have hck := fun e => MapKept.run_checkKey (P := Tryz.prog) (w := w) Tryz.underlying9 hk e 9999
  unfold lookV
  rcases MapKept.findNow_spec hk es.toList 0 (isKeys h2) with ⟨f1, f2⟩ | ⟨j, e, f1, f2, f3⟩
  · have hx : x ∉ L.map (·.1) := fun hm => by
      obtain ⟨p, hp, rfl⟩ := List.mem_map.1 hm
      have : (keyV p.1, Value.int .i64 (p.2 : Int)) ∈ es.toList.map (fun x => (x.key, x.val)) := by rw [h2]; exact List.mem_map.2 ⟨p, hp, rfl⟩
      obtain ⟨y, hy, he⟩ := List.mem_map.1 this
      exact f2 y hy (Prod.mk.inj he).1
    have hf := MapKept.run_findKey (P := Tryz.prog) (w := w) Tryz.underlying9 f1
    rw [lookup_none hx]
    simp only [keyV] at hck hf
    simp [Instr.lookup, run_underlying Tryz.underlying79, hgo, hck, hf, Result.andThen, go_sem]
  · have hf := MapKept.run_findKey (P := Tryz.prog) (w := w) Tryz.underlying9 f1
    obtain ⟨p, hp, e1, e2⟩ := mem_entries h2 (List.mem_of_getElem? f2)
    have : x = p.1 := keyV_inj (f3.symm.trans e1)
    rw [this, lookup_mem h.nodup hp]
    simp only [keyV, this] at hck hf
    simp [Instr.lookup, run_underlying Tryz.underlying79, hgo, hck, hf, Result.andThen, e2]
/-- A label more. -/
theorem MpAt.put {w : World} {m : Nat} {L : List (List UInt8 × Nat)} (h : MpAt w m L) (x : List UInt8) (n : Nat) (hx : x ∉ L.map (·.1)) :
    ∃ w', (Instr.mapUpdate 79 (.map (some m)) (.string ⟨x.toArray⟩) (.int .i64 (n : Int))).run Tryz.prog w = .ok () w' ∧ MpAt w' m (L ++ [(x, n)]) ∧ Keeps (fun k => k = m) w w' := by
  obtain ⟨es, clock, h1, h2⟩ := h.ex
  have hk : MapKept.IsKey .string (keyV x) := trivial
  have hgo := MapKept.run_getObj_map (P := Tryz.prog) h1
  have hck := fun e => MapKept.run_checkKey (P := Tryz.prog) (w := w) Tryz.underlying9 hk e 9999
  rcases MapKept.findNow_spec hk es.toList 0 (isKeys h2) with ⟨f1, f2⟩ | ⟨j, e, f1, f2, f3⟩
  · have hf := MapKept.run_findKey (P := Tryz.prog) (w := w) Tryz.underlying9 f1
    have hso := MapKept.run_setObj_map (P := Tryz.prog) (.map (es.push { key := keyV x, val := .int .i64 (n : Int), born := clock }) (clock + 1)) h1
    refine ⟨{ w with heap := w.heap.setIfInBounds m (.map (es.push { key := keyV x, val := .int .i64 (n : Int), born := clock }) (clock + 1)) }, ?_, ⟨⟨_, _, (MapKept.heap_set h1).1, ?_⟩, ?_⟩, ?_⟩
    · simp only [keyV] at hck hf hso
      simp [Instr.mapUpdate, run_underlying Tryz.underlying79, hgo, hck, hf, hso, Result.andThen, keyV]
    · simp [h2]
    · rw [List.map_append, List.nodup_append]
      refine ⟨h.nodup, by simp, ?_⟩
      intro a ha b hb
      simp only [List.map_cons, List.map_nil, List.mem_singleton] at hb
      subst hb
      rintro rfl
      exact hx ha
    · refine ⟨rfl, rfl, rfl, by simp, fun k hk hs => ?_⟩
      exact (MapKept.heap_set h1).2 k hs
  · obtain ⟨p, hp, e1, _⟩ := mem_entries h2 (List.mem_of_getElem? f2)
    have : x = p.1 := keyV_inj (f3.symm.trans e1)
    exact absurd (List.mem_map.2 ⟨p, hp, this.symm⟩) hx
end Go.Proofs.YtppejcfghlpbjaaGreatDoor


/-
  A region whose order is open and whose last operation overwrites what the others read: what holds until that one comes up. No statement of the seat is proved here.
-/
namespace Go.Proofs.YtppejcfghlpbjaaGreatDoor
open Go.RowKit

section
variable {P : Program} {md : Region.Mode} {ops : Array Oper} {Q : Exit → Act → World → Prop} {S : World → Prop} {t : Nat}

/-- Whatever order is picked, and S holds behind every operation but number t. -/
def wpAnyT (P : Program) (md : Region.Mode) (ops : Array Oper) (Q : Exit → Act → World → Prop) (S : World → Prop) (t : Nat) : Nat → Array Bool → Act → World → Prop
  | 0, listed, a, w => Region.ready md ops listed = [] ∧ Q .normal a w
  | fuel + 1, listed, a, w =>
    (Region.ready md ops listed = [] → Q .normal a w) ∧
    ∀ i ∈ Region.ready md ops listed, wpOp P ops Q i (fun a' w' => (i ≠ t → S w') ∧ wpAnyT P md ops Q S t fuel (listed.setIfInBounds i true) a' w') a w
theorem wpAny_of_T : ∀ (fuel : Nat) (listed : Array Bool) (a : Act) (w : World), wpAnyT P md ops Q S t fuel listed a w → wpAny P md ops Q fuel listed a w
  | 0, _, _, _, h => h
  | fuel + 1, _, _, _, h => ⟨h.1, fun i hi => wpOp_mono (fun a' w' h' => wpAny_of_T fuel _ a' w' h'.2) (h.2 i hi)⟩
/-- Number t waits for number i. -/
def waitsB (md : Region.Mode) (ops : Array Oper) (t i : Nat) : Bool := match ops[t]? with
  | some o => o.after.any fun e => Region.binds md e && e.on == i
  | none => false
theorem waits_spec {i j : Nat} {oj : Oper} (h : waitsB md ops t i = true) (hj : ops[j]? = some oj) (hnot : ∀ e ∈ oj.after, Region.binds md e = true → e.on ≠ i) : j ≠ t := by
  rintro rfl
  unfold waitsB at h
  rw [hj] at h
  simp only [Array.any_eq_true', Bool.and_eq_true, beq_iff_eq] at h
  obtain ⟨e, he, hb, ho⟩ := h
  exact hnot e he hb ho

theorem wpAnyT_first {i : Nat} {oi : Oper} {v : Value} (hi : ops[i]? = some oi) (hsel : ∀ (j : Nat) (o : Oper) cs b, ops[j]? = some o → o.op ≠ .select cs b)
    (hQ : ∀ c a w, Q (.panic c) (a.put oi.dst v) w → Q (.panic c) a w) (hup : waitsB md ops t i = true) :
    ∀ (fuel : Nat) (listed : Array Bool) (a : Act) (w : World),
      (∀ j oj, ops[j]? = some oj → j ≠ i → listed.getD j true = false → (∀ e ∈ oj.after, Region.binds md e = true → e.on ≠ i) → oi.apart ops oj = true) →
      i ∈ Region.ready md ops listed → YieldsIf P ops S oi v a → S w →
      wpAnyT P md ops Q S t fuel (listed.setIfInBounds i true) (a.put oi.dst v) w → wpAnyT P md ops Q S t (fuel + 1) listed a w := by
  intro fuel
  induction fuel with
  | zero =>
    intro listed a w _ hr hy hS H
    refine ⟨fun h => (by rw [h] at hr; cases hr), fun j hj => ?_⟩
    by_cases hji : j = i
    · subst hji; exact hy.wpOp hi hS ⟨fun _ => hS, H⟩
    · have := ready_mono hj hji
      rw [H.1] at this
      cases this
  | succ fuel ih =>
    intro listed a w hfree hr hy hS H
    refine ⟨fun h => (by rw [h] at hr; cases hr), fun j hj => ?_⟩
    by_cases hji : j = i
    · subst hji; exact hy.wpOp hi hS ⟨fun _ => hS, H⟩
    · have h1 := H.2 j (ready_mono hj hji)
      obtain ⟨hjun, oj, hoj, hall⟩ := mem_ready.1 hj
      have hnot : ∀ e ∈ oj.after, Region.binds md e = true → e.on ≠ i := fun e he hb heq => by
        have h1 := hall e he hb
        have h0 := (mem_ready.1 hr).1
        rw [heq] at h1
        rcases Nat.lt_or_ge i listed.size with h' | h'
        · simp [h'] at h0 h1; rw [h0] at h1; cases h1
        · simp [Array.getElem?_eq_none h'] at h1
      have h2 := wpOp_putIf hoj (hfree j oj hoj hji hjun hnot) (fun cs b => hsel i oi cs b hi) (fun cs b => hsel j oj cs b hoj) hQ hy h1
      have hfree' : ∀ k ok, ops[k]? = some ok → k ≠ i → (listed.setIfInBounds j true).getD k true = false →
          (∀ e ∈ ok.after, Region.binds md e = true → e.on ≠ i) → oi.apart ops ok = true := fun k ok hk hki hun hno => by
        refine hfree k ok hk hki ?_ hno
        by_cases hjk : j = k
        · subst hjk; exact hjun
        · rw [getD_set_ne true hjk] at hun; exact hun
      have hjt : j ≠ t := waits_spec hup hoj hnot
      refine wpOp_mono (fun a' w' h3 => ⟨h3.2.1, ih (listed.setIfInBounds j true) a' w' hfree' (ready_mono hr (Ne.symm hji)) h3.1 (h3.2.1 hjt) ?_⟩) h2
      rw [Array.setIfInBounds_comm _ _ hji]
      exact h3.2.2

theorem u_take {K : Act → World → Prop} {i : Nat} {oi : Oper} {v : Value} {fuel : Nat} {listed : Array Bool} {a : Act} {w : World} (d : Nat) (hi : ops[i]? = some oi) (hdst : oi.dst = some d)
    (hs : Region.noSelect ops = true) (hf : Region.free md ops listed i = true) (hr : (Region.ready md ops listed).contains i = true) (hup : waitsB md ops t i = true) (hw : Region.wanted oi (yielded ops a.tmps) = true)
    (hy : ∀ w', S w' → (execOp a.eval oi).run P w' = .ok (.value v) w') (hS : S w)
    (h : wpAnyT P md ops (atEnd K) S t fuel (listed.setIfInBounds i true) (a.put (some d) v) w) : wpAnyT P md ops (atEnd K) S t (fuel + 1) listed a w :=
  wpAnyT_first hi (Region.noSelect_spec hs) (fun _ _ _ h => h.elim) hup fuel listed a w (Region.free_spec hi hf) (by simpa using hr) (.inl ⟨hw, hy⟩) hS (by rw [hdst]; exact h)
theorem wpAnyT_first2 {i k : Nat} {oi : Oper} {v : Value} (hi : ops[i]? = some oi) (hsel : ∀ (j : Nat) (o : Oper) cs b, ops[j]? = some o → o.op ≠ .select cs b)
    (hQ : ∀ c a w, Q (.panic c) (a.put oi.dst v) w → Q (.panic c) a w) (hup : waitsB md ops k i = true) (hup2 : waitsB md ops t k = true) :
    ∀ (fuel : Nat) (listed : Array Bool) (a : Act) (w : World), listed.getD k true = false →
      (∀ j oj, ops[j]? = some oj → j ≠ i → listed.getD j true = false → (∀ e ∈ oj.after, Region.binds md e = true → e.on ≠ i) → oi.apart ops oj = true) →
      i ∈ Region.ready md ops listed → YieldsIf P ops S oi v a → S w →
      wpAnyT P md ops Q S t fuel (listed.setIfInBounds i true) (a.put oi.dst v) w → wpAnyT P md ops Q S t (fuel + 1) listed a w := by
  intro fuel
  induction fuel with
  | zero =>
    intro listed a w _ _ hr hy hS H
    refine ⟨fun h => (by rw [h] at hr; cases hr), fun j hj => ?_⟩
    by_cases hji : j = i
    · subst hji; exact hy.wpOp hi hS ⟨fun _ => hS, H⟩
    · have := ready_mono hj hji
      rw [H.1] at this
      cases this
  | succ fuel ih =>
    intro listed a w hkl hfree hr hy hS H
    refine ⟨fun h => (by rw [h] at hr; cases hr), fun j hj => ?_⟩
    by_cases hji : j = i
    · subst hji; exact hy.wpOp hi hS ⟨fun _ => hS, H⟩
    · have h1 := H.2 j (ready_mono hj hji)
      obtain ⟨hjun, oj, hoj, hall⟩ := mem_ready.1 hj
      have hun : ∀ q, listed.getD q true = false → ∀ e ∈ oj.after, Region.binds md e = true → e.on ≠ q := fun q h0 e he hb heq => by
        have h1 := hall e he hb
        rw [heq] at h1
        rcases Nat.lt_or_ge q listed.size with h' | h'
        · simp [h'] at h0 h1; rw [h0] at h1; cases h1
        · simp [Array.getElem?_eq_none h'] at h1
      have hnot := hun i (mem_ready.1 hr).1
      have hjt : j ≠ t := waits_spec hup2 hoj (hun k hkl)
      have hjk : j ≠ k := waits_spec hup hoj hnot
      have h2 := wpOp_putIf hoj (hfree j oj hoj hji hjun hnot) (fun cs b => hsel i oi cs b hi) (fun cs b => hsel j oj cs b hoj) hQ hy h1
      have hfree' : ∀ k ok, ops[k]? = some ok → k ≠ i → (listed.setIfInBounds j true).getD k true = false →
          (∀ e ∈ ok.after, Region.binds md e = true → e.on ≠ i) → oi.apart ops ok = true := fun k ok hk hki hun hno => by
        refine hfree k ok hk hki ?_ hno
        by_cases hjk : j = k
        · subst hjk; exact hjun
        · rw [getD_set_ne true hjk] at hun; exact hun
      refine wpOp_mono (fun a' w' h3 => ⟨h3.2.1, ih (listed.setIfInBounds j true) a' w' (by rw [getD_set_ne true hjk]; exact hkl) hfree' (ready_mono hr (Ne.symm hji)) h3.1 (h3.2.1 hjt) ?_⟩) h2
      rw [Array.setIfInBounds_comm _ _ hji]
      exact h3.2.2
/-- As u_take, where number t waits for number k, and that for number i. -/
theorem u_take2 {K : Act → World → Prop} {i : Nat} {oi : Oper} {v : Value} {fuel : Nat} {listed : Array Bool} {a : Act} {w : World} (d k : Nat) (hi : ops[i]? = some oi) (hdst : oi.dst = some d)
    (hs : Region.noSelect ops = true) (hf : Region.free md ops listed i = true) (hr : (Region.ready md ops listed).contains i = true) (hup : waitsB md ops k i = true) (hup2 : waitsB md ops t k = true) (hk : listed.getD k true = false) (hw : Region.wanted oi (yielded ops a.tmps) = true)
    (hy : ∀ w', S w' → (execOp a.eval oi).run P w' = .ok (.value v) w') (hS : S w)
    (h : wpAnyT P md ops (atEnd K) S t fuel (listed.setIfInBounds i true) (a.put (some d) v) w) : wpAnyT P md ops (atEnd K) S t (fuel + 1) listed a w :=
  wpAnyT_first2 hi (Region.noSelect_spec hs) (fun _ _ _ h => h.elim) hup hup2 fuel listed a w hk (Region.free_spec hi hf) (by simpa using hr) (.inl ⟨hw, hy⟩) hS (by rw [hdst]; exact h)
theorem u_one {K : Act → World → Prop} {i : Nat} {o : Oper} {fuel : Nat} {listed : Array Bool} {a : Act} {w : World} (hr : Region.ready md ops listed = [i]) (ho : ops[i]? = some o) (hw : Region.wanted o (yielded ops a.tmps) = true)
    (h : o.wp P a w (fun a' w' => (i ≠ t → S w') ∧ wpAnyT P md ops (atEnd K) S t fuel (listed.setIfInBounds i true) a' w') (atEnd K)) : wpAnyT P md ops (atEnd K) S t (fuel + 1) listed a w := by
  refine ⟨fun h0 => absurd (hr.symm.trans h0) (by simp), ?_⟩
  rw [hr]
  intro j hj
  have hj : j = i := by simpa using hj
  subst hj
  unfold wpOp
  simp only [ho, hw, if_true]
  exact .inl h
theorem u_val {K : Act → World → Prop} {i : Nat} {o : Oper} {v : Value} {w' : World} {fuel : Nat} {listed : Array Bool} {a : Act} {w : World} (d : Option Nat) (hr : Region.ready md ops listed = [i]) (ho : ops[i]? = some o) (hdst : o.dst = d)
    (hw : Region.wanted o (yielded ops a.tmps) = true) (hrun : (execOp a.eval o).run P w = .ok (.value v) w') (hS : S w') (h : wpAnyT P md ops (atEnd K) S t fuel (listed.setIfInBounds i true) (a.put d v) w') : wpAnyT P md ops (atEnd K) S t (fuel + 1) listed a w := by
  refine u_one hr ho hw ?_
  unfold Oper.wp
  rw [hrun]
  show (i ≠ t → S w') ∧ wpAnyT P md ops (atEnd K) S t fuel _ (a.put o.dst v) w'
  rw [hdst]
  exact ⟨fun _ => hS, h⟩
theorem u_call {K : Act → World → Prop} {i : Nat} {o : Oper} {f : Nat} {args : Array Value} {fuel : Nat} {listed : Array Bool} {a : Act} {w : World} (d : Nat) (hr : Region.ready md ops listed = [i]) (ho : ops[i]? = some o) (hdst : o.dst = some d) (hw : Region.wanted o (yielded ops a.tmps) = true)
    (hrun : (execOp a.eval o).run P w = .ok (.enter f args) w) (h : Calls P f args w fun e w' => ∃ v, e = .returned v ∧ S w' ∧ wpAnyT P md ops (atEnd K) S t fuel (listed.setIfInBounds i true) (a.put (some d) v) w') : wpAnyT P md ops (atEnd K) S t (fuel + 1) listed a w := by
  refine u_one hr ho hw ?_
  unfold Oper.wp
  rw [hrun]
  show Calls P f args w _
  refine h.mono ?_
  rintro e w' ⟨v, rfl, h1, h2⟩
  exact ⟨fun _ => h1, by rw [hdst]; exact h2⟩
/-- Number t itself comes up: behind it S need not hold. -/
theorem u_last {K : Act → World → Prop} {o : Oper} {w' : World} {fuel : Nat} {listed : Array Bool} {a : Act} {w : World} (hr : Region.ready md ops listed = [t]) (ho : ops[t]? = some o) (hdst : o.dst = none)
    (hw : Region.wanted o (yielded ops a.tmps) = true) (hrun : (execOp a.eval o).run P w = .ok .skip w') (hr2 : Region.ready md ops (listed.setIfInBounds t true) = []) (h : K a w') : wpAnyT P md ops (atEnd K) S t (fuel + 1) listed a w := by
  refine u_one hr ho hw ?_
  unfold Oper.wp
  rw [hrun]
  show (t ≠ t → S w') ∧ wpAnyT P md ops (atEnd K) S t fuel _ (a.put o.dst undef) w'
  rw [hdst]
  refine ⟨fun hne => absurd rfl hne, ?_⟩
  cases fuel with
  | zero => exact ⟨hr2, h⟩
  | succ n => exact ⟨fun _ => h, by rw [hr2]; simp⟩
theorem wp_until {id : Nat} {a : Act} {w : World} (t N : Nat) (hN : ops.size = N) (hm : P.follows .mixedOrders = true)
    (h : wpAnyT P .any ops (atEnd (Q .normal)) S t N (Array.replicate N false) a w.drew) : (Code.region id ops true).wp P Q a w := by
  subst hN
  exact Code.wp_mono (fun e a w h => by cases e <;> first | exact h | exact h.elim) (wp_region_any hm (wpAny_of_T _ _ _ _ h))
end
end Go.Proofs.YtppejcfghlpbjaaGreatDoor


/- Rows of instructions of the call's own; whether two lists are the same. No statement of the seat is proved here. -/
namespace Go.Proofs.YtppejcfghlpbjaaGreatDoor
open Go.RowKit Go.Shelf

theorem info_ins : (Tryz.prog.info? 45).map (fun i => (i.zero, i.size, i.bytes)) = some (some (.agg #[.int .i64 0, .int .i64 0, .int .i64 0, .int .i64 0, .int .u64 0]), 5, 40) := by kernel_rfl
def insV (L : List I5) : List Value := L.flatMap fun i => i.cells.toList
theorem insV_len (L : List I5) : (insV L).length = L.length * 5 := by
  induction L with
  | nil => rfl
  | cons i L ih =>
    simp only [insV, List.flatMap_cons, List.length_append, List.length_cons] at *
    rw [ih]
    simp
    omega
theorem insV_at : ∀ (L : List I5) (k f : Nat) (hk : k < L.length), f < 5 → (insV L)[k * 5 + f]? = (L[k]).cells[f]?
  | [], k, f, hk, _ => absurd hk (by simp)
  | i :: L, 0, f, _, hf => by
    have : f = 0 ∨ f = 1 ∨ f = 2 ∨ f = 3 ∨ f = 4 := by omega
    rcases this with rfl | rfl | rfl | rfl | rfl <;> rfl
  | i :: L, k + 1, f, hk, hf => by
    have h := insV_at L k f (by simpa using hk) hf
    have e : insV (i :: L) = i.cells.toList ++ insV L := rfl
    rw [e, List.getElem?_append_right (by simp; omega)]
    have e2 : (k + 1) * 5 + f - i.cells.toList.length = k * 5 + f := by simp; omega
    rw [e2, h]
    simp
theorem insV_one (L : List I5) : ∀ u ∈ insV L, u.oneCell' = true := by
  intro u hu
  obtain ⟨i, _, h⟩ := List.mem_flatMap.1 hu
  simp at h
  rcases h with rfl | rfl | rfl | rfl | rfl <;> rfl
/-- Instructions where they lie, as a row of cells. -/
theorem InsAt.cells {w : World} {a : Addr} {n c : Nat} {L : List I5} (h : InsAt w (.slice (some a) n c) L) (hne : L ≠ []) : ∃ g off, a = ⟨g, off, none⟩ ∧ n = L.length ∧ ∀ (j : Nat) (u : Value), (insV L)[j]? = some u → w.cell? (a.add j) = some u := by
  obtain ⟨⟨a', cap, hv, hc⟩, _, _⟩ := h
  simp only [Value.slice.injEq] at hv
  obtain ⟨rfl, rfl, rfl⟩ := hv
  have hpos := List.length_pos_iff.2 hne
  obtain ⟨g, off, ha, _⟩ := hc 0 hpos
  cases ha
  refine ⟨g, off, rfl, rfl, fun j u hj => ?_⟩
  have hjl : j < L.length * 5 := by have := (List.getElem?_eq_some_iff.1 hj).1; rwa [insV_len] at this
  obtain ⟨g', off', ha, c0, c1, c2, c3, c4⟩ := hc (j / 5) (by omega)
  cases ha
  have e : j = j / 5 * 5 + j % 5 := by omega
  have hf : j % 5 < 5 := by omega
  rw [e, insV_at L (j / 5) (j % 5) (by omega) hf] at hj
  rw [addr_add, e]
  obtain ⟨f, hfe⟩ : ∃ f, f = j % 5 := ⟨_, rfl⟩
  rw [← hfe] at hj hf ⊢
  have : f = 0 ∨ f = 1 ∨ f = 2 ∨ f = 3 ∨ f = 4 := by omega
  clear e hfe
  rcases this with rfl | rfl | rfl | rfl | rfl
  · cases hj; exact c0
  · cases hj; exact c1
  · cases hj; exact c2
  · cases hj; exact c3
  · cases hj; exact c4

/-- A row of instructions of the call's own. -/
structure Irs (w : World) (base : Nat) (v : Value) (L : List I5) : Prop where
  own : w.ownsRow base 45 5 v L.length (insV L)
  base : base ≤ w.heap.size
theorem Irs.nil (w : World) : Irs w w.heap.size (.slice none 0 0) [] := ⟨⟨rfl, .inl ⟨rfl, rfl⟩⟩, Nat.le_refl _⟩
theorem Irs.keeps {w w' : World} {base : Nat} {v : Value} {L : List I5} {S : Nat → Prop} (h : Irs w base v L) (k : Keeps S w w') (hs : ∀ g, v.ownBlock = some g → ¬ S g) : Irs w' base v L :=
  ⟨own_keeps h.own k hs, Nat.le_trans h.base k.size⟩
theorem Irs.kept {w wr w' : World} {u u' : Value} {X : List I5} (h : Grew wr w' u u') (k : Keeps (fun _ => False) w wr) (hb : Irs wr w.heap.size u X) : Keeps (fun _ => False) w w' :=
  ⟨h.keeps.os.trans k.os, h.keeps.tape.trans k.tape, h.keeps.output.trans k.output, Nat.le_trans k.size h.keeps.size, fun g hg hs => (h.keeps.block g (Nat.lt_of_lt_of_le hg k.size) fun e => by
    have := (own_block hb.own e).2; omega).trans (k.block g hg hs)⟩
theorem Irs.insAt {w : World} {base : Nat} {v : Value} {L : List I5} (h : Irs w base v L) (hwf : ∀ i ∈ L, i.wf) (hb : L.length * 40 ≤ 140737488355328) : InsAt w v L := by
  refine ⟨?_, hwf, hb⟩
  rcases h.own.2 with ⟨rfl, h2⟩ | ⟨g, cap, cur, rfl, h1, h2, h3, h4, h5, h6⟩
  · exact ⟨none, 0, by rw [h2], fun k hk => by omega⟩
  · refine ⟨_, cap, rfl, fun k hk => ⟨g, 0, rfl, ?_⟩⟩
    have e : ∀ f, f < 5 → w.cell? ⟨g, k * 5 + f, none⟩ = (L[k]).cells[f]? := fun f hf => by
      rw [cell_of_block h2, ← insV_at L k f hk hf, ← h6, List.getElem?_take_of_lt (by omega)]
      simp
    simp only [Nat.zero_add]
    exact ⟨e 0 (by omega), e 1 (by omega), e 2 (by omega), e 3 (by omega), e 4 (by omega)⟩
/-- Instructions behind a row of the call's own. -/
theorem Irs.app {w : World} {base : Nat} {v : Value} {L : List I5} (h : Irs w base v L) (vs : Value) (M : List I5) (hM : InsAt w vs M) (hb : (L.length + M.length) * 40 ≤ 140737488355328) :
    ∃ v' w', (Builtin.append_ #[42, 42] 42 #[v, vs]).run Tryz.prog w = .ok v' w' ∧ Irs w' base v' (L ++ M) ∧ Grew w w' v v' := by
  obtain ⟨i0, hi, hz0, hz1, hz2⟩ := info_parts info_ins
  by_cases hne : M = []
  · subst hne
    obtain ⟨⟨a, c, rfl, _⟩, _, _⟩ := hM
    simp only [List.length_nil, List.append_nil]
    cases a with
    | none =>
      have hv : ∃ b n c', v = .slice b n c' ∧ n ≤ c' := by
        rcases h.own.2 with ⟨rfl, _⟩ | ⟨g, cap, cur, rfl, _, _, h3, _⟩
        · exact ⟨none, 0, 0, rfl, Nat.le_refl _⟩
        · exact ⟨_, _, cap, rfl, h3⟩
      obtain ⟨b, n, c', rfl, hle⟩ := hv
      exact ⟨_, w, run_append_nothing w 42 42 42 45 i0 Tryz.underlying42 hi b n c' hle _ (Src.ofNil _ (e' := 45) Tryz.underlying42 c), h, Grew.refl _ _⟩
    | some a =>
      obtain ⟨v', w', h1, h2, h3, h4⟩ := own_push (P := Tryz.prog) w base 42 42 45 _ 5 40 Tryz.underlying42 info_ins rfl (by decide) v L.length _ h.own a 0 c [] rfl (fun j u hj => by simp at hj) (by simp) (by simpa using hb) (by decide) h.base
      refine ⟨v', w', h1, ⟨by simpa using h2, Nat.le_trans h.base h3.size⟩, ⟨(Keeps.refl _ _).grown h3 fun k hk => .inr hk, h4⟩⟩
  · obtain ⟨a, c, rfl⟩ : ∃ a c, vs = .slice (some a) M.length c := by
      obtain ⟨⟨a, c, rfl, hc⟩, _, _⟩ := hM
      obtain ⟨g, off, rfl, _⟩ := hc 0 (List.length_pos_iff.2 hne)
      exact ⟨_, c, rfl⟩
    obtain ⟨g, off, rfl, _, hcs⟩ := hM.cells hne
    obtain ⟨v', w', h1, h2, h3, h4⟩ := own_push (P := Tryz.prog) w base 42 42 45 _ 5 40 Tryz.underlying42 info_ins rfl (by decide) v L.length _ h.own ⟨g, off, none⟩ M.length c (insV M) (insV_len M) hcs (insV_one M) hb (by decide) h.base
    refine ⟨v', w', h1, ⟨by simpa [insV] using h2, Nat.le_trans h.base h3.size⟩, ⟨(Keeps.refl _ _).grown h3 fun k hk => .inr hk, h4⟩⟩
theorem Irs.push2 {w : World} {base : Nat} {v : Value} {L : List I5} (h : Irs w base v L) (i : I5) (hi : i.wf) (hb : (L.length + 1) * 40 ≤ 140737488355328) :
    ∃ v' w', (Builtin.append_ #[42, 42] 42 #[v, .slice (some ⟨w.heap.size, 0, none⟩) 1 1]).run Tryz.prog (w.alloc (.cells #[.int .i64 i.op, .int .i64 i.a, .int .i64 i.b, .int .i64 i.c, .int .u64 i.n] 45)) = .ok v' w' ∧ Irs w' base v' (L ++ [i]) ∧ Grew w w' v v' := by
  have k0 := (Keeps.refl (fun _ => False) w).alloc (.cells #[.int .i64 i.op, .int .i64 i.a, .int .i64 i.b, .int .i64 i.c, .int .u64 i.n] 45)
  have b0 := (MapKept.heap_alloc w (.cells #[.int .i64 i.op, .int .i64 i.a, .int .i64 i.b, .int .i64 i.c, .int .u64 i.n] 45)).1
  have IB : InsAt (w.alloc (.cells #[.int .i64 i.op, .int .i64 i.a, .int .i64 i.b, .int .i64 i.c, .int .u64 i.n] 45)) (.slice (some ⟨w.heap.size, 0, none⟩) 1 1) [i] := by
    refine ⟨⟨_, 1, rfl, fun k hk => ⟨_, 0, rfl, ?_⟩⟩, by simpa using hi, by simp⟩
    obtain rfl : k = 0 := by simp at hk; omega
    refine ⟨?_, ?_, ?_, ?_, ?_⟩ <;> (rw [cell_of_block b0]; rfl)
  obtain ⟨v', w', h1, h2, h3⟩ := (h.keeps k0 (fun _ _ f => f)).app _ [i] IB (by simpa using hb)
  exact ⟨v', w', h1, h2, Grew.ahead k0 h3⟩

theorem Irs.form {w : World} {base : Nat} {v : Value} {L : List I5} (h : Irs w base v L) : ∃ b c, v = .slice b L.length c := by
  rcases h.own.2 with ⟨rfl, h2⟩ | ⟨g, cap, cur, rfl, _⟩
  · exact ⟨none, 0, by rw [h2]⟩
  · exact ⟨_, cap, rfl⟩

end Go.Proofs.YtppejcfghlpbjaaGreatDoor


/- What has been read of a text, as it lies in memory; a label more. No statement of the seat is proved here. -/
namespace Go.Proofs.YtppejcfghlpbjaaGreatDoor
open Go.RowKit Go.Shelf

/-- One more behind a row of the call's own, that stands in a new block. -/
theorem own_push1 {P : Program} (w : World) (base : Nat) (t ty e : TypeId) (z : Value) (size bytes : Nat) (ht : P.underlying t = some (.slice e)) (hinfo : (P.info? e).map (fun i => (i.zero, i.size, i.bytes)) = some (some z, size, bytes)) (hzs : z.cells.size = size) (hsz : 0 < size)
    (v : Value) (n : Nat) (xs : List Value) (hown : w.ownsRow base e size v n xs) (cs : List Value) (hcs : cs.length = size) (h1 : ∀ u ∈ cs, u.oneCell' = true) (hbytes : (n + 1) * bytes ≤ 140737488355328) (hb1 : 0 < bytes) (hbase : base ≤ w.heap.size) :
    ∃ v' w', (Builtin.append_ #[t, t] ty #[v, .slice (some ⟨w.heap.size, 0, none⟩) 1 1]).run P (w.alloc (.cells cs.toArray e)) = .ok v' w' ∧ w'.ownsRow base e size v' (n + 1) (xs ++ cs) ∧ Grew w w' v v' := by
  have k0 := (Keeps.refl (fun _ => False) w).alloc (.cells cs.toArray e)
  have b0 := (MapKept.heap_alloc w (.cells cs.toArray e)).1
  obtain ⟨v', w', r1, r2, r3, r4⟩ := own_push (P := P) (w.alloc (.cells cs.toArray e)) base t ty e z size bytes ht hinfo hzs hsz v n xs (own_keeps hown k0 (fun _ _ f => f)) ⟨w.heap.size, 0, none⟩ 1 1 cs (by omega) (fun j u hj => by
    rw [addr_add, Nat.zero_add, cell_of_block b0]
    simpa using hj) h1 hbytes hb1 (by simp; omega)
  exact ⟨v', w', r1, r2, Grew.ahead k0 ⟨(Keeps.refl _ _).grown r3 fun k hk => .inr hk, r4⟩⟩

theorem info_lab : (Tryz.prog.info? 157).map (fun i => (i.zero, i.size, i.bytes)) = some (some (.agg #[.string ByteArray.empty, .int .i64 0]), 2, 24) := by kernel_rfl
theorem info_use : (Tryz.prog.info? 112).map (fun i => (i.zero, i.size, i.bytes)) = some (some (.agg #[.string ByteArray.empty, .int .i64 0, .int .i64 0]), 3, 32) := by kernel_rfl
def labV (L : List (List UInt8 × Nat)) : List Value := L.flatMap fun p => [keyV p.1, .int .i64 (p.2 : Int)]
def useV (L : List (List UInt8 × Nat × Nat)) : List Value := L.flatMap fun p => [keyV p.1, .int .i64 (p.2.1 : Int), .int .i64 (p.2.2 : Int)]

/-- What the record of what was read is made of. -/
structure RdIs (w : World) (base p m : Nat) (vc vl vu : Value) (tag : Nat → Nat) (r : Rd) : Prop where
  box : w.heap[p]? = some (.cells #[vc, vl, .map (some m), vu] 82 (0, 0))
  code : Irs w base vc r.code
  labs : w.ownsRow base 157 2 vl r.labs.length (labV r.labs)
  uses : w.ownsRow base 112 3 vu r.uses.length (useV r.uses)
  map : MpAt w m r.labs
  tp : tag p = 0
  tm : tag m = 1
  tc : ∀ g, vc.ownBlock = some g → tag g = 2
  tl : ∀ g, vl.ownBlock = some g → tag g = 3
  tu : ∀ g, vu.ownBlock = some g → tag g = 4
  wf : ∀ i ∈ r.code, i.wf
  bp : base ≤ p
  bm : base ≤ m
  pm : m + 1 = p
/-- The blocks of it. -/
def ROwn (p m : Nat) (vc vl vu : Value) (k : Nat) : Prop := k = p ∨ k = m ∨ vc.ownBlock = some k ∨ vl.ownBlock = some k ∨ vu.ownBlock = some k
/-- The record, all of whose blocks are in S. -/
def RdAt (w : World) (S : Nat → Prop) (base p : Nat) (r : Rd) : Prop := ∃ m vc vl vu tag, RdIs w base p m vc vl vu tag r ∧ ∀ k, ROwn p m vc vl vu k → S k
theorem RdIs.keeps {w w' : World} {T : Nat → Prop} {base p m : Nat} {vc vl vu : Value} {tag : Nat → Nat} {r : Rd} (h : RdIs w base p m vc vl vu tag r) (k : Keeps T w w') (hT : ∀ q, ROwn p m vc vl vu q → ¬ T q) : RdIs w' base p m vc vl vu tag r :=
  ⟨(k.block p (lt_of_block h.box) (hT p (.inl rfl))).trans h.box, h.code.keeps k (fun g hg => hT g (.inr (.inr (.inl hg)))), own_keeps h.labs k (fun g hg => hT g (.inr (.inr (.inr (.inl hg))))), own_keeps h.uses k (fun g hg => hT g (.inr (.inr (.inr (.inr hg))))),
    h.map.keeps k (hT m (.inr (.inl rfl))), h.tp, h.tm, h.tc, h.tl, h.tu, h.wf, h.bp, h.bm, h.pm⟩
theorem RdAt.keeps {w w' : World} {S T : Nat → Prop} {base p : Nat} {r : Rd} (h : RdAt w S base p r) (k : Keeps T w w') (hT : ∀ q, S q → ¬ T q) : RdAt w' S base p r := by
  obtain ⟨m, vc, vl, vu, tag, h1, h2⟩ := h
  exact ⟨m, vc, vl, vu, tag, h1.keeps k (fun q hq => hT q (h2 q hq)), h2⟩
theorem RdAt.mono {w : World} {S T : Nat → Prop} {base p : Nat} {r : Rd} (h : RdAt w S base p r) (hT : ∀ q, S q → T q) : RdAt w T base p r := by
  obtain ⟨m, vc, vl, vu, tag, h1, h2⟩ := h
  exact ⟨m, vc, vl, vu, tag, h1, fun q hq => hT q (h2 q hq)⟩
theorem ownBlock_lt {w : World} {base size : Nat} {e : TypeId} {v : Value} {n : Nat} {xs : List Value} (h : w.ownsRow base e size v n xs) {g : Nat} (hg : v.ownBlock = some g) : g < w.heap.size := (own_block h hg).1

/-- The labels' row has grown, and is laid into the record. -/
theorem RdIs.label {w w1 w2 : World} {base p m : Nat} {vc vl vu v' : Value} {tag : Nat → Nat} {r : Rd} {x : List UInt8} (h : RdIs w base p m vc vl vu tag r) (hm : MpAt w1 m (r.labs ++ [(x, r.code.length)])) (k1 : Keeps (fun k => k = m) w w1)
    (hrow : w2.ownsRow base 157 2 v' (r.labs.length + 1) (labV r.labs ++ [keyV x, .int .i64 (r.code.length : Int)])) (hg : Grew w1 w2 vl v') :
    ∃ tag', RdIs (w2.setCell ⟨p, 1, none⟩ v') base p m vc v' vu tag' { r with labs := r.labs ++ [(x, r.code.length)] } ∧ (∀ k, ROwn p m vc v' vu k → ROwn p m vc vl vu k ∨ w.heap.size ≤ k) ∧ Keeps (ROwn p m vc vl vu) w (w2.setCell ⟨p, 1, none⟩ v') := by
  have hp := lt_of_block h.box
  obtain ⟨es, cl, hmb, _⟩ := h.map.ex
  have hml := lt_of_block hmb
  have n1 : vl.ownBlock ≠ some p := fun e => by have := h.tl p e; rw [h.tp] at this; cases this
  have n2 : vl.ownBlock ≠ some m := fun e => by have := h.tl m e; rw [h.tm] at this; cases this
  have npm : p ≠ m := fun e => by have := h.tp; rw [e, h.tm] at this; cases this
  have k2 := hg.keeps
  have kk : Keeps (fun k => k = m ∨ vl.ownBlock = some k) w w2 := (k1.mono (fun k _ e => .inl e)).trans (k2.mono (fun k _ e => .inr e))
  have ks : Keeps (fun k => k = p) w2 (w2.setCell ⟨p, 1, none⟩ v') := (Keeps.refl (fun k => k = p) w2).setCell (p := ⟨p, 1, none⟩) (.inr rfl) v'
  have hv'p : v'.ownBlock ≠ some p := fun e => by
    rcases hg.own with q | q
    · exact n1 (q ▸ e)
    · have := q p e; have := k1.size; omega
  have hb2 : w2.heap[p]? = some (.cells #[vc, vl, .map (some m), vu] 82 (0, 0)) := (kk.block p hp (fun e => e.elim npm n1)).trans h.box
  have hm2 : MpAt w2 m (r.labs ++ [(x, r.code.length)]) := hm.keeps k2 n2
  have hnew : ∀ g, v'.ownBlock = some g → vl.ownBlock = some g ∨ w.heap.size ≤ g := fun g e => by
    rcases hg.own with q | q
    · exact .inl (q ▸ e)
    · have := q g e; have := k1.size; exact .inr (by omega)
  have hc1 : Irs w2 base vc r.code := h.code.keeps kk (fun g e => fun f => by
    rcases f with rfl | f
    · have := h.tc _ e; rw [h.tm] at this; cases this
    · have a := h.tc _ e; rw [h.tl _ f] at a; cases a)
  have hu1 : w2.ownsRow base 112 3 vu r.uses.length (useV r.uses) := own_keeps h.uses kk (fun g e => fun f => by
    rcases f with rfl | f
    · have := h.tu _ e; rw [h.tm] at this; cases this
    · have a := h.tu _ e; rw [h.tl _ f] at a; cases a)
  refine ⟨fun k => if w.heap.size ≤ k then 3 else tag k, ⟨?_, ?_, ?_, ?_, ?_, ?_, ?_, ?_, ?_, ?_, h.wf, h.bp, h.bm, h.pm⟩, ?_, ?_⟩
  · have := block_set hb2 1 v'
    exact this
  · exact hc1.keeps ks (fun g e f => by subst f; have := h.tc _ e; rw [h.tp] at this; cases this)
  · have := own_keeps hrow ks (fun g e f => by subst f; exact hv'p e)
    simpa [labV] using this
  · exact own_keeps hu1 ks (fun g e f => by subst f; have := h.tu _ e; rw [h.tp] at this; cases this)
  · exact hm2.keeps ks (fun e => npm e.symm)
  · rw [if_neg (by omega)]; exact h.tp
  · rw [if_neg (by omega)]; exact h.tm
  · intro g e
    have := ownBlock_lt h.code.own e
    rw [if_neg (by omega)]; exact h.tc g e
  · intro g e
    split
    · rfl
    · rcases hnew g e with q | q
      · exact h.tl g q
      · omega
  · intro g e
    have := ownBlock_lt h.uses e
    rw [if_neg (by omega)]; exact h.tu g e
  · intro k hk
    rcases hk with e | e | e | e | e
    · exact .inl (.inl e)
    · exact .inl (.inr (.inl e))
    · exact .inl (.inr (.inr (.inl e)))
    · rcases hnew k e with q | q
      · exact .inl (.inr (.inr (.inr (.inl q))))
      · exact .inr q
    · exact .inl (.inr (.inr (.inr (.inr e))))
  · exact (kk.mono (fun k _ e => by
      rcases e with e | e
      · exact .inr (.inl e)
      · exact .inr (.inr (.inr (.inl e))))).trans (ks.mono (fun k _ e => .inl e))
end Go.Proofs.YtppejcfghlpbjaaGreatDoor
