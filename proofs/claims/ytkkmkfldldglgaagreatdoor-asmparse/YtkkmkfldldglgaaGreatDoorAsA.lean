
/- Texts cut into lines, lines cut into words. No statement of the seat is proved here. -/
import Derived.WalkKit
namespace Go.Proofs.YtkkmkfldldglgaaGreatDoor

/-- A blank. -/
def blk (c : UInt8) : Bool := c == 32 || c == 9
/-- The word with which a line begins: up to a blank, or up to a colon with that; and what stands behind it. -/
def wordOf : List UInt8 → List UInt8 × List UInt8
  | [] => ([], [])
  | c :: t => if c = 58 then ([58], t) else if blk c then ([], c :: t) else (c :: (wordOf t).1, (wordOf t).2)
def nextW (l : List UInt8) : List UInt8 × List UInt8 := wordOf (l.dropWhile blk)
theorem wordOf_len : ∀ l : List UInt8, (wordOf l).1.length + (wordOf l).2.length = l.length
  | [] => rfl
  | c :: t => by
    have := wordOf_len t
    unfold wordOf
    split
    · simp; omega
    · split
      · simp
      · simp; omega
theorem dropWhile_len (p : UInt8 → Bool) : ∀ l : List UInt8, (l.dropWhile p).length ≤ l.length
  | [] => by simp
  | c :: t => by
    have := dropWhile_len p t
    rw [List.dropWhile_cons]
    split
    · simp; omega
    · simp
theorem nextW_len (l : List UInt8) : (nextW l).1.length + (nextW l).2.length ≤ l.length := by
  have := wordOf_len (l.dropWhile blk)
  have := dropWhile_len blk l
  unfold nextW; omega
/-- All words of a line. -/
def toks (l : List UInt8) : List (List UInt8) :=
  if h : (nextW l).1 = [] then [] else (nextW l).1 :: (have _ := h; toks (nextW l).2)
termination_by l.length
decreasing_by
  have := nextW_len l
  have := List.length_pos_iff.2 h
  omega
theorem toks_nil {l : List UInt8} (h : (nextW l).1 = []) : toks l = [] := by rw [toks, dif_pos h]
theorem toks_cons {l : List UInt8} (h : (nextW l).1 ≠ []) : toks l = (nextW l).1 :: toks (nextW l).2 := by rw [toks, dif_neg h]

/-- The word by the place at which it ends. -/
def brk (c : UInt8) : Bool := blk c || c == 58
theorem wordOf_no : ∀ l : List UInt8, (∀ c ∈ l, brk c = false) → wordOf l = (l, [])
  | [], _ => rfl
  | c :: t, h => by
    have hc := h c (by simp)
    simp only [brk, Bool.or_eq_false_iff, beq_eq_false_iff_ne] at hc
    have := wordOf_no t (fun d hd => h d (by simp [hd]))
    rw [wordOf, if_neg hc.2, if_neg (by simp [hc.1]), this]
theorem wordOf_at : ∀ (l : List UInt8) (i : Nat) (hi : i < l.length), (∀ j (hj : j < i), brk (l[j]'(by omega)) = false) → brk (l[i]) = true → wordOf l = if l[i] = 58 then (l.take (i + 1), l.drop (i + 1)) else (l.take i, l.drop i)
  | c :: t, 0, _, _, hb => by
    simp only [List.getElem_cons_zero] at hb ⊢
    unfold wordOf
    by_cases hc : c = 58
    · simp [hc]
    · simp only [brk, Bool.or_eq_true, beq_iff_eq, hc, or_false] at hb
      simp [hc, hb]
  | c :: t, i + 1, hi, hn, hb => by
    have hc := hn 0 (by omega)
    simp only [List.getElem_cons_zero, brk, Bool.or_eq_false_iff, beq_eq_false_iff_ne] at hc
    have := wordOf_at t i (by simpa using hi) (fun j hj => by have := hn (j + 1) (by omega); simpa using this) (by simpa using hb)
    rw [wordOf, if_neg hc.2, if_neg (by simp [hc.1]), this]
    simp only [List.getElem_cons_succ]
    split <;> simp
/-- A word has no blank, and a colon only at its end. -/
theorem wordOf_form : ∀ l : List UInt8, (∀ c ∈ (wordOf l).1, blk c = false) ∧ (∀ c ∈ (wordOf l).1.dropLast, c ≠ 58)
  | [] => by simp [wordOf]
  | c :: t => by
    obtain ⟨h1, h2⟩ := wordOf_form t
    unfold wordOf
    split
    · rename_i h; subst h; simp [blk]
    · rename_i hc
      split
      · simp
      · rename_i hb
        refine ⟨?_, ?_⟩
        · intro d hd
          simp only [List.mem_cons] at hd
          rcases hd with rfl | hd
          · simpa using hb
          · exact h1 d hd
        · intro d hd
          cases hw : (wordOf t).1 with
          | nil => rw [hw] at hd; simp at hd
          | cons x y =>
            rw [hw] at hd h2
            simp only [List.dropLast_cons_cons, List.mem_cons] at hd
            rcases hd with rfl | hd
            · exact hc
            · exact h2 d hd
theorem nextW_form (l : List UInt8) : (∀ c ∈ (nextW l).1, blk c = false) ∧ (∀ c ∈ (nextW l).1.dropLast, c ≠ 58) := wordOf_form _
theorem toks_form (l : List UInt8) : ∀ t ∈ toks l, t ≠ [] ∧ (∀ c ∈ t, blk c = false) ∧ (∀ c ∈ t.dropLast, c ≠ 58) := by
  intro t ht
  by_cases h : (nextW l).1 = []
  · rw [toks_nil h] at ht; simp at ht
  · rw [toks_cons h] at ht
    rcases List.mem_cons.1 ht with rfl | ht
    · exact ⟨h, nextW_form l⟩
    · have := nextW_len l
      have := List.length_pos_iff.2 h
      exact toks_form _ t ht
termination_by l.length

/-- The lines of a text, each with the byte 10 that ends it; the last one may have none. -/
def linesL : List UInt8 → List (List UInt8)
  | [] => []
  | c :: t => if c = 10 then [10] :: linesL t else match linesL t with
    | [] => [[c]]
    | h :: r => (c :: h) :: r
theorem linesL_ne {l : List UInt8} (h : l ≠ []) : linesL l ≠ [] := by
  cases l with
  | nil => exact absurd rfl h
  | cons c t => unfold linesL; split; simp; split <;> simp
/-- No byte 10: it is one line. -/
theorem linesL_one : ∀ l : List UInt8, l ≠ [] → (∀ c ∈ l, c ≠ 10) → linesL l = [l]
  | [c], _, h => by simp [linesL, h c (by simp)]
  | c :: d :: t, _, h => by
    have := linesL_one (d :: t) (by simp) (fun x hx => h x (by simp [hx]))
    rw [linesL, if_neg (h c (by simp)), this]
/-- A line up to its byte 10, and the others. -/
theorem linesL_cut : ∀ (l : List UInt8) (i : Nat) (hi : i < l.length), (∀ j (hj : j < i), l[j]'(by omega) ≠ 10) → l[i] = 10 → linesL l = l.take (i + 1) :: linesL (l.drop (i + 1))
  | c :: t, 0, _, _, h => by
    simp only [List.getElem_cons_zero] at h
    subst h
    simp [linesL]
  | c :: t, i + 1, hi, hn, h => by
    have hc := hn 0 (by omega)
    simp only [List.getElem_cons_zero] at hc
    have := linesL_cut t i (by simpa using hi) (fun j hj => by have := hn (j + 1) (by omega); simpa using this) (by simpa using h)
    rw [linesL, if_neg hc, this]
    simp
end Go.Proofs.YtkkmkfldldglgaaGreatDoor
