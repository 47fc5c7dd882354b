
/- What is written is read: a program's plain text. No statement of the seat is proved here. -/
import Derived.Test.YtkihmdbmdpmmmaaGreatDoorAuA
namespace Go.Proofs.YtkihmdbmdpmmmaaGreatDoor
open Go.RowKit Go.Shelf

theorem nextW_word (x r : List UInt8) (hx : ∀ c ∈ x, brk c = false) (hne : x ≠ []) : nextW (x ++ 32 :: r) = (x, 32 :: r) := by
  have hd : (x ++ 32 :: r).dropWhile blk = x ++ 32 :: r := by
    cases x with
    | nil => exact absurd rfl hne
    | cons c t =>
      have hc := hx c (by simp)
      simp only [brk, Bool.or_eq_false_iff] at hc
      simp [hc.1]
  unfold nextW
  rw [hd, wordOf_at (x ++ 32 :: r) x.length (by simp) (fun j hj => by rw [List.getElem_append_left hj]; exact hx _ (List.getElem_mem hj)) (by simp [brk, blk])]
  simp
theorem nextW_colon (x r : List UInt8) (hx : ∀ c ∈ x, brk c = false) (hne : x ≠ []) : nextW (x ++ 58 :: r) = (x ++ [58], r) := by
  have hd : (x ++ 58 :: r).dropWhile blk = x ++ 58 :: r := by
    cases x with
    | nil => exact absurd rfl hne
    | cons c t =>
      have hc := hx c (by simp)
      simp only [brk, Bool.or_eq_false_iff] at hc
      simp [hc.1]
  unfold nextW
  rw [hd, wordOf_at (x ++ 58 :: r) x.length (by simp) (fun j hj => by rw [List.getElem_append_left hj]; exact hx _ (List.getElem_mem hj)) (by simp [brk])]
  simp [List.take_append, List.drop_append, List.take_of_length_le]
theorem nextW_end (x : List UInt8) (hx : ∀ c ∈ x, brk c = false) (hne : x ≠ []) : nextW x = (x, []) := by
  have hd : x.dropWhile blk = x := by
    cases x with
    | nil => exact absurd rfl hne
    | cons c t =>
      have hc := hx c (by simp)
      simp only [brk, Bool.or_eq_false_iff] at hc
      simp [hc.1]
  unfold nextW
  rw [hd, wordOf_no x hx]
theorem toks_blank (r : List UInt8) : toks (32 :: r) = toks r := by
  have h : nextW (32 :: r) = nextW r := by unfold nextW; rw [List.dropWhile_cons]; simp [blk]
  by_cases hn : (nextW r).1 = []
  · rw [toks_nil hn, toks_nil (by rw [h]; exact hn)]
  · rw [toks_cons hn, toks_cons (by rw [h]; exact hn), h]
theorem toks_empty : toks [] = [] := toks_nil rfl
theorem toks_join : ∀ ws : List (List UInt8), (∀ x ∈ ws, x ≠ [] ∧ ∀ c ∈ x, brk c = false) → toks (joinB ws) = ws
  | [], _ => toks_empty
  | [x], h => by
    have hx := h x (by simp)
    have e : joinB [x] = x := by simp [joinB]
    rw [e, toks_cons (by rw [nextW_end x hx.2 hx.1]; exact hx.1), nextW_end x hx.2 hx.1, toks_empty]
  | x :: y :: t, h => by
    have hx := h x (by simp)
    have e : joinB (x :: y :: t) = x ++ 32 :: joinB (y :: t) := by simp [joinB]
    have ih := toks_join (y :: t) (fun z hz => h z (by simp [hz]))
    rw [e, toks_cons (by rw [nextW_word x _ hx.2 hx.1]; exact hx.1), nextW_word x _ hx.2 hx.1, toks_blank, ih]
theorem toks_colon (x r : List UInt8) (hx : ∀ c ∈ x, brk c = false) (hne : x ≠ []) : toks (x ++ 58 :: r) = (x ++ [58]) :: toks r := by
  rw [toks_cons (by rw [nextW_colon x r hx hne]; simp), nextW_colon x r hx hne]
theorem linesL_app : ∀ (l r : List UInt8), (∀ c ∈ l, c ≠ 10) → linesL (l ++ 10 :: r) = (l ++ [10]) :: linesL r
  | [], r, _ => by simp [linesL]
  | c :: t, r, h => by
    have ih := linesL_app t r (fun d hd => h d (by simp [hd]))
    have hc := h c (by simp)
    rw [List.cons_append, linesL, if_neg hc, ih]
    rfl
theorem takeWhile_all {p : UInt8 → Bool} : ∀ {l : List UInt8}, (∀ c ∈ l, p c = true) → l.takeWhile p = l
  | [], _ => rfl
  | c :: t, h => by rw [List.takeWhile_cons, if_pos (h c (by simp)), takeWhile_all (fun d hd => h d (by simp [hd]))]
theorem bodyL_line (l : List UInt8) (h : ∀ c ∈ l, c ≠ 59) : bodyL (l ++ [10]) = l := by
  unfold bodyL
  rw [if_pos (by simp), List.dropLast_concat]
  exact takeWhile_all (fun c hc => by simpa using h c hc)

/-- An instruction's words, with a word in the place of its number. -/
def wordsT (i : I5) (t : List UInt8) : List (List UInt8) := (nms[i.op.toNat]?).getD [] :: ((regL i).map (fun n => Lib.decDigits n.toNat) ++ (if numB i.op then [t] else []))
theorem line_join (i : I5) (t : List UInt8) : lineL i t = joinB (wordsT i t) := by
  unfold lineL wordsT joinB blanked
  cases numB i.op <;> simp [List.flatMap_map]
/-- A letter of a name, of a digit, or of a place's name. -/
def okC (c : UInt8) : Bool := decide (48 ≤ c.toNat ∧ c.toNat ≤ 57) || decide (97 ≤ c.toNat ∧ c.toNat ≤ 122)
theorem okC_facts {c : UInt8} (h : okC c = true) : brk c = false ∧ c ≠ 10 ∧ c ≠ 59 ∧ c ≠ 58 ∧ c ≠ 32 := by
  simp only [okC, Bool.or_eq_true, decide_eq_true_eq] at h
  have : c ≠ 32 ∧ c ≠ 9 ∧ c ≠ 58 ∧ c ≠ 10 ∧ c ≠ 59 := by
    refine ⟨?_, ?_, ?_, ?_, ?_⟩ <;> (rintro rfl; revert h; decide)
  simp [brk, blk, this]
theorem dec_ok (n : Nat) : ∀ c ∈ Lib.decDigits n, okC c = true := fun c hc => by
  have := dec_mem n c hc
  simp [okC, this]
theorem nms_ok : ∀ k : Fin 18, ((nms[k.val]?).getD []).all okC = true ∧ (k.val ≠ 0 → (nms[k.val]?).getD [] ≠ []) := by decide
theorem words_ok {i : I5} (h0 : 1 ≤ i.op) (h1 : i.op ≤ 17) {t : List UInt8} (ht : t ≠ []) (hto : ∀ c ∈ t, okC c = true) : ∀ x ∈ wordsT i t, x ≠ [] ∧ ∀ c ∈ x, okC c = true := by
  intro x hx
  unfold wordsT at hx
  have hk := nms_ok ⟨i.op.toNat, by omega⟩
  rcases List.mem_cons.1 hx with rfl | hx
  · exact ⟨hk.2 (by simp; omega), fun c hc => List.all_eq_true.1 hk.1 c hc⟩
  · rcases List.mem_append.1 hx with hx | hx
    · obtain ⟨n, _, rfl⟩ := List.mem_map.1 hx
      exact ⟨dec_ne _, dec_ok _⟩
    · cases hn : numB i.op
      · rw [hn] at hx; simp at hx
      · rw [hn] at hx
        obtain rfl : x = t := by simpa using hx
        exact ⟨ht, hto⟩
theorem join_mem : ∀ (ws : List (List UInt8)) (c : UInt8), c ∈ joinB ws → c = 32 ∨ ∃ x ∈ ws, c ∈ x
  | [], c, h => by simp [joinB] at h
  | x :: t, c, h => by
    unfold joinB at h
    rcases List.mem_append.1 h with h | h
    · exact .inr ⟨x, by simp, h⟩
    · obtain ⟨y, hy, hc⟩ := List.mem_flatMap.1 h
      rcases List.mem_cons.1 hc with rfl | hc
      · exact .inl rfl
      · exact .inr ⟨y, by simp [hy], hc⟩
/-- What a written line is. -/
theorem line_facts {i : I5} (h0 : 1 ≤ i.op) (h1 : i.op ≤ 17) {t : List UInt8} (ht : t ≠ []) (hto : ∀ c ∈ t, okC c = true) : toks (lineL i t) = wordsT i t ∧ (∀ c ∈ lineL i t, c ≠ 10 ∧ c ≠ 59) := by
  have hw := words_ok h0 h1 ht hto
  rw [line_join]
  refine ⟨toks_join _ (fun x hx => ⟨(hw x hx).1, fun c hc => (okC_facts ((hw x hx).2 c hc)).1⟩), fun c hc => ?_⟩
  rcases join_mem _ c hc with rfl | ⟨x, hx, hc⟩
  · decide
  · have := okC_facts ((hw x hx).2 c hc)
    exact ⟨this.2.1, this.2.2.1⟩

theorem words_parse {i : I5} (h : formedB i = true) (hn0 : 0 ≤ i.n) (hn : i.n < 18446744073709551616) : parseW (wordsT i (Lib.decDigits i.n.toNat)) = some i := by
  obtain ⟨⟨h0, h1⟩, -⟩ := formed_facts h
  have hw := words_ok h0 h1 (dec_ne i.n.toNat) (dec_ok i.n.toNat)
  rw [← parse_joinB (by simp [wordsT]) (fun x hx hc => (okC_facts ((hw x hx).2 _ hc)).2.2.2.2 rfl), ← line_join, line_text h]
  exact parse_text h hn0 hn
theorem dec_nolab (n : Nat) : labB (Lib.decDigits n) = false := by
  unfold labB
  cases hd : Lib.decDigits n with
  | nil => simp
  | cons c t =>
    have := dec_mem n c (by rw [hd]; simp)
    have hl : lowB c = false := by simp [lowB]; omega
    simp [hl]
theorem named_of {op : Int} (h0 : 1 ≤ op) (h1 : op ≤ 17) : namedN ((nms[op.toNat]?).getD []) = some op.toNat := by
  rcases op17 h0 h1 with rfl | rfl | rfl | rfl | rfl | rfl | rfl | rfl | rfl | rfl | rfl | rfl | rfl | rfl | rfl | rfl | rfl <;> decide
theorem head_words (i : I5) (t : List UInt8) : ((wordsT i t).head?).getD [] = (nms[i.op.toNat]?).getD [] := rfl
theorem tgt_num {op : Int} (h : tgtB op = true) : numB op = true := by
  have hr := tgt_range h
  rcases op17 hr.1 hr.2 with q | q | q | q | q | q | q | q | q | q | q | q | q | q | q | q | q <;> rw [q] at h ⊢ <;> revert h <;> decide
theorem last_words {i : I5} (hn : numB i.op = true) (t : List UInt8) : lastW (wordsT i t) = t ∧ (wordsT i t).length = (regL i).length + 2 := by
  unfold lastW wordsT
  rw [hn]
  refine ⟨?_, by simp⟩
  rw [if_pos rfl, ← List.cons_append, List.getLast?_concat]
  rfl
theorem regL_len (i : I5) : (regL i).length = regsN i.op := by
  have := regsN_le3 i.op
  simp [regL]; omega
/-- A plain instruction uses no label. -/
theorem plain_uses {i : I5} (h : formedB i = true) : usesB (wordsT i (Lib.decDigits i.n.toNat)) = false := by
  obtain ⟨⟨h0, h1⟩, -⟩ := formed_facts h
  unfold usesB tpart
  rw [head_words, named_of h0 h1]
  have hop : ((i.op.toNat : Nat) : Int) = i.op := by omega
  cases ht : tgtB i.op
  · simp [hop, ht]
  · rw [(last_words (tgt_num ht) _).1, dec_nolab]; simp
theorem name_nocolon {i : I5} (h0 : 1 ≤ i.op) (h1 : i.op ≤ 17) : ((nms[i.op.toNat]?).getD []).getLast? ≠ some 58 := by
  rcases op17 h0 h1 with q | q | q | q | q | q | q | q | q | q | q | q | q | q | q | q | q <;> rw [q] <;> decide
theorem plain_line {i : I5} (h : formedB i = true) (hn0 : 0 ≤ i.n) (hn : i.n < 18446744073709551616) (r : Rd) (n : Nat) : lineR r n (toks (bodyL (textL i ++ [10]))) = some { r with code := r.code ++ [i] } := by
  obtain ⟨⟨h0, h1⟩, -⟩ := formed_facts h
  have lf := line_facts h0 h1 (dec_ne i.n.toNat) (dec_ok i.n.toNat)
  have hu := plain_uses h
  have hp := words_parse h hn0 hn
  rw [← line_text h, bodyL_line _ (fun c hc => (lf.2 c hc).2), lf.1]
  have e : wordsT i (Lib.decDigits i.n.toNat) = (nms[i.op.toNat]?).getD [] :: ((regL i).map (fun n => Lib.decDigits n.toNat) ++ (if numB i.op then [Lib.decDigits i.n.toNat] else [])) := rfl
  rw [e, lineR, if_neg (name_nocolon h0 h1), ← e]
  unfold insR zeroed useR
  rw [hu]
  simp [hp]
def plainF (L : List I5) : List UInt8 := L.flatMap fun i => textL i ++ [10]
theorem plain_flat (L : List I5) : plainL L = plainF L := by
  have : ∀ k, k ≤ L.length → plainK L k = plainF (L.take k) := by
    intro k
    induction k with
    | zero => intro _; simp [plainK, plainF]
    | succ k ih =>
      intro hk
      rw [plainK_succ (by omega), ih (by omega), List.take_succ_eq_append_getElem (by omega)]
      unfold plainF
      rw [List.flatMap_append]
      simp only [List.flatMap_cons, List.flatMap_nil, List.append_nil]
  have := this L.length (Nat.le_refl _)
  rw [List.take_length] at this
  exact this
theorem plain_readR : ∀ (L : List I5) (r : Rd) (n : Nat), (∀ i ∈ L, formedB i = true ∧ 0 ≤ i.n ∧ i.n < 18446744073709551616) → readR r n (linesL (plainF L)) = (n + L.length, some { r with code := r.code ++ L })
  | [], r, n, _ => by simp [plainF, linesL, readR]
  | i :: L, r, n, h => by
    obtain ⟨hf, hn0, hn⟩ := h i (by simp)
    obtain ⟨⟨h0, h1⟩, -⟩ := formed_facts hf
    have lf := line_facts h0 h1 (dec_ne i.n.toNat) (dec_ok i.n.toNat)
    rw [line_text hf] at lf
    have e : plainF (i :: L) = textL i ++ 10 :: plainF L := by simp [plainF]
    have ih := plain_readR L { r with code := r.code ++ [i] } (n + 1) (fun j hj => h j (by simp [hj]))
    rw [e, linesL_app _ _ (fun c hc => (lf.2 c hc).1), readR, plain_line hf hn0 hn]
    simp only
    rw [ih]
    simp
    omega
/-- A program's plain text is read as the program. -/
theorem plain_read (L : List I5) (h : ∀ i ∈ L, formedB i = true ∧ 0 ≤ i.n ∧ i.n < 18446744073709551616) : readT (plainL L) = (L.length, some (L, [])) := by
  unfold readT
  rw [plain_flat, plain_readR L _ _ h]
  simp [resR]
end Go.Proofs.YtkihmdbmdpmmmaaGreatDoor
