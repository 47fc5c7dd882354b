/-
  No statement of the seat is proved here. (Several texts in one: AuF, AuG, AuH.)
-/
import Derived.Test.YtkkmkfldldglgaaGreatDoorAuA

/- What is written is read: a program's plain text. No statement of the seat is proved here. -/
namespace Go.Proofs.YtkkmkfldldglgaaGreatDoor
open Go.RowKit Go.Shelf

theorem nextW_word (x r : List UInt8) (hx : ∀ c ∈ x, brk c = false) (hne : x ≠ []) : nextW (x ++ 32 :: r) = (x, 32 :: r) := by
  have hd : (x ++ 32 :: r).dropWhile blk = x ++ 32 :: r := by
    cases x with
    | nil => exact absurd rfl hne
    | cons c t =>
      have hc := hx c (by simp)
      simp only [brk, Bool.or_eq_false_iff] at hc
      simp [hc.1]
  unfold nextW
  rw [hd, wordOf_at (x ++ 32 :: r) x.length (by simp) (fun j hj => by rw [List.getElem_append_left hj]; exact hx _ (List.getElem_mem hj)) (by simp [brk, blk])]
  simp
theorem nextW_colon (x r : List UInt8) (hx : ∀ c ∈ x, brk c = false) (hne : x ≠ []) : nextW (x ++ 58 :: r) = (x ++ [58], r) := by
  have hd : (x ++ 58 :: r).dropWhile blk = x ++ 58 :: r := by
    cases x with
    | nil => exact absurd rfl hne
    | cons c t =>
      have hc := hx c (by simp)
      simp only [brk, Bool.or_eq_false_iff] at hc
      simp [hc.1]
  unfold nextW
  rw [hd, wordOf_at (x ++ 58 :: r) x.length (by simp) (fun j hj => by rw [List.getElem_append_left hj]; exact hx _ (List.getElem_mem hj)) (by simp [brk])]
  simp [List.take_append, List.drop_append, List.take_of_length_le]
theorem nextW_end (x : List UInt8) (hx : ∀ c ∈ x, brk c = false) (hne : x ≠ []) : nextW x = (x, []) := by
  have hd : x.dropWhile blk = x := by
    cases x with
    | nil => exact absurd rfl hne
    | cons c t =>
      have hc := hx c (by simp)
      simp only [brk, Bool.or_eq_false_iff] at hc
      simp [hc.1]
  unfold nextW
  rw [hd, wordOf_no x hx]
theorem toks_blank (r : List UInt8) : toks (32 :: r) = toks r := by
  have h : nextW (32 :: r) = nextW r := by unfold nextW; rw [List.dropWhile_cons]; simp [blk]
  by_cases hn : (nextW r).1 = []
  · rw [toks_nil hn, toks_nil (by rw [h]; exact hn)]
  · rw [toks_cons hn, toks_cons (by rw [h]; exact hn), h]
theorem toks_empty : toks [] = [] := toks_nil rfl
theorem toks_join : ∀ ws : List (List UInt8), (∀ x ∈ ws, x ≠ [] ∧ ∀ c ∈ x, brk c = false) → toks (joinB ws) = ws
  | [], _ => toks_empty
  | [x], h => by
    have hx := h x (by simp)
    have e : joinB [x] = x := by simp [joinB]
    rw [e, toks_cons (by rw [nextW_end x hx.2 hx.1]; exact hx.1), nextW_end x hx.2 hx.1, toks_empty]
  | x :: y :: t, h => by
    have hx := h x (by simp)
    have e : joinB (x :: y :: t) = x ++ 32 :: joinB (y :: t) := by simp [joinB]
    have ih := toks_join (y :: t) (fun z hz => h z (by simp [hz]))
    rw [e, toks_cons (by rw [nextW_word x _ hx.2 hx.1]; exact hx.1), nextW_word x _ hx.2 hx.1, toks_blank, ih]
theorem toks_colon (x r : List UInt8) (hx : ∀ c ∈ x, brk c = false) (hne : x ≠ []) : toks (x ++ 58 :: r) = (x ++ [58]) :: toks r := by
  rw [toks_cons (by rw [nextW_colon x r hx hne]; simp), nextW_colon x r hx hne]
theorem linesL_app : ∀ (l r : List UInt8), (∀ c ∈ l, c ≠ 10) → linesL (l ++ 10 :: r) = (l ++ [10]) :: linesL r
  | [], r, _ => by simp [linesL]
  | c :: t, r, h => by
    have ih := linesL_app t r (fun d hd => h d (by simp [hd]))
    have hc := h c (by simp)
    rw [List.cons_append, linesL, if_neg hc, ih]
    rfl
theorem takeWhile_all {p : UInt8 → Bool} : ∀ {l : List UInt8}, (∀ c ∈ l, p c = true) → l.takeWhile p = l
  | [], _ => rfl
  | c :: t, h => by rw [List.takeWhile_cons, if_pos (h c (by simp)), takeWhile_all (fun d hd => h d (by simp [hd]))]
theorem bodyL_line (l : List UInt8) (h : ∀ c ∈ l, c ≠ 59) : bodyL (l ++ [10]) = l := by
  unfold bodyL
  rw [if_pos (by simp), List.dropLast_concat]
  exact takeWhile_all (fun c hc => by simpa using h c hc)

/-- An instruction's words, with a word in the place of its number. -/
def wordsT (i : I5) (t : List UInt8) : List (List UInt8) := (nms[i.op.toNat]?).getD [] :: ((regL i).map (fun n => Lib.decDigits n.toNat) ++ (if numB i.op then [t] else []))
theorem line_join (i : I5) (t : List UInt8) : lineL i t = joinB (wordsT i t) := by
  unfold lineL wordsT joinB blanked
  cases numB i.op <;> simp [List.flatMap_map]
/-- A letter of a name, of a digit, or of a place's name. -/
def okC (c : UInt8) : Bool := decide (48 ≤ c.toNat ∧ c.toNat ≤ 57) || decide (97 ≤ c.toNat ∧ c.toNat ≤ 122)
theorem okC_facts {c : UInt8} (h : okC c = true) : brk c = false ∧ c ≠ 10 ∧ c ≠ 59 ∧ c ≠ 58 ∧ c ≠ 32 := by
  simp only [okC, Bool.or_eq_true, decide_eq_true_eq] at h
  have : c ≠ 32 ∧ c ≠ 9 ∧ c ≠ 58 ∧ c ≠ 10 ∧ c ≠ 59 := by
    refine ⟨?_, ?_, ?_, ?_, ?_⟩ <;> (rintro rfl; revert h; decide)
  simp [brk, blk, this]
theorem dec_ok (n : Nat) : ∀ c ∈ Lib.decDigits n, okC c = true := fun c hc => by
  have := dec_mem n c hc
  simp [okC, this]
theorem nms_ok : ∀ k : Fin 18, ((nms[k.val]?).getD []).all okC = true ∧ (k.val ≠ 0 → (nms[k.val]?).getD [] ≠ []) := by decide
theorem words_ok {i : I5} (h0 : 1 ≤ i.op) (h1 : i.op ≤ 17) {t : List UInt8} (ht : t ≠ []) (hto : ∀ c ∈ t, okC c = true) : ∀ x ∈ wordsT i t, x ≠ [] ∧ ∀ c ∈ x, okC c = true := by
  intro x hx
  unfold wordsT at hx
  have hk := nms_ok ⟨i.op.toNat, by omega⟩
  rcases List.mem_cons.1 hx with rfl | hx
  · exact ⟨hk.2 (by simp; omega), fun c hc => List.all_eq_true.1 hk.1 c hc⟩
  · rcases List.mem_append.1 hx with hx | hx
    · obtain ⟨n, _, rfl⟩ := List.mem_map.1 hx
      exact ⟨dec_ne _, dec_ok _⟩
    · cases hn : numB i.op
      · rw [hn] at hx; simp at hx
      · rw [hn] at hx
        obtain rfl : x = t := by simpa using hx
        exact ⟨ht, hto⟩
theorem join_mem : ∀ (ws : List (List UInt8)) (c : UInt8), c ∈ joinB ws → c = 32 ∨ ∃ x ∈ ws, c ∈ x
  | [], c, h => by simp [joinB] at h
  | x :: t, c, h => by
    unfold joinB at h
    rcases List.mem_append.1 h with h | h
    · exact .inr ⟨x, by simp, h⟩
    · obtain ⟨y, hy, hc⟩ := List.mem_flatMap.1 h
      rcases List.mem_cons.1 hc with rfl | hc
      · exact .inl rfl
      · exact .inr ⟨y, by simp [hy], hc⟩
/-- What a written line is. -/
theorem line_facts {i : I5} (h0 : 1 ≤ i.op) (h1 : i.op ≤ 17) {t : List UInt8} (ht : t ≠ []) (hto : ∀ c ∈ t, okC c = true) : toks (lineL i t) = wordsT i t ∧ (∀ c ∈ lineL i t, c ≠ 10 ∧ c ≠ 59) := by
  have hw := words_ok h0 h1 ht hto
  rw [line_join]
  refine ⟨toks_join _ (fun x hx => ⟨(hw x hx).1, fun c hc => (okC_facts ((hw x hx).2 c hc)).1⟩), fun c hc => ?_⟩
  rcases join_mem _ c hc with rfl | ⟨x, hx, hc⟩
  · decide
  · have := okC_facts ((hw x hx).2 c hc)
    exact ⟨this.2.1, this.2.2.1⟩

theorem words_parse {i : I5} (h : formedB i = true) (hn0 : 0 ≤ i.n) (hn : i.n < 18446744073709551616) : parseW (wordsT i (Lib.decDigits i.n.toNat)) = some i := by
  obtain ⟨⟨h0, h1⟩, -⟩ := formed_facts h
  have hw := words_ok h0 h1 (dec_ne i.n.toNat) (dec_ok i.n.toNat)
  rw [← parse_joinB (by simp [wordsT]) (fun x hx hc => (okC_facts ((hw x hx).2 _ hc)).2.2.2.2 rfl), ← line_join, line_text h]
  exact parse_text h hn0 hn
theorem dec_nolab (n : Nat) : labB (Lib.decDigits n) = false := by
  unfold labB
  cases hd : Lib.decDigits n with
  | nil => simp
  | cons c t =>
    have := dec_mem n c (by rw [hd]; simp)
    have hl : lowB c = false := by simp [lowB]; omega
    simp [hl]
theorem named_of {op : Int} (h0 : 1 ≤ op) (h1 : op ≤ 17) : namedN ((nms[op.toNat]?).getD []) = some op.toNat := by
  rcases op17 h0 h1 with rfl | rfl | rfl | rfl | rfl | rfl | rfl | rfl | rfl | rfl | rfl | rfl | rfl | rfl | rfl | rfl | rfl <;> decide
theorem head_words (i : I5) (t : List UInt8) : ((wordsT i t).head?).getD [] = (nms[i.op.toNat]?).getD [] := rfl
theorem tgt_num {op : Int} (h : tgtB op = true) : numB op = true := by
  have hr := tgt_range h
  rcases op17 hr.1 hr.2 with q | q | q | q | q | q | q | q | q | q | q | q | q | q | q | q | q <;> rw [q] at h ⊢ <;> revert h <;> decide
theorem last_words {i : I5} (hn : numB i.op = true) (t : List UInt8) : lastW (wordsT i t) = t ∧ (wordsT i t).length = (regL i).length + 2 := by
  unfold lastW wordsT
  rw [hn]
  refine ⟨?_, by simp⟩
  rw [if_pos rfl, ← List.cons_append, List.getLast?_concat]
  rfl
theorem regL_len (i : I5) : (regL i).length = regsN i.op := by
  have := regsN_le3 i.op
  simp [regL]; omega
/-- A plain instruction uses no label. -/
theorem plain_uses {i : I5} (h : formedB i = true) : usesB (wordsT i (Lib.decDigits i.n.toNat)) = false := by
  obtain ⟨⟨h0, h1⟩, -⟩ := formed_facts h
  unfold usesB tpart
  rw [head_words, named_of h0 h1]
  have hop : ((i.op.toNat : Nat) : Int) = i.op := by omega
  cases ht : tgtB i.op
  · simp [hop, ht]
  · rw [(last_words (tgt_num ht) _).1, dec_nolab]; simp
theorem name_nocolon {i : I5} (h0 : 1 ≤ i.op) (h1 : i.op ≤ 17) : ((nms[i.op.toNat]?).getD []).getLast? ≠ some 58 := by
  rcases op17 h0 h1 with q | q | q | q | q | q | q | q | q | q | q | q | q | q | q | q | q <;> rw [q] <;> decide
theorem plain_line {i : I5} (h : formedB i = true) (hn0 : 0 ≤ i.n) (hn : i.n < 18446744073709551616) (r : Rd) (n : Nat) : lineR r n (toks (bodyL (textL i ++ [10]))) = some { r with code := r.code ++ [i] } := by
  obtain ⟨⟨h0, h1⟩, -⟩ := formed_facts h
  have lf := line_facts h0 h1 (dec_ne i.n.toNat) (dec_ok i.n.toNat)
  have hu := plain_uses h
  have hp := words_parse h hn0 hn
  rw [← line_text h, bodyL_line _ (fun c hc => (lf.2 c hc).2), lf.1]
  have e : wordsT i (Lib.decDigits i.n.toNat) = (nms[i.op.toNat]?).getD [] :: ((regL i).map (fun n => Lib.decDigits n.toNat) ++ (if numB i.op then [Lib.decDigits i.n.toNat] else [])) := rfl
  rw [e, lineR, if_neg (name_nocolon h0 h1), ← e]
  unfold insR zeroed useR
  rw [hu]
  simp [hp]
def plainF (L : List I5) : List UInt8 := L.flatMap fun i => textL i ++ [10]
theorem plain_flat (L : List I5) : plainL L = plainF L := by
  have : ∀ k, k ≤ L.length → plainK L k = plainF (L.take k) := by
    intro k
    induction k with
    | zero => intro _; simp [plainK, plainF]
    | succ k ih =>
      intro hk
      rw [plainK_succ (by omega), ih (by omega), List.take_succ_eq_append_getElem (by omega)]
      unfold plainF
      rw [List.flatMap_append]
      simp only [List.flatMap_cons, List.flatMap_nil, List.append_nil]
  have := this L.length (Nat.le_refl _)
  rw [List.take_length] at this
  exact this
theorem plain_readR : ∀ (L : List I5) (r : Rd) (n : Nat), (∀ i ∈ L, formedB i = true ∧ 0 ≤ i.n ∧ i.n < 18446744073709551616) → readR r n (linesL (plainF L)) = (n + L.length, some { r with code := r.code ++ L })
  | [], r, n, _ => by simp [plainF, linesL, readR]
  | i :: L, r, n, h => by
    obtain ⟨hf, hn0, hn⟩ := h i (by simp)
    obtain ⟨⟨h0, h1⟩, -⟩ := formed_facts hf
    have lf := line_facts h0 h1 (dec_ne i.n.toNat) (dec_ok i.n.toNat)
    rw [line_text hf] at lf
    have e : plainF (i :: L) = textL i ++ 10 :: plainF L := by simp [plainF]
    have ih := plain_readR L { r with code := r.code ++ [i] } (n + 1) (fun j hj => h j (by simp [hj]))
    rw [e, linesL_app _ _ (fun c hc => (lf.2 c hc).1), readR, plain_line hf hn0 hn]
    simp only
    rw [ih]
    simp
    omega
/-- A program's plain text is read as the program. -/
theorem plain_read (L : List I5) (h : ∀ i ∈ L, formedB i = true ∧ 0 ≤ i.n ∧ i.n < 18446744073709551616) : readT (plainL L) = (L.length, some (L, [])) := by
  unfold readT
  rw [plain_flat, plain_readR L _ _ h]
  simp [resR]
end Go.Proofs.YtkkmkfldldglgaaGreatDoor


/- What is listed is read: a program's list. No statement of the seat is proved here. -/
namespace Go.Proofs.YtkkmkfldldglgaaGreatDoor
open Go.RowKit Go.Shelf

theorem dec_inj {j k : Nat} (hj : j < 18446744073709551616) (hk : k < 18446744073709551616) (h : Lib.decDigits j = Lib.decDigits k) : j = k := by
  have h1 := decL_back j hj
  rw [h, decL_back k hk] at h1
  exact (Option.some.inj h1).symm
theorem place_inj {j k : Nat} (hj : j < 18446744073709551616) (hk : k < 18446744073709551616) (h : placeL j = placeL k) : j = k := by
  unfold placeL at h
  exact dec_inj hj hk (List.cons.inj h).2
theorem place_ok (k : Nat) : placeL k ≠ [] ∧ ∀ c ∈ placeL k, okC c = true := by
  refine ⟨by simp [placeL], fun c hc => ?_⟩
  unfold placeL at hc
  rcases List.mem_cons.1 hc with rfl | hc
  · decide
  · exact dec_ok k c hc
theorem nms_second : ∀ k : Fin 18, (((nms[k.val]?).getD [])[1]?).map (fun c => decide (48 ≤ c.toNat ∧ c.toNat ≤ 57)) ≠ some true := by decide
theorem place_lab (k : Nat) (hk : k < 18446744073709551616) : labB (placeL k) = true := by
  have hl := placeL_len k hk
  have hd := dec_ne k
  unfold labB
  have h1 : (1 ≤ (placeL k).length ∧ (placeL k).length ≤ 64) := ⟨by simp [placeL], by omega⟩
  have h2 : (((placeL k).head?).map lowB).getD false = true := by simp [placeL, lowB]
  have h3 : (placeL k).all signB = true := by
    rw [List.all_eq_true]
    intro c hc
    have := (place_ok k).2 c hc
    simp only [okC, Bool.or_eq_true, decide_eq_true_eq] at this
    simp only [signB, lowB, digB, Bool.or_eq_true, decide_eq_true_eq]
    rcases this with h | h
    · exact .inl (.inr h)
    · exact .inl (.inl h)
  have h4 : namedN (placeL k) = none := by
    cases hn : namedN (placeL k) with
    | none => rfl
    | some q =>
      exfalso
      obtain ⟨q0, q1, q2⟩ := namedN_forth hn
      have := nms_second ⟨q, by omega⟩
      simp only [q2] at this
      unfold placeL at this
      cases hx : Lib.decDigits k with
      | nil => exact hd hx
      | cons c t =>
        rw [hx] at this
        have hc := dec_mem k c (by rw [hx]; simp)
        simp [hc] at this
  rw [h2, h3, h4]
  simp [h1]

/-- An instruction whose target stands open. -/
def zN (n : Nat) (i : I5) : I5 := if aimB i n then { i with n := 0 } else i
def usesF (n : Nat) : Nat → List I5 → List (List UInt8 × Nat × Nat)
  | _, [] => []
  | k, i :: t => (if aimB i n then [(placeL i.n.toNat, k, k)] else []) ++ usesF n (k + 1) t
def marksF (f : Nat → Bool) : Nat → Nat → List (List UInt8 × Nat)
  | _, 0 => []
  | k, m + 1 => (if f k then [(placeL k, k)] else []) ++ marksF f (k + 1) m
def endP (L : List I5) : List UInt8 := if markB L L.length L.length then placeL L.length ++ [58, 10] else []
def piecesF (L : List I5) : Nat → List I5 → List UInt8
  | _, [] => endP L
  | k, i :: t => pieceL L k i ++ piecesF L (k + 1) t
theorem list_pieces (L : List I5) : listL L = piecesF L 0 L := by
  have : ∀ k, k ≤ L.length → listK L k ++ piecesF L k (L.drop k) = piecesF L 0 L := by
    intro k
    induction k with
    | zero => intro _; simp [listK]
    | succ k ih =>
      intro hk
      rw [← ih (by omega), listK_succ (by omega), List.drop_eq_getElem_cons (show k < L.length by omega), piecesF]
      simp
  have h := this L.length (Nat.le_refl _)
  rw [List.drop_length] at h
  exact h
theorem aim_facts {i : I5} {n : Nat} (h : aimB i n = true) : tgtB i.op = true ∧ i.n ≤ n := by
  rw [aim_eq] at h
  simpa using h
theorem open_formed {i : I5} (h : formedB i = true) (ht : tgtB i.op = true) : formedB { i with n := 0 } = true := by
  unfold formedB at h ⊢
  dsimp only
  simp only [Bool.and_eq_true] at h ⊢
  obtain ⟨⟨⟨⟨h1, _⟩, h3⟩, h4⟩, h5⟩ := h
  exact ⟨⟨⟨⟨h1, by rw [tgt_num ht]; rfl⟩, h3⟩, h4⟩, h5⟩
theorem dec_zero : Lib.decDigits 0 = [48] := by rw [Lib.decDigits_one (by decide)]; rfl
theorem ins_words {i : I5} (h : formedB i = true) (hn0 : 0 ≤ i.n) (hn : i.n < 18446744073709551616) (n : Nat) (r : Rd) (k : Nat) :
    insR r (wordsT i (if aimB i n then placeL i.n.toNat else Lib.decDigits i.n.toNat)) k = some { code := r.code ++ [zN n i], labs := r.labs, uses := r.uses ++ (if aimB i n then [(placeL i.n.toNat, r.code.length, k)] else []) } := by
  obtain ⟨⟨h0, h1⟩, -⟩ := formed_facts h
  cases ha : aimB i n
  · have hu := plain_uses h
    have hp := words_parse h hn0 hn
    simp only [if_neg (show ¬ (false = true) by decide)]
    unfold insR zeroed useR
    rw [hu]
    simp [hp, zN, ha]
  · obtain ⟨ht, hle⟩ := aim_facts ha
    have hnum := tgt_num ht
    have hlw := last_words hnum (placeL i.n.toNat)
    have hop : ((i.op.toNat : Nat) : Int) = i.op := by omega
    have hu : usesB (wordsT i (placeL i.n.toNat)) = true := by
      unfold usesB tpart
      rw [head_words, named_of h0 h1, hlw.1, place_lab _ (by omega), hlw.2, regL_len]
      simp [hop, ht]
    have hz : zeroed (wordsT i (placeL i.n.toNat)) = wordsT { i with n := 0 } (Lib.decDigits ({ i with n := 0 } : I5).n.toNat) := by
      unfold zeroed
      rw [hu, if_pos rfl, hlw.2]
      unfold wordsT regL
      dsimp only
      rw [hnum]
      simp only [if_true, Int.toNat_zero, dec_zero]
      have hl := regL_len i
      unfold regL at hl
      rw [hl, show regsN i.op + 2 - 1 = regsN i.op + 1 by omega, List.set_cons_succ]
      congr 1
      rw [List.set_append_right _ _ (by simp; omega)]
      simp only [List.length_map, hl, Nat.sub_self, List.set_cons_zero]
    have hp := words_parse (open_formed h ht) (by simp) (by simp)
    simp only [if_true]
    unfold insR useR
    rw [hz, hp, hu, hlw.1]
    simp [zN, ha]
theorem piece_line {L : List I5} {i : I5} (h : formedB i = true) (hn0 : 0 ≤ i.n) (hn : i.n < 18446744073709551616) (hL : L.length ≤ 65536) {k : Nat} (hk : k < L.length) (r : Rd) (hc : r.code.length = k) (hl : placeL k ∉ r.labs.map (·.1)) (X : List UInt8) :
    ∃ p, pieceL L k i = p ++ [10] ∧ linesL (pieceL L k i ++ X) = (p ++ [10]) :: linesL X ∧ lineR r k (toks (bodyL (p ++ [10]))) = some { code := r.code ++ [zN L.length i], labs := r.labs ++ (if markB L L.length k then [(placeL k, k)] else []), uses := r.uses ++ (if aimB i L.length then [(placeL i.n.toNat, k, k)] else []) } := by
  obtain ⟨⟨h0, h1⟩, -⟩ := formed_facts h
  have hT : (if aimB i L.length then namedL (textL i) else textL i) = lineL i (if aimB i L.length then placeL i.n.toNat else Lib.decDigits i.n.toNat) := by
    cases ha : aimB i L.length
    · simp only [if_neg (show ¬ (false = true) by decide)]; exact (line_text h).symm
    · simp only [if_true]; exact named_eq h (aim_facts ha).1
  have hIW := fun r' => ins_words h hn0 hn L.length r' k
  have hto : (if aimB i L.length then placeL i.n.toNat else Lib.decDigits i.n.toNat) ≠ [] ∧ ∀ c ∈ (if aimB i L.length then placeL i.n.toNat else Lib.decDigits i.n.toNat), okC c = true := by
    cases aimB i L.length
    · exact ⟨dec_ne _, dec_ok _⟩
    · exact place_ok _
  generalize (if aimB i L.length then placeL i.n.toNat else Lib.decDigits i.n.toNat) = t at *
  have lf := line_facts h0 h1 hto.1 hto.2
  have e : wordsT i t = (nms[i.op.toNat]?).getD [] :: ((regL i).map (fun n => Lib.decDigits n.toNat) ++ (if numB i.op then [t] else [])) := rfl
  have hIL : ∀ r', lineR r' k (wordsT i t) = insR r' (wordsT i t) k := fun r' => by
    rw [e, lineR, if_neg (name_nocolon h0 h1)]
  have po := place_ok k
  cases hm : markB L L.length k
  · refine ⟨lineL i t, ?_, ?_, ?_⟩
    · unfold pieceL; rw [hT, hm]; simp
    · unfold pieceL; rw [hT, hm]
      have := linesL_app (lineL i t) X (fun c hc => (lf.2 c hc).1)
      simpa using this
    · rw [bodyL_line _ (fun c hc => (lf.2 c hc).2), lf.1, hIL, hIW, hc]
      simp
  · refine ⟨placeL k ++ 58 :: 32 :: lineL i t, ?_, ?_, ?_⟩
    · unfold pieceL; rw [hT, hm]; simp
    · unfold pieceL; rw [hT, hm]
      have := linesL_app (placeL k ++ 58 :: 32 :: lineL i t) X (fun c hc => by
        rcases List.mem_append.1 hc with hc | hc
        · exact (okC_facts (po.2 c hc)).2.1
        · rcases List.mem_cons.1 hc with rfl | hc
          · decide
          · rcases List.mem_cons.1 hc with rfl | hc
            · decide
            · exact (lf.2 c hc).1)
      simpa using this
    · rw [bodyL_line _ (fun c hc => by
        rcases List.mem_append.1 hc with hc | hc
        · exact (okC_facts (po.2 c hc)).2.2.1
        · rcases List.mem_cons.1 hc with rfl | hc
          · decide
          · rcases List.mem_cons.1 hc with rfl | hc
            · decide
            · exact (lf.2 c hc).2), toks_colon _ _ (fun c hc => (okC_facts (po.2 c hc)).1) po.1, toks_blank, lf.1, lineR, if_pos (by simp), List.dropLast_concat]
      unfold standR
      rw [if_pos ⟨place_lab k (by omega), hl⟩]
      simp only [Option.bind_some]
      rw [hIL, hIW]
      simp [hc]
end Go.Proofs.YtkkmkfldldglgaaGreatDoor


/- A program's list is read as the program, its labels the places that are targets. No statement of the seat is proved here. -/
namespace Go.Proofs.YtkkmkfldldglgaaGreatDoor
open Go.RowKit Go.Shelf

theorem pieces_readR {L : List I5} (hL : L.length ≤ 65536) : ∀ (t : List I5) (k : Nat) (r : Rd), k + t.length = L.length → (∀ i ∈ t, formedB i = true ∧ 0 ≤ i.n ∧ i.n < 18446744073709551616) → r.code.length = k → (∀ x ∈ r.labs, ∃ j, j < k ∧ x.1 = placeL j) →
    readR r k (linesL (piecesF L k t)) = (L.length + (if markB L L.length L.length then 1 else 0), some { code := r.code ++ t.map (zN L.length), labs := r.labs ++ marksF (markB L L.length) k (t.length + 1), uses := r.uses ++ usesF L.length k t })
  | [], k, r, hk, _, hc, hl => by
    have hkL : k = L.length := by simpa using hk
    subst hkL
    have hnl : placeL L.length ∉ r.labs.map (·.1) := fun hm => by
      obtain ⟨x, hx, e⟩ := List.mem_map.1 hm
      obtain ⟨j, hj, e'⟩ := hl x hx
      have := place_inj (show j < 18446744073709551616 by omega) (show L.length < 18446744073709551616 by omega) (e'.symm.trans e)
      omega
    unfold piecesF endP
    cases hm : markB L L.length L.length
    · simp [linesL, readR, marksF, usesF, hm]
    · have po := place_ok L.length
      have hlin := linesL_app (placeL L.length ++ [58]) [] (fun c hc => by
        rcases List.mem_append.1 hc with hc | hc
        · exact (okC_facts (po.2 c hc)).2.1
        · obtain rfl : c = 58 := by simpa using hc
          decide)
      have e : placeL L.length ++ [58, 10] = placeL L.length ++ [58] ++ 10 :: [] := by simp
      simp only [if_true]
      rw [e, hlin, readR, bodyL_line _ (fun c hc => by
        rcases List.mem_append.1 hc with hc | hc
        · exact (okC_facts (po.2 c hc)).2.2.1
        · obtain rfl : c = 58 := by simpa using hc
          decide), toks_colon _ _ (fun c hc => (okC_facts (po.2 c hc)).1) po.1, toks_empty, lineR, if_pos (by simp), List.dropLast_concat]
      unfold standR
      rw [if_pos ⟨place_lab _ (by omega), hnl⟩]
      simp [lineR, linesL, readR, marksF, usesF, hm, hc]
  | i :: t, k, r, hk, hf, hc, hl => by
    obtain ⟨h1, h2, h3⟩ := hf i (by simp)
    have hkL : k < L.length := by simp at hk; omega
    have hnl : placeL k ∉ r.labs.map (·.1) := fun hm => by
      obtain ⟨x, hx, e⟩ := List.mem_map.1 hm
      obtain ⟨j, hj, e'⟩ := hl x hx
      have := place_inj (show j < 18446744073709551616 by omega) (show k < 18446744073709551616 by omega) (e'.symm.trans e)
      omega
    obtain ⟨p, _, q2, q3⟩ := piece_line h1 h2 h3 hL hkL r hc hnl (piecesF L (k + 1) t)
    rw [piecesF, q2, readR, q3]
    simp only
    rw [pieces_readR hL t (k + 1) _ (by simp at hk; omega) (fun j hj => hf j (by simp [hj])) (by simp [hc]) (fun x hx => by
      rcases List.mem_append.1 hx with hx | hx
      · obtain ⟨j, hj, e⟩ := hl x hx
        exact ⟨j, by omega, e⟩
      · cases hm : markB L L.length k
        · rw [hm] at hx; simp at hx
        · rw [hm] at hx
          obtain rfl : x = (placeL k, k) := by simpa using hx
          exact ⟨k, by omega, rfl⟩)]
    simp [marksF, usesF]

theorem marks_lookup {f : Nat → Bool} : ∀ (m k j : Nat), k ≤ j → j < k + m → j < 18446744073709551616 → f j = true → (marksF f k m).lookup (placeL j) = some j
  | 0, k, j, h0, h1, _, _ => by omega
  | m + 1, k, j, h0, h1, h2, h3 => by
    unfold marksF
    by_cases he : k = j
    · subst he
      rw [h3]
      simp
    · have ih := marks_lookup m (k + 1) j (by omega) (by omega) h2 h3
      have hne : (placeL j == placeL k) = false := by
        simp only [beq_eq_false_iff_ne]
        exact fun e => he (place_inj (by omega) h2 e.symm)
      cases f k
      · simpa using ih
      · simp only [if_true, List.cons_append, List.nil_append, List.lookup, hne]
        exact ih
theorem modify_mid {f : I5 → I5} {x : I5} {r : List I5} : ∀ pre : List I5, (pre ++ x :: r).modify pre.length f = pre ++ f x :: r
  | [] => by simp
  | c :: t => by simp [modify_mid t]
theorem mark_of_aim {L : List I5} {i : I5} (hi : i ∈ L) (h0 : 0 ≤ i.n) (ha : aimB i L.length = true) : markB L L.length i.n.toNat = true := by
  unfold markB
  rw [List.any_eq_true]
  exact ⟨i, hi, by rw [ha]; simp; omega⟩
theorem res_pieces {n : Nat} {labs : List (List UInt8 × Nat)} : ∀ (t : List I5) (pre : List I5), (∀ i ∈ t, 0 ≤ i.n ∧ (aimB i n = true → labs.lookup (placeL i.n.toNat) = some i.n.toNat)) → resR labs (pre ++ t.map (zN n)) (usesF n pre.length t) = (none, pre ++ t)
  | [], pre, _ => by simp [usesF, resR]
  | i :: t, pre, h => by
    obtain ⟨h1, h2⟩ := h i (by simp)
    have ih := res_pieces t (pre ++ [i]) (fun j hj => h j (by simp [hj]))
    simp only [List.length_append, List.length_cons, List.length_nil, Nat.zero_add] at ih
    unfold usesF
    cases ha : aimB i n
    · have hz : zN n i = i := by simp [zN, ha]
      simp only [if_neg (show ¬ (false = true) by decide), List.nil_append, List.map_cons, hz]
      simpa using ih
    · have hz : zN n i = { i with n := 0 } := by simp [zN, ha]
      simp only [if_true, List.cons_append, List.nil_append, List.map_cons, hz]
      unfold resR
      rw [h2 ha]
      simp only
      have hs : setN (pre ++ { i with n := 0 } :: t.map (zN n)) pre.length i.n.toNat = pre ++ [i] ++ t.map (zN n) := by
        unfold setN
        have e : ((i.n.toNat : Nat) : Int) = i.n := by omega
        rw [modify_mid]
        simp [e]
      rw [hs, ih]
      simp
/-- A program's list is read as the program. -/
theorem list_read (L : List I5) (hL : L.length ≤ 65536) (h : ∀ i ∈ L, formedB i = true ∧ 0 ≤ i.n ∧ i.n < 18446744073709551616) :
    readT (listL L) = (L.length + (if markB L L.length L.length then 1 else 0), some (L, marksF (markB L L.length) 0 (L.length + 1))) := by
  unfold readT
  rw [list_pieces, pieces_readR hL L 0 ⟨[], [], []⟩ (by simp) h rfl (fun x hx => by simp at hx)]
  simp only [List.nil_append]
  have hr := res_pieces (n := L.length) (labs := marksF (markB L L.length) 0 (L.length + 1)) L [] (fun i hi => ⟨(h i hi).2.1, fun ha => by
    have ham := aim_facts ha
    have h0 := (h i hi).2.1
    exact marks_lookup _ 0 i.n.toNat (Nat.zero_le _) (by omega) (by omega) (mark_of_aim hi h0 ha)⟩)
  simp only [List.nil_append, List.length_nil] at hr
  rw [hr]
end Go.Proofs.YtkkmkfldldglgaaGreatDoor
