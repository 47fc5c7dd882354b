/-
  No statement of the seat is proved here. (Several texts in one: AuF, AuG, AuH, AvA, AwA, AvB, AvC.)
-/
import Derived.Test.YtlhmlajcgbnihaaGreatDoorAuA
import Derived.Test.YtlhmlajcgbnihaaGreatDoorAsQ
import Derived.Laws.Strings3

/- What is written is read: a program's plain text. No statement of the seat is proved here. -/
namespace Go.Proofs.YtlhmlajcgbnihaaGreatDoor
open Go.RowKit Go.Shelf

theorem nextW_word (x r : List UInt8) (hx : ∀ c ∈ x, brk c = false) (hne : x ≠ []) : nextW (x ++ 32 :: r) = (x, 32 :: r) := by
  have hd : (x ++ 32 :: r).dropWhile blk = x ++ 32 :: r := by
    cases x with
    | nil => exact absurd rfl hne
    | cons c t =>
      have hc := hx c (by simp)
      simp only [brk, Bool.or_eq_false_iff] at hc
      simp [hc.1]
  unfold nextW
  rw [hd, wordOf_at (x ++ 32 :: r) x.length (by simp) (fun j hj => by rw [List.getElem_append_left hj]; exact hx _ (List.getElem_mem hj)) (by simp [brk, blk])]
  simp
theorem nextW_colon (x r : List UInt8) (hx : ∀ c ∈ x, brk c = false) (hne : x ≠ []) : nextW (x ++ 58 :: r) = (x ++ [58], r) := by
  have hd : (x ++ 58 :: r).dropWhile blk = x ++ 58 :: r := by
    cases x with
    | nil => exact absurd rfl hne
    | cons c t =>
      have hc := hx c (by simp)
      simp only [brk, Bool.or_eq_false_iff] at hc
      simp [hc.1]
  unfold nextW
  rw [hd, wordOf_at (x ++ 58 :: r) x.length (by simp) (fun j hj => by rw [List.getElem_append_left hj]; exact hx _ (List.getElem_mem hj)) (by simp [brk])]
  simp [List.take_append, List.drop_append, List.take_of_length_le]
theorem nextW_end (x : List UInt8) (hx : ∀ c ∈ x, brk c = false) (hne : x ≠ []) : nextW x = (x, []) := by
  have hd : x.dropWhile blk = x := by
    cases x with
    | nil => exact absurd rfl hne
    | cons c t =>
      have hc := hx c (by simp)
      simp only [brk, Bool.or_eq_false_iff] at hc
      simp [hc.1]
  unfold nextW
  rw [hd, wordOf_no x hx]
theorem toks_blank (r : List UInt8) : toks (32 :: r) = toks r := by
  have h : nextW (32 :: r) = nextW r := by unfold nextW; rw [List.dropWhile_cons]; simp [blk]
  by_cases hn : (nextW r).1 = []
  · rw [toks_nil hn, toks_nil (by rw [h]; exact hn)]
  · rw [toks_cons hn, toks_cons (by rw [h]; exact hn), h]
theorem toks_empty : toks [] = [] := toks_nil rfl
theorem toks_join : ∀ ws : List (List UInt8), (∀ x ∈ ws, x ≠ [] ∧ ∀ c ∈ x, brk c = false) → toks (joinB ws) = ws
  | [], _ => toks_empty
  | [x], h => by
    have hx := h x (by simp)
    have e : joinB [x] = x := by simp [joinB]
    rw [e, toks_cons (by rw [nextW_end x hx.2 hx.1]; exact hx.1), nextW_end x hx.2 hx.1, toks_empty]
  | x :: y :: t, h => by
    have hx := h x (by simp)
    have e : joinB (x :: y :: t) = x ++ 32 :: joinB (y :: t) := by simp [joinB]
    have ih := toks_join (y :: t) (fun z hz => h z (by simp [hz]))
    rw [e, toks_cons (by rw [nextW_word x _ hx.2 hx.1]; exact hx.1), nextW_word x _ hx.2 hx.1, toks_blank, ih]
theorem toks_colon (x r : List UInt8) (hx : ∀ c ∈ x, brk c = false) (hne : x ≠ []) : toks (x ++ 58 :: r) = (x ++ [58]) :: toks r := by
  rw [toks_cons (by rw [nextW_colon x r hx hne]; simp), nextW_colon x r hx hne]
theorem linesL_app : ∀ (l r : List UInt8), (∀ c ∈ l, c ≠ 10) → linesL (l ++ 10 :: r) = (l ++ [10]) :: linesL r
  | [], r, _ => by simp [linesL]
  | c :: t, r, h => by
    have ih := linesL_app t r (fun d hd => h d (by simp [hd]))
    have hc := h c (by simp)
    rw [List.cons_append, linesL, if_neg hc, ih]
    rfl
theorem takeWhile_all {p : UInt8 → Bool} : ∀ {l : List UInt8}, (∀ c ∈ l, p c = true) → l.takeWhile p = l
  | [], _ => rfl
  | c :: t, h => by rw [List.takeWhile_cons, if_pos (h c (by simp)), takeWhile_all (fun d hd => h d (by simp [hd]))]
theorem bodyL_line (l : List UInt8) (h : ∀ c ∈ l, c ≠ 59) : bodyL (l ++ [10]) = l := by
  unfold bodyL
  rw [if_pos (by simp), List.dropLast_concat]
  exact takeWhile_all (fun c hc => by simpa using h c hc)

/-- An instruction's words, with a word in the place of its number. -/
def wordsT (i : I5) (t : List UInt8) : List (List UInt8) := (nms[i.op.toNat]?).getD [] :: ((regL i).map (fun n => Lib.decDigits n.toNat) ++ (if numB i.op then [t] else []))
theorem line_join (i : I5) (t : List UInt8) : lineL i t = joinB (wordsT i t) := by
  unfold lineL wordsT joinB blanked
  cases numB i.op <;> simp [List.flatMap_map]
/-- A letter of a name, of a digit, or of a place's name. -/
def okC (c : UInt8) : Bool := decide (48 ≤ c.toNat ∧ c.toNat ≤ 57) || decide (97 ≤ c.toNat ∧ c.toNat ≤ 122)
theorem okC_facts {c : UInt8} (h : okC c = true) : brk c = false ∧ c ≠ 10 ∧ c ≠ 59 ∧ c ≠ 58 ∧ c ≠ 32 := by
  simp only [okC, Bool.or_eq_true, decide_eq_true_eq] at h
  have : c ≠ 32 ∧ c ≠ 9 ∧ c ≠ 58 ∧ c ≠ 10 ∧ c ≠ 59 := by
    refine ⟨?_, ?_, ?_, ?_, ?_⟩ <;> (rintro rfl; revert h; decide)
  simp [brk, blk, this]
theorem dec_ok (n : Nat) : ∀ c ∈ Lib.decDigits n, okC c = true := fun c hc => by
  have := dec_mem n c hc
  simp [okC, this]
theorem nms_ok : ∀ k : Fin 18, ((nms[k.val]?).getD []).all okC = true ∧ (k.val ≠ 0 → (nms[k.val]?).getD [] ≠ []) := by decide
theorem words_ok {i : I5} (h0 : 1 ≤ i.op) (h1 : i.op ≤ 17) {t : List UInt8} (ht : t ≠ []) (hto : ∀ c ∈ t, okC c = true) : ∀ x ∈ wordsT i t, x ≠ [] ∧ ∀ c ∈ x, okC c = true := by
  intro x hx
  unfold wordsT at hx
  have hk := nms_ok ⟨i.op.toNat, by omega⟩
  rcases List.mem_cons.1 hx with rfl | hx
  · exact ⟨hk.2 (by simp; omega), fun c hc => List.all_eq_true.1 hk.1 c hc⟩
  · rcases List.mem_append.1 hx with hx | hx
    · obtain ⟨n, _, rfl⟩ := List.mem_map.1 hx
      exact ⟨dec_ne _, dec_ok _⟩
    · cases hn : numB i.op
      · rw [hn] at hx; simp at hx
      · rw [hn] at hx
        obtain rfl : x = t := by simpa using hx
        exact ⟨ht, hto⟩
theorem join_mem : ∀ (ws : List (List UInt8)) (c : UInt8), c ∈ joinB ws → c = 32 ∨ ∃ x ∈ ws, c ∈ x
  | [], c, h => by simp [joinB] at h
  | x :: t, c, h => by
    unfold joinB at h
    rcases List.mem_append.1 h with h | h
    · exact .inr ⟨x, by simp, h⟩
    · obtain ⟨y, hy, hc⟩ := List.mem_flatMap.1 h
      rcases List.mem_cons.1 hc with rfl | hc
      · exact .inl rfl
      · exact .inr ⟨y, by simp [hy], hc⟩
/-- What a written line is. -/
theorem line_facts {i : I5} (h0 : 1 ≤ i.op) (h1 : i.op ≤ 17) {t : List UInt8} (ht : t ≠ []) (hto : ∀ c ∈ t, okC c = true) : toks (lineL i t) = wordsT i t ∧ (∀ c ∈ lineL i t, c ≠ 10 ∧ c ≠ 59) := by
  have hw := words_ok h0 h1 ht hto
  rw [line_join]
  refine ⟨toks_join _ (fun x hx => ⟨(hw x hx).1, fun c hc => (okC_facts ((hw x hx).2 c hc)).1⟩), fun c hc => ?_⟩
  rcases join_mem _ c hc with rfl | ⟨x, hx, hc⟩
  · decide
  · have := okC_facts ((hw x hx).2 c hc)
    exact ⟨this.2.1, this.2.2.1⟩

theorem words_parse {i : I5} (h : formedB i = true) (hn0 : 0 ≤ i.n) (hn : i.n < 18446744073709551616) : parseW (wordsT i (Lib.decDigits i.n.toNat)) = some i := by
  obtain ⟨⟨h0, h1⟩, -⟩ := formed_facts h
  have hw := words_ok h0 h1 (dec_ne i.n.toNat) (dec_ok i.n.toNat)
  rw [← parse_joinB (by simp [wordsT]) (fun x hx hc => (okC_facts ((hw x hx).2 _ hc)).2.2.2.2 rfl), ← line_join, line_text h]
  exact parse_text h hn0 hn
theorem dec_nolab (n : Nat) : labB (Lib.decDigits n) = false := by
  unfold labB
  cases hd : Lib.decDigits n with
  | nil => simp
  | cons c t =>
    have := dec_mem n c (by rw [hd]; simp)
    have hl : lowB c = false := by simp [lowB]; omega
    simp [hl]
theorem named_of {op : Int} (h0 : 1 ≤ op) (h1 : op ≤ 17) : namedN ((nms[op.toNat]?).getD []) = some op.toNat := by
  rcases op17 h0 h1 with rfl | rfl | rfl | rfl | rfl | rfl | rfl | rfl | rfl | rfl | rfl | rfl | rfl | rfl | rfl | rfl | rfl <;> decide
theorem head_words (i : I5) (t : List UInt8) : ((wordsT i t).head?).getD [] = (nms[i.op.toNat]?).getD [] := rfl
theorem tgt_num {op : Int} (h : tgtB op = true) : numB op = true := by
  have hr := tgt_range h
  rcases op17 hr.1 hr.2 with q | q | q | q | q | q | q | q | q | q | q | q | q | q | q | q | q <;> rw [q] at h ⊢ <;> revert h <;> decide
theorem last_words {i : I5} (hn : numB i.op = true) (t : List UInt8) : lastW (wordsT i t) = t ∧ (wordsT i t).length = (regL i).length + 2 := by
  unfold lastW wordsT
  rw [hn]
  refine ⟨?_, by simp⟩
  rw [if_pos rfl, ← List.cons_append, List.getLast?_concat]
  rfl
theorem regL_len (i : I5) : (regL i).length = regsN i.op := by
  have := regsN_le3 i.op
  simp [regL]; omega
/-- A plain instruction uses no label. -/
theorem plain_uses {i : I5} (h : formedB i = true) : usesB (wordsT i (Lib.decDigits i.n.toNat)) = false := by
  obtain ⟨⟨h0, h1⟩, -⟩ := formed_facts h
  unfold usesB tpart
  rw [head_words, named_of h0 h1]
  have hop : ((i.op.toNat : Nat) : Int) = i.op := by omega
  cases ht : tgtB i.op
  · simp [hop, ht]
  · rw [(last_words (tgt_num ht) _).1, dec_nolab]; simp
theorem name_nocolon {i : I5} (h0 : 1 ≤ i.op) (h1 : i.op ≤ 17) : ((nms[i.op.toNat]?).getD []).getLast? ≠ some 58 := by
  rcases op17 h0 h1 with q | q | q | q | q | q | q | q | q | q | q | q | q | q | q | q | q <;> rw [q] <;> decide
theorem plain_line {i : I5} (h : formedB i = true) (hn0 : 0 ≤ i.n) (hn : i.n < 18446744073709551616) (r : Rd) (n : Nat) : lineR r n (toks (bodyL (textL i ++ [10]))) = some { r with code := r.code ++ [i] } := by
  obtain ⟨⟨h0, h1⟩, -⟩ := formed_facts h
  have lf := line_facts h0 h1 (dec_ne i.n.toNat) (dec_ok i.n.toNat)
  have hu := plain_uses h
  have hp := words_parse h hn0 hn
  rw [← line_text h, bodyL_line _ (fun c hc => (lf.2 c hc).2), lf.1]
  have e : wordsT i (Lib.decDigits i.n.toNat) = (nms[i.op.toNat]?).getD [] :: ((regL i).map (fun n => Lib.decDigits n.toNat) ++ (if numB i.op then [Lib.decDigits i.n.toNat] else [])) := rfl
  rw [e, lineR, if_neg (name_nocolon h0 h1), ← e]
  unfold insR zeroed useR
  rw [hu]
  simp [hp]
def plainF (L : List I5) : List UInt8 := L.flatMap fun i => textL i ++ [10]
theorem plain_flat (L : List I5) : plainL L = plainF L := by
  have : ∀ k, k ≤ L.length → plainK L k = plainF (L.take k) := by
    intro k
    induction k with
    | zero => intro _; simp [plainK, plainF]
    | succ k ih =>
      intro hk
      rw [plainK_succ (by omega), ih (by omega), List.take_succ_eq_append_getElem (by omega)]
      unfold plainF
      rw [List.flatMap_append]
      simp only [List.flatMap_cons, List.flatMap_nil, List.append_nil]
  have := this L.length (Nat.le_refl _)
  rw [List.take_length] at this
  exact this
theorem plain_readR : ∀ (L : List I5) (r : Rd) (n : Nat), (∀ i ∈ L, formedB i = true ∧ 0 ≤ i.n ∧ i.n < 18446744073709551616) → readR r n (linesL (plainF L)) = (n + L.length, some { r with code := r.code ++ L })
  | [], r, n, _ => by simp [plainF, linesL, readR]
  | i :: L, r, n, h => by
    obtain ⟨hf, hn0, hn⟩ := h i (by simp)
    obtain ⟨⟨h0, h1⟩, -⟩ := formed_facts hf
    have lf := line_facts h0 h1 (dec_ne i.n.toNat) (dec_ok i.n.toNat)
    rw [line_text hf] at lf
    have e : plainF (i :: L) = textL i ++ 10 :: plainF L := by simp [plainF]
    have ih := plain_readR L { r with code := r.code ++ [i] } (n + 1) (fun j hj => h j (by simp [hj]))
    rw [e, linesL_app _ _ (fun c hc => (lf.2 c hc).1), readR, plain_line hf hn0 hn]
    simp only
    rw [ih]
    simp
    omega
/-- A program's plain text is read as the program. -/
theorem plain_read (L : List I5) (h : ∀ i ∈ L, formedB i = true ∧ 0 ≤ i.n ∧ i.n < 18446744073709551616) : readT (plainL L) = (L.length, some (L, [])) := by
  unfold readT
  rw [plain_flat, plain_readR L _ _ h]
  simp [resR]
end Go.Proofs.YtlhmlajcgbnihaaGreatDoor


/- What is listed is read: a program's list. No statement of the seat is proved here. -/
namespace Go.Proofs.YtlhmlajcgbnihaaGreatDoor
open Go.RowKit Go.Shelf

theorem dec_inj {j k : Nat} (hj : j < 18446744073709551616) (hk : k < 18446744073709551616) (h : Lib.decDigits j = Lib.decDigits k) : j = k := by
  have h1 := decL_back j hj
  rw [h, decL_back k hk] at h1
  exact (Option.some.inj h1).symm
theorem place_inj {j k : Nat} (hj : j < 18446744073709551616) (hk : k < 18446744073709551616) (h : placeL j = placeL k) : j = k := by
  unfold placeL at h
  exact dec_inj hj hk (List.cons.inj h).2
theorem place_ok (k : Nat) : placeL k ≠ [] ∧ ∀ c ∈ placeL k, okC c = true := by
  refine ⟨by simp [placeL], fun c hc => ?_⟩
  unfold placeL at hc
  rcases List.mem_cons.1 hc with rfl | hc
  · decide
  · exact dec_ok k c hc
theorem nms_second : ∀ k : Fin 18, (((nms[k.val]?).getD [])[1]?).map (fun c => decide (48 ≤ c.toNat ∧ c.toNat ≤ 57)) ≠ some true := by decide
theorem place_lab (k : Nat) (hk : k < 18446744073709551616) : labB (placeL k) = true := by
  have hl := placeL_len k hk
  have hd := dec_ne k
  unfold labB
  have h1 : (1 ≤ (placeL k).length ∧ (placeL k).length ≤ 64) := ⟨by simp [placeL], by omega⟩
  have h2 : (((placeL k).head?).map lowB).getD false = true := by simp [placeL, lowB]
  have h3 : (placeL k).all signB = true := by
    rw [List.all_eq_true]
    intro c hc
    have := (place_ok k).2 c hc
    simp only [okC, Bool.or_eq_true, decide_eq_true_eq] at this
    simp only [signB, lowB, digB, Bool.or_eq_true, decide_eq_true_eq]
    rcases this with h | h
    · exact .inl (.inr h)
    · exact .inl (.inl h)
  have h4 : namedN (placeL k) = none := by
    cases hn : namedN (placeL k) with
    | none => rfl
    | some q =>
      exfalso
      obtain ⟨q0, q1, q2⟩ := namedN_forth hn
      have := nms_second ⟨q, by omega⟩
      simp only [q2] at this
      unfold placeL at this
      cases hx : Lib.decDigits k with
      | nil => exact hd hx
      | cons c t =>
        rw [hx] at this
        have hc := dec_mem k c (by rw [hx]; simp)
        simp [hc] at this
  rw [h2, h3, h4]
  simp [h1]

/-- An instruction whose target stands open. -/
def zN (n : Nat) (i : I5) : I5 := if aimB i n then { i with n := 0 } else i
def usesF (n : Nat) : Nat → List I5 → List (List UInt8 × Nat × Nat)
  | _, [] => []
  | k, i :: t => (if aimB i n then [(placeL i.n.toNat, k, k)] else []) ++ usesF n (k + 1) t
def marksF (f : Nat → Bool) : Nat → Nat → List (List UInt8 × Nat)
  | _, 0 => []
  | k, m + 1 => (if f k then [(placeL k, k)] else []) ++ marksF f (k + 1) m
def endP (L : List I5) : List UInt8 := if markB L L.length L.length then placeL L.length ++ [58, 10] else []
def piecesF (L : List I5) : Nat → List I5 → List UInt8
  | _, [] => endP L
  | k, i :: t => pieceL L k i ++ piecesF L (k + 1) t
theorem list_pieces (L : List I5) : listL L = piecesF L 0 L := by
  have : ∀ k, k ≤ L.length → listK L k ++ piecesF L k (L.drop k) = piecesF L 0 L := by
    intro k
    induction k with
    | zero => intro _; simp [listK]
    | succ k ih =>
      intro hk
      rw [← ih (by omega), listK_succ (by omega), List.drop_eq_getElem_cons (show k < L.length by omega), piecesF]
      simp
  have h := this L.length (Nat.le_refl _)
  rw [List.drop_length] at h
  exact h
theorem aim_facts {i : I5} {n : Nat} (h : aimB i n = true) : tgtB i.op = true ∧ i.n ≤ n := by
  rw [aim_eq] at h
  simpa using h
theorem open_formed {i : I5} (h : formedB i = true) (ht : tgtB i.op = true) : formedB { i with n := 0 } = true := by
  unfold formedB at h ⊢
  dsimp only
  simp only [Bool.and_eq_true] at h ⊢
  obtain ⟨⟨⟨⟨h1, _⟩, h3⟩, h4⟩, h5⟩ := h
  exact ⟨⟨⟨⟨h1, by rw [tgt_num ht]; rfl⟩, h3⟩, h4⟩, h5⟩
theorem dec_zero : Lib.decDigits 0 = [48] := by rw [Lib.decDigits_one (by decide)]; rfl
theorem ins_words {i : I5} (h : formedB i = true) (hn0 : 0 ≤ i.n) (hn : i.n < 18446744073709551616) (n : Nat) (r : Rd) (k : Nat) :
    insR r (wordsT i (if aimB i n then placeL i.n.toNat else Lib.decDigits i.n.toNat)) k = some { code := r.code ++ [zN n i], labs := r.labs, uses := r.uses ++ (if aimB i n then [(placeL i.n.toNat, r.code.length, k)] else []) } := by
  obtain ⟨⟨h0, h1⟩, -⟩ := formed_facts h
  cases ha : aimB i n
  · have hu := plain_uses h
    have hp := words_parse h hn0 hn
    simp only [if_neg (show ¬ (false = true) by decide)]
    unfold insR zeroed useR
    rw [hu]
    simp [hp, zN, ha]
  · obtain ⟨ht, hle⟩ := aim_facts ha
    have hnum := tgt_num ht
    have hlw := last_words hnum (placeL i.n.toNat)
    have hop : ((i.op.toNat : Nat) : Int) = i.op := by omega
    have hu : usesB (wordsT i (placeL i.n.toNat)) = true := by
      unfold usesB tpart
      rw [head_words, named_of h0 h1, hlw.1, place_lab _ (by omega), hlw.2, regL_len]
      simp [hop, ht]
    have hz : zeroed (wordsT i (placeL i.n.toNat)) = wordsT { i with n := 0 } (Lib.decDigits ({ i with n := 0 } : I5).n.toNat) := by
      unfold zeroed
      rw [hu, if_pos rfl, hlw.2]
      unfold wordsT regL
      dsimp only
      rw [hnum]
      simp only [if_true, Int.toNat_zero, dec_zero]
      have hl := regL_len i
      unfold regL at hl
      rw [hl, show regsN i.op + 2 - 1 = regsN i.op + 1 by omega, List.set_cons_succ]
      congr 1
      rw [List.set_append_right _ _ (by simp; omega)]
      simp only [List.length_map, hl, Nat.sub_self, List.set_cons_zero]
    have hp := words_parse (open_formed h ht) (by simp) (by simp)
    simp only [if_true]
    unfold insR useR
    rw [hz, hp, hu, hlw.1]
    simp [zN, ha]
theorem piece_line {L : List I5} {i : I5} (h : formedB i = true) (hn0 : 0 ≤ i.n) (hn : i.n < 18446744073709551616) (hL : L.length ≤ 65536) {k : Nat} (hk : k < L.length) (r : Rd) (hc : r.code.length = k) (hl : placeL k ∉ r.labs.map (·.1)) (X : List UInt8) :
    ∃ p, pieceL L k i = p ++ [10] ∧ linesL (pieceL L k i ++ X) = (p ++ [10]) :: linesL X ∧ lineR r k (toks (bodyL (p ++ [10]))) = some { code := r.code ++ [zN L.length i], labs := r.labs ++ (if markB L L.length k then [(placeL k, k)] else []), uses := r.uses ++ (if aimB i L.length then [(placeL i.n.toNat, k, k)] else []) } := by
  obtain ⟨⟨h0, h1⟩, -⟩ := formed_facts h
  have hT : (if aimB i L.length then namedL (textL i) else textL i) = lineL i (if aimB i L.length then placeL i.n.toNat else Lib.decDigits i.n.toNat) := by
    cases ha : aimB i L.length
    · simp only [if_neg (show ¬ (false = true) by decide)]; exact (line_text h).symm
    · simp only [if_true]; exact named_eq h (aim_facts ha).1
  have hIW := fun r' => ins_words h hn0 hn L.length r' k
  have hto : (if aimB i L.length then placeL i.n.toNat else Lib.decDigits i.n.toNat) ≠ [] ∧ ∀ c ∈ (if aimB i L.length then placeL i.n.toNat else Lib.decDigits i.n.toNat), okC c = true := by
    cases aimB i L.length
    · exact ⟨dec_ne _, dec_ok _⟩
    · exact place_ok _
  generalize (if aimB i L.length then placeL i.n.toNat else Lib.decDigits i.n.toNat) = t at *
  have lf := line_facts h0 h1 hto.1 hto.2
  have e : wordsT i t = (nms[i.op.toNat]?).getD [] :: ((regL i).map (fun n => Lib.decDigits n.toNat) ++ (if numB i.op then [t] else [])) := rfl
  have hIL : ∀ r', lineR r' k (wordsT i t) = insR r' (wordsT i t) k := fun r' => by
    rw [e, lineR, if_neg (name_nocolon h0 h1)]
  have po := place_ok k
  cases hm : markB L L.length k
  · refine ⟨lineL i t, ?_, ?_, ?_⟩
    · unfold pieceL; rw [hT, hm]; simp
    · unfold pieceL; rw [hT, hm]
      have := linesL_app (lineL i t) X (fun c hc => (lf.2 c hc).1)
      simpa using this
    · rw [bodyL_line _ (fun c hc => (lf.2 c hc).2), lf.1, hIL, hIW, hc]
      simp
  · refine ⟨placeL k ++ 58 :: 32 :: lineL i t, ?_, ?_, ?_⟩
    · unfold pieceL; rw [hT, hm]; simp
    · unfold pieceL; rw [hT, hm]
      have := linesL_app (placeL k ++ 58 :: 32 :: lineL i t) X (fun c hc => by
        rcases List.mem_append.1 hc with hc | hc
        · exact (okC_facts (po.2 c hc)).2.1
        · rcases List.mem_cons.1 hc with rfl | hc
          · decide
          · rcases List.mem_cons.1 hc with rfl | hc
            · decide
            · exact (lf.2 c hc).1)
      simpa using this
    · rw [bodyL_line _ (fun c hc => by
        rcases List.mem_append.1 hc with hc | hc
        · exact (okC_facts (po.2 c hc)).2.2.1
        · rcases List.mem_cons.1 hc with rfl | hc
          · decide
          · rcases List.mem_cons.1 hc with rfl | hc
            · decide
            · exact (lf.2 c hc).2), toks_colon _ _ (fun c hc => (okC_facts (po.2 c hc)).1) po.1, toks_blank, lf.1, lineR, if_pos (by simp), List.dropLast_concat]
      unfold standR
      rw [if_pos ⟨place_lab k (by omega), hl⟩]
      simp only [Option.bind_some]
      rw [hIL, hIW]
      simp [hc]
end Go.Proofs.YtlhmlajcgbnihaaGreatDoor


/- A program's list is read as the program, its labels the places that are targets. No statement of the seat is proved here. -/
namespace Go.Proofs.YtlhmlajcgbnihaaGreatDoor
open Go.RowKit Go.Shelf

theorem pieces_readR {L : List I5} (hL : L.length ≤ 65536) : ∀ (t : List I5) (k : Nat) (r : Rd), k + t.length = L.length → (∀ i ∈ t, formedB i = true ∧ 0 ≤ i.n ∧ i.n < 18446744073709551616) → r.code.length = k → (∀ x ∈ r.labs, ∃ j, j < k ∧ x.1 = placeL j) →
    readR r k (linesL (piecesF L k t)) = (L.length + (if markB L L.length L.length then 1 else 0), some { code := r.code ++ t.map (zN L.length), labs := r.labs ++ marksF (markB L L.length) k (t.length + 1), uses := r.uses ++ usesF L.length k t })
  | [], k, r, hk, _, hc, hl => by
    have hkL : k = L.length := by simpa using hk
    subst hkL
    have hnl : placeL L.length ∉ r.labs.map (·.1) := fun hm => by
      obtain ⟨x, hx, e⟩ := List.mem_map.1 hm
      obtain ⟨j, hj, e'⟩ := hl x hx
      have := place_inj (show j < 18446744073709551616 by omega) (show L.length < 18446744073709551616 by omega) (e'.symm.trans e)
      omega
    unfold piecesF endP
    cases hm : markB L L.length L.length
    · simp [linesL, readR, marksF, usesF, hm]
    · have po := place_ok L.length
      have hlin := linesL_app (placeL L.length ++ [58]) [] (fun c hc => by
        rcases List.mem_append.1 hc with hc | hc
        · exact (okC_facts (po.2 c hc)).2.1
        · obtain rfl : c = 58 := by simpa using hc
          decide)
      have e : placeL L.length ++ [58, 10] = placeL L.length ++ [58] ++ 10 :: [] := by simp
      simp only [if_true]
      rw [e, hlin, readR, bodyL_line _ (fun c hc => by
        rcases List.mem_append.1 hc with hc | hc
        · exact (okC_facts (po.2 c hc)).2.2.1
        · obtain rfl : c = 58 := by simpa using hc
          decide), toks_colon _ _ (fun c hc => (okC_facts (po.2 c hc)).1) po.1, toks_empty, lineR, if_pos (by simp), List.dropLast_concat]
      unfold standR
      rw [if_pos ⟨place_lab _ (by omega), hnl⟩]
      simp [lineR, linesL, readR, marksF, usesF, hm, hc]
  | i :: t, k, r, hk, hf, hc, hl => by
    obtain ⟨h1, h2, h3⟩ := hf i (by simp)
    have hkL : k < L.length := by simp at hk; omega
    have hnl : placeL k ∉ r.labs.map (·.1) := fun hm => by
      obtain ⟨x, hx, e⟩ := List.mem_map.1 hm
      obtain ⟨j, hj, e'⟩ := hl x hx
      have := place_inj (show j < 18446744073709551616 by omega) (show k < 18446744073709551616 by omega) (e'.symm.trans e)
      omega
    obtain ⟨p, _, q2, q3⟩ := piece_line h1 h2 h3 hL hkL r hc hnl (piecesF L (k + 1) t)
    rw [piecesF, q2, readR, q3]
    simp only
    rw [pieces_readR hL t (k + 1) _ (by simp at hk; omega) (fun j hj => hf j (by simp [hj])) (by simp [hc]) (fun x hx => by
      rcases List.mem_append.1 hx with hx | hx
      · obtain ⟨j, hj, e⟩ := hl x hx
        exact ⟨j, by omega, e⟩
      · cases hm : markB L L.length k
        · rw [hm] at hx; simp at hx
        · rw [hm] at hx
          obtain rfl : x = (placeL k, k) := by simpa using hx
          exact ⟨k, by omega, rfl⟩)]
    simp [marksF, usesF]

theorem marks_lookup {f : Nat → Bool} : ∀ (m k j : Nat), k ≤ j → j < k + m → j < 18446744073709551616 → f j = true → (marksF f k m).lookup (placeL j) = some j
  | 0, k, j, h0, h1, _, _ => by omega
  | m + 1, k, j, h0, h1, h2, h3 => by
    unfold marksF
    by_cases he : k = j
    · subst he
      rw [h3]
      simp
    · have ih := marks_lookup m (k + 1) j (by omega) (by omega) h2 h3
      have hne : (placeL j == placeL k) = false := by
        simp only [beq_eq_false_iff_ne]
        exact fun e => he (place_inj (by omega) h2 e.symm)
      cases f k
      · simpa using ih
      · simp only [if_true, List.cons_append, List.nil_append, List.lookup, hne]
        exact ih
theorem modify_mid {f : I5 → I5} {x : I5} {r : List I5} : ∀ pre : List I5, (pre ++ x :: r).modify pre.length f = pre ++ f x :: r
  | [] => by simp
  | c :: t => by simp [modify_mid t]
theorem mark_of_aim {L : List I5} {i : I5} (hi : i ∈ L) (h0 : 0 ≤ i.n) (ha : aimB i L.length = true) : markB L L.length i.n.toNat = true := by
  unfold markB
  rw [List.any_eq_true]
  exact ⟨i, hi, by rw [ha]; simp; omega⟩
theorem res_pieces {n : Nat} {labs : List (List UInt8 × Nat)} : ∀ (t : List I5) (pre : List I5), (∀ i ∈ t, 0 ≤ i.n ∧ (aimB i n = true → labs.lookup (placeL i.n.toNat) = some i.n.toNat)) → resR labs (pre ++ t.map (zN n)) (usesF n pre.length t) = (none, pre ++ t)
  | [], pre, _ => by simp [usesF, resR]
  | i :: t, pre, h => by
    obtain ⟨h1, h2⟩ := h i (by simp)
    have ih := res_pieces t (pre ++ [i]) (fun j hj => h j (by simp [hj]))
    simp only [List.length_append, List.length_cons, List.length_nil, Nat.zero_add] at ih
    unfold usesF
    cases ha : aimB i n
    · have hz : zN n i = i := by simp [zN, ha]
      simp only [if_neg (show ¬ (false = true) by decide), List.nil_append, List.map_cons, hz]
      simpa using ih
    · have hz : zN n i = { i with n := 0 } := by simp [zN, ha]
      simp only [if_true, List.cons_append, List.nil_append, List.map_cons, hz]
      unfold resR
      rw [h2 ha]
      simp only
      have hs : setN (pre ++ { i with n := 0 } :: t.map (zN n)) pre.length i.n.toNat = pre ++ [i] ++ t.map (zN n) := by
        unfold setN
        have e : ((i.n.toNat : Nat) : Int) = i.n := by omega
        rw [modify_mid]
        simp [e]
      rw [hs, ih]
      simp
/-- A program's list is read as the program. -/
theorem list_read (L : List I5) (hL : L.length ≤ 65536) (h : ∀ i ∈ L, formedB i = true ∧ 0 ≤ i.n ∧ i.n < 18446744073709551616) :
    readT (listL L) = (L.length + (if markB L L.length L.length then 1 else 0), some (L, marksF (markB L L.length) 0 (L.length + 1))) := by
  unfold readT
  rw [list_pieces, pieces_readR hL L 0 ⟨[], [], []⟩ (by simp) h rfl (fun x hx => by simp at hx)]
  simp only [List.nil_append]
  have hr := res_pieces (n := L.length) (labs := marksF (markB L L.length) 0 (L.length + 1)) L [] (fun i hi => ⟨(h i hi).2.1, fun ha => by
    have ham := aim_facts ha
    have h0 := (h i hi).2.1
    exact marks_lookup _ 0 i.n.toNat (Nat.zero_le _) (by omega) (by omega) (mark_of_aim hi h0 ha)⟩)
  simp only [List.nil_append, List.length_nil] at hr
  rw [hr]
end Go.Proofs.YtlhmlajcgbnihaaGreatDoor


/- What is written with blanks, remarks and labels is read: pure facts. No statement of the seat is proved here. -/
namespace Go.Proofs.YtlhmlajcgbnihaaGreatDoor
open Go.RowKit Go.Shelf

/-- Blanks out of any text. -/
def btw1 (c : UInt8) (i : Nat) : List UInt8 := (if (c.toNat + i) % 3 = 0 then [9] else []) ++ (if (c.toNat + i) % 5 = 0 then [32] else [])
def btwK (more : List UInt8) (i : Nat) : Nat → List UInt8
  | 0 => []
  | k + 1 => btwK more i k ++ btw1 ((more[k]?).getD 0) i
def btw (more : List UInt8) (i : Nat) : List UInt8 := btwK more i (min more.length 3)
theorem btw1_blk (c : UInt8) (i : Nat) : ∀ d ∈ btw1 c i, blk d = true := by
  intro d hd
  unfold btw1 at hd
  rcases List.mem_append.1 hd with hd | hd
  · split at hd
    · obtain rfl : d = 9 := by simpa using hd
      rfl
    · simp at hd
  · split at hd
    · obtain rfl : d = 32 := by simpa using hd
      rfl
    · simp at hd
theorem btw1_len (c : UInt8) (i : Nat) : (btw1 c i).length ≤ 2 := by
  unfold btw1
  split <;> split <;> simp
theorem btwK_blk (more : List UInt8) (i : Nat) : ∀ k, ∀ d ∈ btwK more i k, blk d = true
  | 0, d, h => by simp [btwK] at h
  | k + 1, d, h => by
    unfold btwK at h
    rcases List.mem_append.1 h with h | h
    · exact btwK_blk more i k d h
    · exact btw1_blk _ _ d h
theorem btwK_len (more : List UInt8) (i : Nat) : ∀ k, (btwK more i k).length ≤ 2 * k
  | 0 => by simp [btwK]
  | k + 1 => by
    have := btwK_len more i k
    have := btw1_len ((more[k]?).getD 0) i
    simp only [btwK, List.length_append]; omega
theorem btw_blk (more : List UInt8) (i : Nat) : ∀ d ∈ btw more i, blk d = true := btwK_blk more i _
theorem btw_len (more : List UInt8) (i : Nat) : (btw more i).length ≤ 6 := by
  have := btwK_len more i (min more.length 3)
  unfold btw; omega

/-- A line with blanks more behind its blanks. -/
def wideF (more : List UInt8) : Nat → List UInt8 → List UInt8
  | _, [] => []
  | k, c :: t => (c :: if c = 32 then btw more k else []) ++ wideF more (k + 1) t
theorem wide_app (more : List UInt8) : ∀ (a b : List UInt8) (k : Nat), wideF more k (a ++ b) = wideF more k a ++ wideF more (k + a.length) b
  | [], b, k => by simp [wideF]
  | c :: a, b, k => by
    have := wide_app more a b (k + 1)
    simp only [List.cons_append, wideF, this, List.length_cons, List.append_assoc]
    rw [show k + 1 + a.length = k + (a.length + 1) by omega]
theorem wide_no (more : List UInt8) : ∀ (a : List UInt8) (k : Nat), (∀ c ∈ a, c ≠ 32) → wideF more k a = a
  | [], _, _ => rfl
  | c :: a, k, h => by
    rw [wideF, if_neg (h c (by simp)), wide_no more a (k + 1) (fun d hd => h d (by simp [hd]))]
    rfl
theorem wide_len (more : List UInt8) : ∀ (a : List UInt8) (k : Nat), (wideF more k a).length ≤ 7 * a.length
  | [], _ => by simp [wideF]
  | c :: a, k => by
    have := wide_len more a (k + 1)
    have := btw_len more k
    rw [wideF]
    simp only [List.length_append, List.length_cons]
    split
    · omega
    · simp; omega
theorem wide_snoc (more : List UInt8) (a : List UInt8) (c : UInt8) : wideF more 0 (a ++ [c]) = wideF more 0 a ++ (c :: if c = 32 then btw more a.length else []) := by
  rw [wide_app]
  simp [wideF]
theorem wide_mem (more : List UInt8) : ∀ (a : List UInt8) (k : Nat) (c : UInt8), c ∈ wideF more k a → c ∈ a ∨ blk c = true
  | [], _, c, h => by simp [wideF] at h
  | d :: a, k, c, h => by
    rw [wideF] at h
    rcases List.mem_append.1 h with h | h
    · rcases List.mem_cons.1 h with rfl | h
      · exact .inl (by simp)
      · split at h
        · exact .inr (btw_blk _ _ _ h)
        · simp at h
    · rcases wide_mem more a (k + 1) c h with h | h
      · exact .inl (by simp [h])
      · exact .inr h

theorem toks_blks : ∀ (B r : List UInt8), (∀ c ∈ B, blk c = true) → toks (B ++ r) = toks r
  | [], _, _ => rfl
  | b :: B, r, h => by
    have ih := toks_blks B r (fun c hc => h c (by simp [hc]))
    rw [← ih, List.cons_append]
    exact toks_next (by unfold nextW; rw [List.dropWhile_cons, if_pos (h b (by simp))])
theorem nextW_blk (x r : List UInt8) (b : UInt8) (hb : blk b = true) (hx : ∀ c ∈ x, brk c = false) (hne : x ≠ []) : nextW (x ++ b :: r) = (x, b :: r) := by
  have hd : (x ++ b :: r).dropWhile blk = x ++ b :: r := by
    cases x with
    | nil => exact absurd rfl hne
    | cons c t =>
      have hc := hx c (by simp)
      simp only [brk, Bool.or_eq_false_iff] at hc
      simp [hc.1]
  have hb58 : b ≠ 58 := by rintro rfl; exact absurd hb (by decide)
  unfold nextW
  rw [hd, wordOf_at (x ++ b :: r) x.length (by simp) (fun j hj => by rw [List.getElem_append_left hj]; exact hx _ (List.getElem_mem hj)) (by simp [brk, hb])]
  simp [hb58]
/-- A word, and behind it nothing or a blank. -/
theorem toks_word (x r : List UInt8) (hx : ∀ c ∈ x, brk c = false) (hne : x ≠ []) (hr : r = [] ∨ ∃ b t, r = b :: t ∧ blk b = true) : toks (x ++ r) = x :: toks r := by
  rcases hr with rfl | ⟨b, t, rfl, hb⟩
  · rw [List.append_nil, toks_cons (by rw [nextW_end x hx hne]; exact hne), nextW_end x hx hne]
  · rw [toks_cons (by rw [nextW_blk x t b hb hx hne]; exact hne), nextW_blk x t b hb hx hne]
theorem blks_head {E : List UInt8} (h : ∀ c ∈ E, blk c = true) : E = [] ∨ ∃ b t, E = b :: t ∧ blk b = true := by
  cases E with
  | nil => exact .inl rfl
  | cons b t => exact .inr ⟨b, t, rfl, h b (by simp)⟩
theorem wide_tail (more E : List UInt8) (hE : ∀ c ∈ E, blk c = true) : ∀ (ws : List (List UInt8)) (k : Nat), (∀ x ∈ ws, x ≠ [] ∧ ∀ c ∈ x, brk c = false) →
    toks (wideF more k (ws.flatMap fun x => 32 :: x) ++ E) = ws ∧ (wideF more k (ws.flatMap fun x => 32 :: x) ++ E = [] ∨ ∃ b t, wideF more k (ws.flatMap fun x => 32 :: x) ++ E = b :: t ∧ blk b = true)
  | [], k, _ => by
    refine ⟨?_, ?_⟩
    · have := toks_blks E [] hE
      simp only [List.append_nil] at this
      simp [wideF, this, toks_empty]
    · simpa [wideF] using blks_head hE
  | x :: ws, k, h => by
    have hx := h x (by simp)
    have hx32 : ∀ c ∈ x, c ≠ 32 := by
      rintro c hc rfl
      exact absurd (hx.2 _ hc) (by decide)
    have e : wideF more k ((x :: ws).flatMap fun x => 32 :: x) = 32 :: btw more k ++ (x ++ wideF more (k + 1 + x.length) (ws.flatMap fun x => 32 :: x)) := by
      rw [List.flatMap_cons, List.cons_append, wideF, if_pos rfl, wide_app, wide_no more x _ hx32]
    obtain ⟨i1, i2⟩ := wide_tail more E hE ws (k + 1 + x.length) (fun y hy => h y (by simp [hy]))
    rw [e]
    refine ⟨?_, .inr ⟨32, _, rfl, rfl⟩⟩
    have hb : ∀ c ∈ (32 :: btw more k : List UInt8), blk c = true := by
      intro c hc
      rcases List.mem_cons.1 hc with rfl | hc
      · rfl
      · exact btw_blk _ _ c hc
    rw [List.append_assoc, toks_blks _ _ hb, List.append_assoc, toks_word x _ hx.2 hx.1 i2, i1]
/-- The words of a wide line. -/
theorem toks_wide (more E : List UInt8) (hE : ∀ c ∈ E, blk c = true) (ws : List (List UInt8)) (h : ∀ x ∈ ws, x ≠ [] ∧ ∀ c ∈ x, brk c = false) (k : Nat) : toks (wideF more k (joinB ws) ++ E) = ws := by
  cases ws with
  | nil => simpa [joinB, wideF, toks_empty] using toks_blks E [] hE
  | cons x ws =>
    have hx := h x (by simp)
    have hx32 : ∀ c ∈ x, c ≠ 32 := by
      rintro c hc rfl
      exact absurd (hx.2 _ hc) (by decide)
    obtain ⟨i1, i2⟩ := wide_tail more E hE ws (k + x.length) (fun y hy => h y (by simp [hy]))
    rw [joinB, wide_app, wide_no more x _ hx32, List.append_assoc, toks_word x _ hx.2 hx.1 i2, i1]

/-- A label of the law. -/
def atL (k : Nat) : List UInt8 := 97 :: 116 :: Lib.decDigits k
theorem at_inj {j k : Nat} (hj : j < 18446744073709551616) (hk : k < 18446744073709551616) (h : atL j = atL k) : j = k := by
  unfold atL at h
  exact dec_inj hj hk (List.cons.inj (List.cons.inj h).2).2
theorem at_ok (k : Nat) : atL k ≠ [] ∧ ∀ c ∈ atL k, okC c = true := by
  refine ⟨by simp [atL], fun c hc => ?_⟩
  unfold atL at hc
  rcases List.mem_cons.1 hc with rfl | hc
  · decide
  · rcases List.mem_cons.1 hc with rfl | hc
    · decide
    · exact dec_ok k c hc
theorem at_len (k : Nat) (hk : k < 18446744073709551616) : (atL k).length ≤ 22 := by
  have : (Lib.decDigits k).length ≤ 20 := by rw [Lib.decDigits_length]; exact Lib.nDigits_le20 _ (by omega)
  simp [atL]; omega
theorem nms_third : ∀ k : Fin 18, (((nms[k.val]?).getD [])[2]?).map (fun c => decide (48 ≤ c.toNat ∧ c.toNat ≤ 57)) ≠ some true := by decide
theorem at_lab (k : Nat) (hk : k < 18446744073709551616) : labB (atL k) = true := by
  have hl := at_len k hk
  have hd := dec_ne k
  unfold labB
  have h1 : (1 ≤ (atL k).length ∧ (atL k).length ≤ 64) := ⟨by simp [atL], by omega⟩
  have h2 : (((atL k).head?).map lowB).getD false = true := by simp [atL, lowB]
  have h3 : (atL k).all signB = true := by
    rw [List.all_eq_true]
    intro c hc
    have := (at_ok k).2 c hc
    simp only [okC, Bool.or_eq_true, decide_eq_true_eq] at this
    simp only [signB, lowB, digB, Bool.or_eq_true, decide_eq_true_eq]
    rcases this with h | h
    · exact .inl (.inr h)
    · exact .inl (.inl h)
  have h4 : namedN (atL k) = none := by
    cases hn : namedN (atL k) with
    | none => rfl
    | some q =>
      exfalso
      obtain ⟨q0, q1, q2⟩ := namedN_forth hn
      have := nms_third ⟨q, by omega⟩
      simp only [q2] at this
      unfold atL at this
      cases hx : Lib.decDigits k with
      | nil => exact hd hx
      | cons c t =>
        rw [hx] at this
        have hc := dec_mem k c (by rw [hx]; simp)
        simp [hc] at this
  rw [h2, h3, h4]
  simp [h1]

/-- An instruction whose target is written as a label. -/
def aimE (i : I5) (n : Nat) : Bool := tgtB i.op && decide (i.n ≤ (n : Int)) && decide (i.n % 2 = 0)
def zE (n : Nat) (i : I5) : I5 := if aimE i n then { i with n := 0 } else i
def numT (i : I5) (n : Nat) : List UInt8 := if aimE i n then atL i.n.toNat else Lib.decDigits i.n.toNat
theorem numT_ok (i : I5) (n : Nat) : numT i n ≠ [] ∧ ∀ c ∈ numT i n, okC c = true := by
  unfold numT
  split
  · exact at_ok _
  · exact ⟨dec_ne _, dec_ok _⟩
theorem ins_wordsE {i : I5} (h : formedB i = true) (hn0 : 0 ≤ i.n) (hn : i.n < 18446744073709551616) (n : Nat) (r : Rd) (k : Nat) :
    insR r (wordsT i (numT i n)) k = some { code := r.code ++ [zE n i], labs := r.labs, uses := r.uses ++ (if aimE i n then [(atL i.n.toNat, r.code.length, k)] else []) } := by
  obtain ⟨⟨h0, h1⟩, -⟩ := formed_facts h
  unfold numT
  cases ha : aimE i n
  · have hu := plain_uses h
    have hp := words_parse h hn0 hn
    simp only [if_neg (show ¬ (false = true) by decide)]
    unfold insR zeroed useR
    rw [hu]
    simp [hp, zE, ha]
  · have ht : tgtB i.op = true := by
      unfold aimE at ha
      simp only [Bool.and_eq_true] at ha
      exact ha.1.1
    have hnum := tgt_num ht
    have hlw := last_words hnum (atL i.n.toNat)
    have hop : ((i.op.toNat : Nat) : Int) = i.op := by omega
    have hu : usesB (wordsT i (atL i.n.toNat)) = true := by
      unfold usesB tpart
      rw [head_words, named_of h0 h1, hlw.1, at_lab _ (by omega), hlw.2, regL_len]
      simp [hop, ht]
    have hz : zeroed (wordsT i (atL i.n.toNat)) = wordsT { i with n := 0 } (Lib.decDigits ({ i with n := 0 } : I5).n.toNat) := by
      unfold zeroed
      rw [hu, if_pos rfl, hlw.2]
      unfold wordsT regL
      dsimp only
      rw [hnum]
      simp only [if_true, Int.toNat_zero, dec_zero]
      have hl := regL_len i
      unfold regL at hl
      rw [hl, show regsN i.op + 2 - 1 = regsN i.op + 1 by omega, List.set_cons_succ]
      congr 1
      rw [List.set_append_right _ _ (by simp; omega)]
      simp only [List.length_map, hl, Nat.sub_self, List.set_cons_zero]
    have hp := words_parse (open_formed h ht) (by simp) (by simp)
    simp only [if_true]
    unfold insR useR
    rw [hz, hp, hu, hlw.1]
    simp [zE, ha]

/-- The remark and the empty lines. -/
def remT (n : Nat) (k : Nat) : List UInt8 := if (k + n) % 3 = 0 then [59, 98, 101, 103, 105, 110, 32, 58, 32, 120, 58, 10, 59, 59, 10] else []
/-- An instruction's line. -/
def coreT (more : List UInt8) (n : Nat) (k : Nat) (i : I5) : List UInt8 := btw more k ++ atL k ++ 58 :: (btw more (k + 1) ++ wideF more 0 (lineL i (numT i n)) ++ btw more (k + 2))
def chunkT (more : List UInt8) (n : Nat) (k : Nat) (i : I5) : List UInt8 := coreT more n k i ++ remT more.length k ++ 10 :: btw more (k + 3)
def chunksT (more : List UInt8) (n : Nat) : Nat → List I5 → List UInt8
  | k, [] => atL k ++ [58]
  | k, i :: t => chunkT more n k i ++ chunksT more n (k + 1) t
def labsT : Nat → Nat → List (List UInt8 × Nat)
  | _, 0 => []
  | k, m + 1 => (atL k, k) :: labsT (k + 1) m
theorem labsT_len : ∀ m k, (labsT k m).length = m
  | 0, _ => rfl
  | m + 1, k => by simp [labsT, labsT_len m (k + 1)]
theorem labsT_at : ∀ m k j (hj : j < (labsT k m).length), ((labsT k m)[j]).2 = k + j
  | 0, _, j, hj => by simp [labsT] at hj
  | m + 1, k, 0, _ => by simp [labsT]
  | m + 1, k, j + 1, hj => by
    have := labsT_at m (k + 1) j (by simpa [labsT] using hj)
    simp only [labsT, List.getElem_cons_succ, this]
    omega

theorem core_facts (more : List UInt8) (n k : Nat) {i : I5} (h : formedB i = true) (P : List UInt8) (hP : ∀ c ∈ P, blk c = true) :
    toks (P ++ coreT more n k i) = (atL k ++ [58]) :: wordsT i (numT i n) ∧ (∀ c ∈ P ++ coreT more n k i, c ≠ 10 ∧ c ≠ 59) := by
  obtain ⟨⟨h0, h1⟩, -⟩ := formed_facts h
  have hto := numT_ok i n
  have hw := words_ok h0 h1 hto.1 hto.2
  have po := at_ok k
  have hbf : ∀ c, blk c = true → c ≠ 10 ∧ c ≠ 59 := by
    intro c hc
    constructor <;> (rintro rfl; exact absurd hc (by decide))
  refine ⟨?_, ?_⟩
  · unfold coreT
    rw [toks_blks P _ hP, List.append_assoc, toks_blks _ _ (btw_blk more k), toks_colon _ _ (fun c hc => (okC_facts (po.2 c hc)).1) po.1, List.append_assoc, toks_blks _ _ (btw_blk more (k + 1)), line_join,
      toks_wide more _ (btw_blk more (k + 2)) _ (fun x hx => ⟨(hw x hx).1, fun c hc => (okC_facts ((hw x hx).2 c hc)).1⟩)]
  · intro c hc
    have lf := line_facts h0 h1 hto.1 hto.2
    unfold coreT at hc
    simp only [List.mem_append, List.mem_cons] at hc
    rcases hc with hc | (hc | hc) | hc | (hc | hc) | hc
    · exact hbf c (hP c hc)
    · exact hbf c (btw_blk _ _ c hc)
    · have := okC_facts (po.2 c hc)
      exact ⟨this.2.1, this.2.2.1⟩
    · subst hc; decide
    · exact hbf c (btw_blk _ _ c hc)
    · rcases wide_mem _ _ _ c hc with hc | hc
      · exact lf.2 c hc
      · exact hbf c hc
    · exact hbf c (btw_blk _ _ c hc)
theorem core_line (n k : Nat) {i : I5} (h : formedB i = true) (hn0 : 0 ≤ i.n) (hn : i.n < 18446744073709551616) (hk : k < 18446744073709551616) (r : Rd) (m : Nat) (hc : r.code.length = k) (hl : atL k ∉ r.labs.map (·.1)) :
    lineR r m ((atL k ++ [58]) :: wordsT i (numT i n)) = some { code := r.code ++ [zE n i], labs := r.labs ++ [(atL k, k)], uses := r.uses ++ (if aimE i n then [(atL i.n.toNat, k, m)] else []) } := by
  obtain ⟨⟨h0, h1⟩, -⟩ := formed_facts h
  rw [lineR, if_pos (by simp), List.dropLast_concat]
  unfold standR
  rw [if_pos ⟨at_lab k hk, hl⟩]
  simp only [Option.bind_some]
  have e : wordsT i (numT i n) = (nms[i.op.toNat]?).getD [] :: ((regL i).map (fun n => Lib.decDigits n.toNat) ++ (if numB i.op then [numT i n] else [])) := rfl
  rw [e, lineR, if_neg (name_nocolon h0 h1), ← e, ins_wordsE h hn0 hn]
  simp [hc]
theorem bodyL_rem (l r : List UInt8) (h : ∀ c ∈ l, c ≠ 59) : bodyL (l ++ 59 :: r ++ [10]) = l := by
  unfold bodyL
  rw [if_pos (List.getLast?_concat ..), List.dropLast_concat]
  rw [List.takeWhile_append_of_pos (fun c hc => by simpa using h c hc)]
  simp
def usesOk (n : Nat) : Nat → List I5 → List (List UInt8 × Nat × Nat) → Prop
  | _, [], us => us = []
  | k, i :: t, us => if aimE i n then ∃ m us', us = (atL i.n.toNat, k, m) :: us' ∧ usesOk n (k + 1) t us' else usesOk n (k + 1) t us
theorem chunks_readR (more : List UInt8) (n : Nat) : ∀ (t : List I5) (k : Nat) (r : Rd) (m : Nat) (P : List UInt8), k + t.length < 18446744073709551616 → (∀ c ∈ P, blk c = true) → (∀ i ∈ t, formedB i = true ∧ 0 ≤ i.n ∧ i.n < 18446744073709551616) → r.code.length = k → (∀ x ∈ r.labs, ∃ j, j < k ∧ x.1 = atL j) →
    ∃ m' us, readR r m (linesL (P ++ chunksT more n k t)) = (m', some { code := r.code ++ t.map (zE n), labs := r.labs ++ labsT k (t.length + 1), uses := r.uses ++ us }) ∧ usesOk n k t us
  | [], k, r, m, P, hk, hP, _, hc, hl => by
    have hnl : atL k ∉ r.labs.map (·.1) := fun hm => by
      obtain ⟨x, hx, e⟩ := List.mem_map.1 hm
      obtain ⟨j, hj, e'⟩ := hl x hx
      have := at_inj (show j < 18446744073709551616 by simp at hk; omega) (show k < 18446744073709551616 by simpa using hk) (e'.symm.trans e)
      omega
    have po := at_ok k
    have hbf : ∀ c, blk c = true → c ≠ 10 ∧ c ≠ 59 := by
      intro c hc
      constructor <;> (rintro rfl; exact absurd hc (by decide))
    have hmem : ∀ c ∈ P ++ (atL k ++ [58]), c ≠ 10 ∧ c ≠ 59 := by
      intro c hc
      simp only [List.mem_append, List.mem_singleton] at hc
      rcases hc with hc | hc | hc
      · exact hbf c (hP c hc)
      · have := okC_facts (po.2 c hc)
        exact ⟨this.2.1, this.2.2.1⟩
      · subst hc; decide
    have hnl10 : (P ++ (atL k ++ [58])).getLast? ≠ some 10 := by
      rw [← List.append_assoc, List.getLast?_concat]; decide
    refine ⟨m + 1, [], ?_, rfl⟩
    unfold chunksT
    rw [linesL_one _ (by simp) (fun c hc => (hmem c hc).1), readR]
    have hb : bodyL (P ++ (atL k ++ [58])) = P ++ (atL k ++ [58]) := by
      unfold bodyL
      rw [if_neg hnl10]
      exact takeWhile_all (fun c hc => by simpa using (hmem c hc).2)
    rw [hb, toks_blks P _ hP, toks_colon _ _ (fun c hc => (okC_facts (po.2 c hc)).1) po.1, toks_empty, lineR, if_pos (by simp), List.dropLast_concat]
    unfold standR
    rw [if_pos ⟨at_lab _ (by simpa using hk), hnl⟩]
    simp [lineR, readR, labsT, hc]
  | i :: t, k, r, m, P, hk, hP, hf, hc, hl => by
    obtain ⟨h1, h2, h3⟩ := hf i (by simp)
    have hk' : k < 18446744073709551616 := by simp at hk; omega
    have hnl : atL k ∉ r.labs.map (·.1) := fun hm => by
      obtain ⟨x, hx, e⟩ := List.mem_map.1 hm
      obtain ⟨j, hj, e'⟩ := hl x hx
      have := at_inj (show j < 18446744073709551616 by omega) hk' (e'.symm.trans e)
      omega
    obtain ⟨q1, q2⟩ := core_facts more n k h1 P hP
    have q3 := core_line n k h1 h2 h3 hk' r m hc hnl
    have ih := fun m' => chunks_readR more n t (k + 1) { code := r.code ++ [zE n i], labs := r.labs ++ [(atL k, k)], uses := r.uses ++ (if aimE i n then [(atL i.n.toNat, k, m)] else []) } m' (btw more (k + 3)) (by simp at hk; omega) (btw_blk _ _) (fun j hj => hf j (by simp [hj])) (by simp [hc]) (fun x hx => by
      rcases List.mem_append.1 hx with hx | hx
      · obtain ⟨j, hj, e⟩ := hl x hx
        exact ⟨j, by omega, e⟩
      · obtain rfl : x = (atL k, k) := by simpa using hx
        exact ⟨k, by omega, rfl⟩)
    have fin : ∀ (m0 : Nat), readR r m (linesL (P ++ chunksT more n k (i :: t))) = readR { code := r.code ++ [zE n i], labs := r.labs ++ [(atL k, k)], uses := r.uses ++ (if aimE i n then [(atL i.n.toNat, k, m)] else []) } m0 (linesL (btw more (k + 3) ++ chunksT more n (k + 1) t)) →
        ∃ m' us, readR r m (linesL (P ++ chunksT more n k (i :: t))) = (m', some { code := r.code ++ (i :: t).map (zE n), labs := r.labs ++ labsT k ((i :: t).length + 1), uses := r.uses ++ us }) ∧ usesOk n k (i :: t) us := fun m0 e => by
      obtain ⟨m', us, e1, e2⟩ := ih m0
      refine ⟨m', (if aimE i n then [(atL i.n.toNat, k, m)] else []) ++ us, ?_, ?_⟩
      · rw [e, e1]
        simp [labsT]
      · unfold usesOk
        cases ha : aimE i n
        · simpa [ha] using e2
        · simp only [if_true]
          exact ⟨m, us, by simp, e2⟩
    generalize hC : coreT more n k i = C at *
    generalize hrest : btw more (k + 3) ++ chunksT more n (k + 1) t = R at *
    have hsp : P ++ chunksT more n k (i :: t) = (P ++ C) ++ (remT more.length k ++ 10 :: R) := by
      rw [chunksT, chunkT, hC, ← hrest]
      simp
    unfold remT at hsp
    by_cases hr : (k + more.length) % 3 = 0
    · refine fin (m + 1 + 1 + 1) ?_
      rw [if_pos hr] at hsp
      have l1 := linesL_app (P ++ C ++ [59, 98, 101, 103, 105, 110, 32, 58, 32, 120, 58]) ([59, 59] ++ 10 :: ([] ++ 10 :: R)) (fun c hc => by
        rcases List.mem_append.1 hc with hc | hc
        · exact (q2 c hc).1
        · rintro rfl; revert hc; decide)
      have l2 := linesL_app [59, 59] ([] ++ 10 :: R) (by decide)
      have l3 := linesL_app [] R (by simp)
      have b1 := bodyL_rem (P ++ C) [98, 101, 103, 105, 110, 32, 58, 32, 120, 58] (fun c hc => (q2 c hc).2)
      have b2 : bodyL ([59, 59] ++ [10]) = [] := by decide
      have b3 : bodyL ([] ++ [10]) = [] := by decide
      rw [l2, l3] at l1
      have e1 : P ++ chunksT more n k (i :: t) = P ++ C ++ [59, 98, 101, 103, 105, 110, 32, 58, 32, 120, 58] ++ 10 :: ([59, 59] ++ 10 :: ([] ++ 10 :: R)) := by rw [hsp]; simp
      rw [e1, l1, readR, b1, q1, q3]
      simp only
      rw [readR, b2, toks_empty]
      simp only [lineR]
      rw [readR, b3, toks_empty]
      simp only [lineR]
    · refine fin (m + 1) ?_
      rw [if_neg hr, List.nil_append] at hsp
      have l1 := linesL_app (P ++ C) R (fun c hc => (q2 c hc).1)
      rw [hsp, l1, readR, bodyL_line _ (fun c hc => (q2 c hc).2), q1, q3]
theorem labsT_lookup : ∀ (m k j : Nat), k ≤ j → j < k + m → j < 18446744073709551616 → (labsT k m).lookup (atL j) = some j
  | 0, k, j, h0, h1, _ => by omega
  | m + 1, k, j, h0, h1, h2 => by
    unfold labsT
    by_cases he : k = j
    · subst he; simp
    · have ih := labsT_lookup m (k + 1) j (by omega) (by omega) h2
      have hne : (atL j == atL k) = false := by
        simp only [beq_eq_false_iff_ne]
        exact fun e => he (at_inj (by omega) h2 e.symm)
      simp only [List.lookup, hne]
      exact ih
theorem res_chunks {n : Nat} {labs : List (List UInt8 × Nat)} : ∀ (t : List I5) (pre : List I5) (us : List (List UInt8 × Nat × Nat)), (∀ i ∈ t, 0 ≤ i.n ∧ (aimE i n = true → labs.lookup (atL i.n.toNat) = some i.n.toNat)) → usesOk n pre.length t us → resR labs (pre ++ t.map (zE n)) us = (none, pre ++ t)
  | [], pre, us, _, hu => by obtain rfl : us = [] := hu; simp [resR]
  | i :: t, pre, us, h, hu => by
    obtain ⟨h1, h2⟩ := h i (by simp)
    have ih := fun us hu => res_chunks t (pre ++ [i]) us (fun j hj => h j (by simp [hj])) (by simpa using hu)
    unfold usesOk at hu
    cases ha : aimE i n
    · have hz : zE n i = i := by simp [zE, ha]
      rw [ha] at hu
      have := ih us (by simpa using hu)
      simpa [hz] using this
    · rw [ha] at hu
      obtain ⟨m, us', rfl, hu'⟩ := hu
      have hz : zE n i = { i with n := 0 } := by simp [zE, ha]
      simp only [List.map_cons, hz]
      unfold resR
      rw [h2 ha]
      simp only
      have hs : setN (pre ++ { i with n := 0 } :: t.map (zE n)) pre.length i.n.toNat = pre ++ [i] ++ t.map (zE n) := by
        unfold setN
        have e : ((i.n.toNat : Nat) : Int) = i.n := by omega
        rw [modify_mid]
        simp [e]
      rw [hs, ih us' hu']
      simp
/-- The law's text is read as the program. -/
theorem chunks_read (more : List UInt8) (L : List I5) (hL : L.length ≤ 65536) (h : ∀ i ∈ L, formedB i = true ∧ 0 ≤ i.n ∧ i.n < 18446744073709551616) :
    ∃ m, readT (chunksT more L.length 0 L) = (m, some (L, labsT 0 (L.length + 1))) := by
  obtain ⟨m, us, e1, e2⟩ := chunks_readR more L.length L 0 ⟨[], [], []⟩ 0 [] (by omega) (by simp) h rfl (fun x hx => by simp at hx)
  refine ⟨m, ?_⟩
  unfold readT
  simp only [List.nil_append] at e1
  rw [e1]
  simp only
  have hr := res_chunks (n := L.length) (labs := labsT 0 (L.length + 1)) L [] us (fun i hi => ⟨(h i hi).2.1, fun ha => by
    have h0 := (h i hi).2.1
    unfold aimE at ha
    simp only [Bool.and_eq_true, decide_eq_true_eq] at ha
    exact labsT_lookup _ 0 i.n.toNat (Nat.zero_le _) (by omega) (by omega)⟩) (by simpa using e2)
  simp only [List.nil_append] at hr
  rw [hr]
end Go.Proofs.YtlhmlajcgbnihaaGreatDoor


/- The document's way to read a number, against the program's: pure facts. No statement of the seat is proved here. -/
namespace Go.Proofs.YtlhmlajcgbnihaaGreatDoor
open Go.RowKit Go.Shelf

theorem cut_str (l : List UInt8) (a b : Nat) : (⟨l.toArray⟩ : ByteArray).extract a b = ⟨((l.drop a).take (b - a)).toArray⟩ := ByteArray.extract_mk l a b
/-- The number of decimal digits, at most a greatest one. -/
def numM (most : Nat) (s : List UInt8) : Option Nat := (decL s).bind fun n => if n ≤ most then some n else none
theorem decGo_ge : ∀ (l : List UInt8) (b : Bool) (n m : Nat), decGo b n l = some m → n ≤ m
  | [], _, n, m, h => by simp [decGo] at h; omega
  | c :: t, b, n, m, h => by
    rw [decGo] at h
    split at h
    · cases h
    · split at h
      · cases h
      · have := decGo_ge t _ _ _ h
        omega
theorem decGo_app : ∀ (l r : List UInt8) (b : Bool) (m : Nat), decGo b m (l ++ r) = (decGo b m l).bind fun n => decGo (b && l.isEmpty) n r
  | [], r, b, m => by simp [decGo]
  | x :: l, r, b, m => by
    rw [List.cons_append, decGo, decGo]
    split
    · rfl
    · split
      · rfl
      · rw [decGo_app l r false _]
        simp
theorem numM_nil (most : Nat) : numM most [] = none := by simp [numM, decL]
theorem numM_none {most : Nat} {s : List UInt8} (h : decL s = none) : numM most s = none := by simp [numM, h]
theorem numM_zero (most : Nat) (c : UInt8) (t : List UInt8) : numM most (48 :: c :: t) = none := by
  apply numM_none
  unfold decL
  rw [if_neg (by simp), decGo, if_neg (by simp), if_neg (by simp), decGo, if_pos (by simp)]
theorem numM_long {most : Nat} {s : List UInt8} (h : 20 < s.length) : numM most s = none := by
  apply numM_none
  cases hd : decL s with
  | none => rfl
  | some n =>
    exfalso
    have hlt := decL_lt hd
    unfold decL at hd
    split at hd
    · cases hd
    · rename_i hne
      have := dec_forth s.length s n rfl hne hd
      have hl : (Lib.decDigits n).length ≤ 20 := by rw [Lib.decDigits_length]; exact Lib.nDigits_le20 _ (by omega)
      rw [← this] at hl
      omega
theorem numM_bad {most : Nat} {s : List UInt8} {k : Nat} (hk : k < s.length) (h : ¬ (48 ≤ (s[k]).toNat ∧ (s[k]).toNat ≤ 57)) : numM most s = none := by
  apply numM_none
  cases hd : decL s with
  | none => rfl
  | some n => exact absurd (decL_mem hd _ (List.getElem_mem hk)) h
theorem numM_big {most : Nat} (_hm : most < 18446744073709551616) {s : List UInt8} {k n : Nat} (hk : k < s.length) (h : decGo true 0 (s.take k) = some n) (_hd : 48 ≤ (s[k]).toNat ∧ (s[k]).toNat ≤ 57) (hb : most < n * 10 + ((s[k]).toNat - 48)) : numM most s = none := by
  unfold numM
  cases hdl : decL s with
  | none => rfl
  | some m =>
    have hge : n * 10 + ((s[k]).toNat - 48) ≤ m := by
      unfold decL at hdl
      split at hdl
      · cases hdl
      · have e : s = s.take k ++ s[k] :: s.drop (k + 1) := by
          conv => lhs; rw [← List.take_append_drop k s, List.drop_eq_getElem_cons hk]
        rw [e, decGo_app, h, Option.bind_some, decGo] at hdl
        split at hdl
        · cases hdl
        · split at hdl
          · cases hdl
          · exact decGo_ge _ _ _ _ hdl
    simp only [Option.bind_some]
    rw [if_neg (by omega)]
theorem num_step {most : Nat} (hm : most < 18446744073709551616) {s : List UInt8} {k n : Nat} (hk : k < s.length) (hz : 1 ≤ k → n ≠ 0) (h : decGo true 0 (s.take k) = some n) (hd : 48 ≤ (s[k]).toNat ∧ (s[k]).toNat ≤ 57) (hb : n * 10 + ((s[k]).toNat - 48) ≤ most) : decGo true 0 (s.take (k + 1)) = some (n * 10 + ((s[k]).toNat - 48)) := by
  rw [List.take_succ_eq_append_getElem hk, decGo_app, h, Option.bind_some, decGo, if_neg, if_neg, decGo]
  · omega
  · rintro (q | q | ⟨q1, q2⟩)
    · omega
    · omega
    · by_cases h1 : 1 ≤ k
      · exact hz h1 q2
      · obtain rfl : k = 0 := by omega
        simp at q1
theorem numM_end {most : Nat} {s : List UInt8} {n : Nat} (hne : s ≠ []) (h : decGo true 0 s = some n) (hn : n ≤ most) : numM most s = some n := by
  unfold numM decL
  rw [if_neg hne, h]
  simp [hn]
end Go.Proofs.YtlhmlajcgbnihaaGreatDoor


/- The law's text as it grows; a line's number and what stands ahead of it: pure facts. No statement of the seat is proved here. -/
namespace Go.Proofs.YtlhmlajcgbnihaaGreatDoor
open Go.RowKit Go.Shelf

def textB (more : List UInt8) (L : List I5) : Nat → List UInt8
  | 0 => []
  | k + 1 => textB more L k ++ chunkT more L.length k ((L[k]?).getD ⟨0, 0, 0, 0, 0⟩)
theorem textB_succ (more : List UInt8) {L : List I5} {k : Nat} (hk : k < L.length) : textB more L (k + 1) = textB more L k ++ chunkT more L.length k (L[k]) := by
  rw [textB, List.getElem?_eq_getElem hk]; rfl
theorem textB_chunks (more : List UInt8) (L : List I5) : textB more L L.length ++ (atL L.length ++ [58]) = chunksT more L.length 0 L := by
  have : ∀ k, k ≤ L.length → textB more L k ++ chunksT more L.length k (L.drop k) = chunksT more L.length 0 L := by
    intro k
    induction k with
    | zero => intro _; simp [textB]
    | succ k ih =>
      intro hk
      rw [← ih (by omega), textB_succ more (by omega), List.drop_eq_getElem_cons (show k < L.length by omega), chunksT]
      simp
  have h := this L.length (Nat.le_refl _)
  rw [List.drop_length] at h
  exact h
/-- What stands ahead of a line's number. -/
theorem wide_num (more : List UInt8) {i : I5} (hn : numB i.op = true) : ∃ W1 b, blk b = true ∧ ∀ t : List UInt8, (∀ c ∈ t, c ≠ 32) → wideF more 0 (lineL i t) = W1 ++ [b] ++ t := by
  have e : ∀ t, lineL i t = ((nms[i.op.toNat]?).getD [] ++ ((regL i).map (fun n => Lib.decDigits n.toNat)).flatMap fun x => 32 :: x) ++ [32] ++ t := fun t => by
    rw [line_join]
    unfold wordsT joinB
    rw [hn]
    simp
  generalize ((nms[i.op.toNat]?).getD [] ++ ((regL i).map (fun n => Lib.decDigits n.toNat)).flatMap fun x => 32 :: x) = A at e
  have e2 : ∀ t : List UInt8, (∀ c ∈ t, c ≠ 32) → wideF more 0 (lineL i t) = wideF more 0 A ++ 32 :: btw more A.length ++ t := fun t ht => by
    rw [e, wide_app, wide_no more t _ ht, wide_snoc]
    simp
  have hbl : ∀ c ∈ (32 :: btw more A.length : List UInt8), blk c = true := by
    intro c hc
    rcases List.mem_cons.1 hc with rfl | hc
    · rfl
    · exact btw_blk _ _ c hc
  have hne : (32 :: btw more A.length : List UInt8) ≠ [] := by simp
  generalize (32 :: btw more A.length : List UInt8) = B at *
  refine ⟨wideF more 0 A ++ B.dropLast, B.getLast hne, hbl _ (List.getLast_mem hne), fun t ht => ?_⟩
  rw [e2 t ht, List.append_assoc (wideF more 0 A) B.dropLast [B.getLast hne], List.dropLast_concat_getLast hne]
theorem line_len {i : I5} (h : formedB i = true) (n : Nat) : (lineL i (numT i n)).length ≤ (textL i).length + 2 := by
  rw [← line_text h]
  unfold numT
  split
  · unfold lineL atL
    cases numB i.op <;> simp <;> omega
  · omega
theorem chunk_len (more : List UInt8) (n k : Nat) {i : I5} (h : formedB i = true) (hn0 : 0 ≤ i.n) (hn : i.n < 18446744073709551616) (hk : k < 18446744073709551616) : (chunkT more n k i).length ≤ 1000 := by
  have h1 := btw_len more k
  have h2 := btw_len more (k + 1)
  have h3 := btw_len more (k + 2)
  have h4 := btw_len more (k + 3)
  have h5 := at_len k hk
  have h6 := line_len h n
  have h7 := text_len h hn0 hn
  have h8 := wide_len more (lineL i (numT i n)) 0
  have h9 : (remT more.length k).length ≤ 15 := by unfold remT; split <;> simp
  unfold chunkT coreT
  simp only [List.length_append, List.length_cons]
  omega
theorem wideF_take (more s : List UInt8) {k : Nat} (hk : k < s.length) : wideF more 0 (s.take (k + 1)) = wideF more 0 (s.take k) ++ (s[k] :: if s[k] = 32 then btw more k else []) := by
  rw [List.take_succ_eq_append_getElem hk, wide_snoc]
  simp [Nat.min_eq_left (Nat.le_of_lt hk)]
end Go.Proofs.YtlhmlajcgbnihaaGreatDoor


/- Walk of the law's between. No statement of the seat is proved here. -/
namespace Go.Proofs.YtlhmlajcgbnihaaGreatDoor
open Go.RowKit Go.Shelf

theorem cell_keeps2 {w w' : World} (k : Keeps (fun _ => False) w w') {g o : Nat} {v : Value} (h : w.cell? ⟨g, o, none⟩ = some v) : w'.cell? ⟨g, o, none⟩ = some v := by
  rw [← h]
  simp [World.cell?, k.block g (World.block_lt_of_cell? _ _ h) (fun f => f)]
theorem btwK_step {more : List UInt8} {k : Nat} (hk : k < more.length) (i : Nat) : btwK more i (k + 1) = btwK more i k ++ btw1 (more[k]) i := by
  rw [btwK, List.getElem?_eq_getElem hk]; rfl
set_option maxRecDepth 100000 in
set_option maxHeartbeats 4000000 in
theorem between_any (more : List UInt8) (hm : more.length ≤ 140737488355328) (i : Nat) (hi : i ≤ 1048576) (w : World) : Calls Tryz.prog 32 #[.string ⟨more.toArray⟩, .int .i64 (i : Int)] w fun e w' => e = .returned (.string ⟨(btw more i).toArray⟩) ∧ w' = w := by
  have hsz : (⟨more.toArray⟩ : ByteArray).size = more.length := by simp [ByteArray.size]
  go_enter Tryz.func32, Tryz.ntmps32
  go_wp2_with fail
  go_loopw [5, 6] (fun u u2 wr => ∃ (k : Nat) (X : List UInt8), u = .string ⟨X.toArray⟩ ∧ u2 = .int .i64 k ∧ k ≤ more.length ∧ k ≤ 3 ∧ wr = w ∧ Hid (X = btwK more i k ∧ X.length ≤ 2 * k)) (fun _ u _ => 3 - (intOf u).toNat)
  case atStart => exact ⟨0, [], rfl, rfl, Nat.zero_le _, Nat.zero_le _, rfl, ⟨rfl, by simp⟩⟩
  case round =>
    obtain ⟨k, X, rfl, rfl, hk, hk3, rfl, hP⟩ := hrel
    by_cases hlt : k < more.length
    · have hki : (k : Int) < more.length := by omega
      by_cases h3 : k < 3
      · have h3i : (k : Int) < 3 := by omega
        have hs : k < (⟨more.toArray⟩ : ByteArray).size := by rw [hsz]; exact hlt
        have hat : ((⟨more.toArray⟩ : ByteArray)[k]'hs).toNat = (more[k]).toNat := rfl
        have hX := hP.out.2
        have HN : Hid (btwK more i (k + 1) = X ++ btw1 (more[k]) i) := by
          show _ = _
          rw [btwK_step hlt, hP.out.1]
        have h256 : (more[k]).toNat < 256 := (more[k]).toNat_lt
        unfold btw1 at HN
        generalize (more[k]).toNat = c at *
        have hfin : Hid ((btwK more i (k + 1)).length ≤ 2 * (k + 1)) := btwK_len more i (k + 1)
        have s1 := str_app X [9]
        have s2 := str_app X [32]
        have s3 := str_app (X ++ [9]) [32]
        have t1 : ¬ 9223372036854775807 < X.length + 1 := by omega
        have t2 : ¬ 9223372036854775807 < (X ++ [9]).length + 1 := by simp; omega
        have g3 : ((c : Int) + (i : Int)).tmod 3 = (((c + i) % 3 : Nat) : Int) := by rw [Int.tmod_eq_emod_of_nonneg (by omega)]; omega
        have g5 : ((c : Int) + (i : Int)).tmod 5 = (((c + i) % 5 : Nat) : Int) := by rw [Int.tmod_eq_emod_of_nonneg (by omega)]; omega
        generalize (c + i) % 3 = m3 at *
        generalize (c + i) % 5 = m5 at *
        clear hP
        by_cases e3 : m3 = 0
        · subst e3
          by_cases e5 : m5 = 0
          · subst e5
            go_wp2_with fail
            go_roundw
            · exact ⟨k + 1, btwK more i (k + 1), by rw [HN.out]; simp, by simp, by omega, by omega, by first | rfl | trivial, ⟨rfl, hfin.out⟩⟩
            · simp [intOf]; omega
          · have b5 : ((m5 : Int) == 0) = false := by simp; omega
            go_wp2_with fail
            go_roundw
            · exact ⟨k + 1, btwK more i (k + 1), by rw [HN.out]; simp [e5], by simp, by omega, by omega, by first | rfl | trivial, ⟨rfl, hfin.out⟩⟩
            · simp [intOf]; omega
        · have b3 : ((m3 : Int) == 0) = false := by simp; omega
          by_cases e5 : m5 = 0
          · subst e5
            go_wp2_with fail
            go_roundw
            · exact ⟨k + 1, btwK more i (k + 1), by rw [HN.out]; simp [e3], by simp, by omega, by omega, by first | rfl | trivial, ⟨rfl, hfin.out⟩⟩
            · simp [intOf]; omega
          · have b5 : ((m5 : Int) == 0) = false := by simp; omega
            go_wp2_with fail
            go_roundw
            · exact ⟨k + 1, btwK more i (k + 1), by rw [HN.out]; simp [e3, e5], by simp, by omega, by omega, by first | rfl | trivial, ⟨rfl, hfin.out⟩⟩
            · simp [intOf]; omega
      · have h3i : ¬ (k : Int) < 3 := by omega
        have hX : Hid (X = btw more i) := by
          show X = _
          rw [hP.out.1]; unfold btw; rw [show min more.length 3 = k by omega]
        go_wp2_with fail
        go_ret
        exact ⟨by rw [hX.out]; rfl, rfl⟩
    · have hki : ¬ (k : Int) < more.length := by omega
      have hX : Hid (X = btw more i) := by
        show X = _
        rw [hP.out.1]; unfold btw; rw [show min more.length 3 = k by omega]
      go_wp2_with fail
      go_ret
      exact ⟨by rw [hX.out]; rfl, rfl⟩
end Go.Proofs.YtlhmlajcgbnihaaGreatDoor
