
/- What is listed is read: a program's list. No statement of the seat is proved here. -/
import Derived.Test.YtkihmdbmdpmmmaaGreatDoorAuF
namespace Go.Proofs.YtkihmdbmdpmmmaaGreatDoor
open Go.RowKit Go.Shelf

theorem dec_inj {j k : Nat} (hj : j < 18446744073709551616) (hk : k < 18446744073709551616) (h : Lib.decDigits j = Lib.decDigits k) : j = k := by
  have h1 := decL_back j hj
  rw [h, decL_back k hk] at h1
  exact (Option.some.inj h1).symm
theorem place_inj {j k : Nat} (hj : j < 18446744073709551616) (hk : k < 18446744073709551616) (h : placeL j = placeL k) : j = k := by
  unfold placeL at h
  exact dec_inj hj hk (List.cons.inj h).2
theorem place_ok (k : Nat) : placeL k ≠ [] ∧ ∀ c ∈ placeL k, okC c = true := by
  refine ⟨by simp [placeL], fun c hc => ?_⟩
  unfold placeL at hc
  rcases List.mem_cons.1 hc with rfl | hc
  · decide
  · exact dec_ok k c hc
theorem nms_second : ∀ k : Fin 18, (((nms[k.val]?).getD [])[1]?).map (fun c => decide (48 ≤ c.toNat ∧ c.toNat ≤ 57)) ≠ some true := by decide
theorem place_lab (k : Nat) (hk : k < 18446744073709551616) : labB (placeL k) = true := by
  have hl := placeL_len k hk
  have hd := dec_ne k
  unfold labB
  have h1 : (1 ≤ (placeL k).length ∧ (placeL k).length ≤ 64) := ⟨by simp [placeL], by omega⟩
  have h2 : (((placeL k).head?).map lowB).getD false = true := by simp [placeL, lowB]
  have h3 : (placeL k).all signB = true := by
    rw [List.all_eq_true]
    intro c hc
    have := (place_ok k).2 c hc
    simp only [okC, Bool.or_eq_true, decide_eq_true_eq] at this
    simp only [signB, lowB, digB, Bool.or_eq_true, decide_eq_true_eq]
    rcases this with h | h
    · exact .inl (.inr h)
    · exact .inl (.inl h)
  have h4 : namedN (placeL k) = none := by
    cases hn : namedN (placeL k) with
    | none => rfl
    | some q =>
      exfalso
      obtain ⟨q0, q1, q2⟩ := namedN_forth hn
      have := nms_second ⟨q, by omega⟩
      simp only [q2] at this
      unfold placeL at this
      cases hx : Lib.decDigits k with
      | nil => exact hd hx
      | cons c t =>
        rw [hx] at this
        have hc := dec_mem k c (by rw [hx]; simp)
        simp [hc] at this
  rw [h2, h3, h4]
  simp [h1]

/-- An instruction whose target stands open. -/
def zN (n : Nat) (i : I5) : I5 := if aimB i n then { i with n := 0 } else i
def usesF (n : Nat) : Nat → List I5 → List (List UInt8 × Nat × Nat)
  | _, [] => []
  | k, i :: t => (if aimB i n then [(placeL i.n.toNat, k, k)] else []) ++ usesF n (k + 1) t
def marksF (f : Nat → Bool) : Nat → Nat → List (List UInt8 × Nat)
  | _, 0 => []
  | k, m + 1 => (if f k then [(placeL k, k)] else []) ++ marksF f (k + 1) m
def endP (L : List I5) : List UInt8 := if markB L L.length L.length then placeL L.length ++ [58, 10] else []
def piecesF (L : List I5) : Nat → List I5 → List UInt8
  | _, [] => endP L
  | k, i :: t => pieceL L k i ++ piecesF L (k + 1) t
theorem list_pieces (L : List I5) : listL L = piecesF L 0 L := by
  have : ∀ k, k ≤ L.length → listK L k ++ piecesF L k (L.drop k) = piecesF L 0 L := by
    intro k
    induction k with
    | zero => intro _; simp [listK]
    | succ k ih =>
      intro hk
      rw [← ih (by omega), listK_succ (by omega), List.drop_eq_getElem_cons (show k < L.length by omega), piecesF]
      simp
  have h := this L.length (Nat.le_refl _)
  rw [List.drop_length] at h
  exact h
theorem aim_facts {i : I5} {n : Nat} (h : aimB i n = true) : tgtB i.op = true ∧ i.n ≤ n := by
  rw [aim_eq] at h
  simpa using h
theorem open_formed {i : I5} (h : formedB i = true) (ht : tgtB i.op = true) : formedB { i with n := 0 } = true := by
  unfold formedB at h ⊢
  dsimp only
  simp only [Bool.and_eq_true] at h ⊢
  obtain ⟨⟨⟨⟨h1, _⟩, h3⟩, h4⟩, h5⟩ := h
  exact ⟨⟨⟨⟨h1, by rw [tgt_num ht]; rfl⟩, h3⟩, h4⟩, h5⟩
theorem dec_zero : Lib.decDigits 0 = [48] := by rw [Lib.decDigits_one (by decide)]; rfl
theorem ins_words {i : I5} (h : formedB i = true) (hn0 : 0 ≤ i.n) (hn : i.n < 18446744073709551616) (n : Nat) (r : Rd) (k : Nat) :
    insR r (wordsT i (if aimB i n then placeL i.n.toNat else Lib.decDigits i.n.toNat)) k = some { code := r.code ++ [zN n i], labs := r.labs, uses := r.uses ++ (if aimB i n then [(placeL i.n.toNat, r.code.length, k)] else []) } := by
  obtain ⟨⟨h0, h1⟩, -⟩ := formed_facts h
  cases ha : aimB i n
  · have hu := plain_uses h
    have hp := words_parse h hn0 hn
    simp only [if_neg (show ¬ (false = true) by decide)]
    unfold insR zeroed useR
    rw [hu]
    simp [hp, zN, ha]
  · obtain ⟨ht, hle⟩ := aim_facts ha
    have hnum := tgt_num ht
    have hlw := last_words hnum (placeL i.n.toNat)
    have hop : ((i.op.toNat : Nat) : Int) = i.op := by omega
    have hu : usesB (wordsT i (placeL i.n.toNat)) = true := by
      unfold usesB tpart
      rw [head_words, named_of h0 h1, hlw.1, place_lab _ (by omega), hlw.2, regL_len]
      simp [hop, ht]
    have hz : zeroed (wordsT i (placeL i.n.toNat)) = wordsT { i with n := 0 } (Lib.decDigits ({ i with n := 0 } : I5).n.toNat) := by
      unfold zeroed
      rw [hu, if_pos rfl, hlw.2]
      unfold wordsT regL
      dsimp only
      rw [hnum]
      simp only [if_true, Int.toNat_zero, dec_zero]
      have hl := regL_len i
      unfold regL at hl
      rw [hl, show regsN i.op + 2 - 1 = regsN i.op + 1 by omega, List.set_cons_succ]
      congr 1
      rw [List.set_append_right _ _ (by simp; omega)]
      simp only [List.length_map, hl, Nat.sub_self, List.set_cons_zero]
    have hp := words_parse (open_formed h ht) (by simp) (by simp)
    simp only [if_true]
    unfold insR useR
    rw [hz, hp, hu, hlw.1]
    simp [zN, ha]
theorem piece_line {L : List I5} {i : I5} (h : formedB i = true) (hn0 : 0 ≤ i.n) (hn : i.n < 18446744073709551616) (hL : L.length ≤ 65536) {k : Nat} (hk : k < L.length) (r : Rd) (hc : r.code.length = k) (hl : placeL k ∉ r.labs.map (·.1)) (X : List UInt8) :
    ∃ p, pieceL L k i = p ++ [10] ∧ linesL (pieceL L k i ++ X) = (p ++ [10]) :: linesL X ∧ lineR r k (toks (bodyL (p ++ [10]))) = some { code := r.code ++ [zN L.length i], labs := r.labs ++ (if markB L L.length k then [(placeL k, k)] else []), uses := r.uses ++ (if aimB i L.length then [(placeL i.n.toNat, k, k)] else []) } := by
  obtain ⟨⟨h0, h1⟩, -⟩ := formed_facts h
  have hT : (if aimB i L.length then namedL (textL i) else textL i) = lineL i (if aimB i L.length then placeL i.n.toNat else Lib.decDigits i.n.toNat) := by
    cases ha : aimB i L.length
    · simp only [if_neg (show ¬ (false = true) by decide)]; exact (line_text h).symm
    · simp only [if_true]; exact named_eq h (aim_facts ha).1
  have hIW := fun r' => ins_words h hn0 hn L.length r' k
  have hto : (if aimB i L.length then placeL i.n.toNat else Lib.decDigits i.n.toNat) ≠ [] ∧ ∀ c ∈ (if aimB i L.length then placeL i.n.toNat else Lib.decDigits i.n.toNat), okC c = true := by
    cases aimB i L.length
    · exact ⟨dec_ne _, dec_ok _⟩
    · exact place_ok _
  generalize (if aimB i L.length then placeL i.n.toNat else Lib.decDigits i.n.toNat) = t at *
  have lf := line_facts h0 h1 hto.1 hto.2
  have e : wordsT i t = (nms[i.op.toNat]?).getD [] :: ((regL i).map (fun n => Lib.decDigits n.toNat) ++ (if numB i.op then [t] else [])) := rfl
  have hIL : ∀ r', lineR r' k (wordsT i t) = insR r' (wordsT i t) k := fun r' => by
    rw [e, lineR, if_neg (name_nocolon h0 h1)]
  have po := place_ok k
  cases hm : markB L L.length k
  · refine ⟨lineL i t, ?_, ?_, ?_⟩
    · unfold pieceL; rw [hT, hm]; simp
    · unfold pieceL; rw [hT, hm]
      have := linesL_app (lineL i t) X (fun c hc => (lf.2 c hc).1)
      simpa using this
    · rw [bodyL_line _ (fun c hc => (lf.2 c hc).2), lf.1, hIL, hIW, hc]
      simp
  · refine ⟨placeL k ++ 58 :: 32 :: lineL i t, ?_, ?_, ?_⟩
    · unfold pieceL; rw [hT, hm]; simp
    · unfold pieceL; rw [hT, hm]
      have := linesL_app (placeL k ++ 58 :: 32 :: lineL i t) X (fun c hc => by
        rcases List.mem_append.1 hc with hc | hc
        · exact (okC_facts (po.2 c hc)).2.1
        · rcases List.mem_cons.1 hc with rfl | hc
          · decide
          · rcases List.mem_cons.1 hc with rfl | hc
            · decide
            · exact (lf.2 c hc).1)
      simpa using this
    · rw [bodyL_line _ (fun c hc => by
        rcases List.mem_append.1 hc with hc | hc
        · exact (okC_facts (po.2 c hc)).2.2.1
        · rcases List.mem_cons.1 hc with rfl | hc
          · decide
          · rcases List.mem_cons.1 hc with rfl | hc
            · decide
            · exact (lf.2 c hc).2), toks_colon _ _ (fun c hc => (okC_facts (po.2 c hc)).1) po.1, toks_blank, lf.1, lineR, if_pos (by simp), List.dropLast_concat]
      unfold standR
      rw [if_pos ⟨place_lab k (by omega), hl⟩]
      simp only [Option.bind_some]
      rw [hIL, hIW]
      simp [hc]
end Go.Proofs.YtkihmdbmdpmmmaaGreatDoor
