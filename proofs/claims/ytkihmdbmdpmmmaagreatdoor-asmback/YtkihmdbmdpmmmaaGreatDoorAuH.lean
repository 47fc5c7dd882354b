
/- A program's list is read as the program, its labels the places that are targets. No statement of the seat is proved here. -/
import Derived.Test.YtkihmdbmdpmmmaaGreatDoorAuG
namespace Go.Proofs.YtkihmdbmdpmmmaaGreatDoor
open Go.RowKit Go.Shelf

theorem pieces_readR {L : List I5} (hL : L.length ≤ 65536) : ∀ (t : List I5) (k : Nat) (r : Rd), k + t.length = L.length → (∀ i ∈ t, formedB i = true ∧ 0 ≤ i.n ∧ i.n < 18446744073709551616) → r.code.length = k → (∀ x ∈ r.labs, ∃ j, j < k ∧ x.1 = placeL j) →
    readR r k (linesL (piecesF L k t)) = (L.length + (if markB L L.length L.length then 1 else 0), some { code := r.code ++ t.map (zN L.length), labs := r.labs ++ marksF (markB L L.length) k (t.length + 1), uses := r.uses ++ usesF L.length k t })
  | [], k, r, hk, _, hc, hl => by
    have hkL : k = L.length := by simpa using hk
    subst hkL
    have hnl : placeL L.length ∉ r.labs.map (·.1) := fun hm => by
      obtain ⟨x, hx, e⟩ := List.mem_map.1 hm
      obtain ⟨j, hj, e'⟩ := hl x hx
      have := place_inj (show j < 18446744073709551616 by omega) (show L.length < 18446744073709551616 by omega) (e'.symm.trans e)
      omega
    unfold piecesF endP
    cases hm : markB L L.length L.length
    · simp [linesL, readR, marksF, usesF, hm]
    · have po := place_ok L.length
      have hlin := linesL_app (placeL L.length ++ [58]) [] (fun c hc => by
        rcases List.mem_append.1 hc with hc | hc
        · exact (okC_facts (po.2 c hc)).2.1
        · obtain rfl : c = 58 := by simpa using hc
          decide)
      have e : placeL L.length ++ [58, 10] = placeL L.length ++ [58] ++ 10 :: [] := by simp
      simp only [if_true]
      rw [e, hlin, readR, bodyL_line _ (fun c hc => by
        rcases List.mem_append.1 hc with hc | hc
        · exact (okC_facts (po.2 c hc)).2.2.1
        · obtain rfl : c = 58 := by simpa using hc
          decide), toks_colon _ _ (fun c hc => (okC_facts (po.2 c hc)).1) po.1, toks_empty, lineR, if_pos (by simp), List.dropLast_concat]
      unfold standR
      rw [if_pos ⟨place_lab _ (by omega), hnl⟩]
      simp [lineR, linesL, readR, marksF, usesF, hm, hc]
  | i :: t, k, r, hk, hf, hc, hl => by
    obtain ⟨h1, h2, h3⟩ := hf i (by simp)
    have hkL : k < L.length := by simp at hk; omega
    have hnl : placeL k ∉ r.labs.map (·.1) := fun hm => by
      obtain ⟨x, hx, e⟩ := List.mem_map.1 hm
      obtain ⟨j, hj, e'⟩ := hl x hx
      have := place_inj (show j < 18446744073709551616 by omega) (show k < 18446744073709551616 by omega) (e'.symm.trans e)
      omega
    obtain ⟨p, _, q2, q3⟩ := piece_line h1 h2 h3 hL hkL r hc hnl (piecesF L (k + 1) t)
    rw [piecesF, q2, readR, q3]
    simp only
    rw [pieces_readR hL t (k + 1) _ (by simp at hk; omega) (fun j hj => hf j (by simp [hj])) (by simp [hc]) (fun x hx => by
      rcases List.mem_append.1 hx with hx | hx
      · obtain ⟨j, hj, e⟩ := hl x hx
        exact ⟨j, by omega, e⟩
      · cases hm : markB L L.length k
        · rw [hm] at hx; simp at hx
        · rw [hm] at hx
          obtain rfl : x = (placeL k, k) := by simpa using hx
          exact ⟨k, by omega, rfl⟩)]
    simp [marksF, usesF]

theorem marks_lookup {f : Nat → Bool} : ∀ (m k j : Nat), k ≤ j → j < k + m → j < 18446744073709551616 → f j = true → (marksF f k m).lookup (placeL j) = some j
  | 0, k, j, h0, h1, _, _ => by omega
  | m + 1, k, j, h0, h1, h2, h3 => by
    unfold marksF
    by_cases he : k = j
    · subst he
      rw [h3]
      simp
    · have ih := marks_lookup m (k + 1) j (by omega) (by omega) h2 h3
      have hne : (placeL j == placeL k) = false := by
        simp only [beq_eq_false_iff_ne]
        exact fun e => he (place_inj (by omega) h2 e.symm)
      cases f k
      · simpa using ih
      · simp only [if_true, List.cons_append, List.nil_append, List.lookup, hne]
        exact ih
theorem modify_mid {f : I5 → I5} {x : I5} {r : List I5} : ∀ pre : List I5, (pre ++ x :: r).modify pre.length f = pre ++ f x :: r
  | [] => by simp
  | c :: t => by simp [modify_mid t]
theorem mark_of_aim {L : List I5} {i : I5} (hi : i ∈ L) (h0 : 0 ≤ i.n) (ha : aimB i L.length = true) : markB L L.length i.n.toNat = true := by
  unfold markB
  rw [List.any_eq_true]
  exact ⟨i, hi, by rw [ha]; simp; omega⟩
theorem res_pieces {n : Nat} {labs : List (List UInt8 × Nat)} : ∀ (t : List I5) (pre : List I5), (∀ i ∈ t, 0 ≤ i.n ∧ (aimB i n = true → labs.lookup (placeL i.n.toNat) = some i.n.toNat)) → resR labs (pre ++ t.map (zN n)) (usesF n pre.length t) = (none, pre ++ t)
  | [], pre, _ => by simp [usesF, resR]
  | i :: t, pre, h => by
    obtain ⟨h1, h2⟩ := h i (by simp)
    have ih := res_pieces t (pre ++ [i]) (fun j hj => h j (by simp [hj]))
    simp only [List.length_append, List.length_cons, List.length_nil, Nat.zero_add] at ih
    unfold usesF
    cases ha : aimB i n
    · have hz : zN n i = i := by simp [zN, ha]
      simp only [if_neg (show ¬ (false = true) by decide), List.nil_append, List.map_cons, hz]
      simpa using ih
    · have hz : zN n i = { i with n := 0 } := by simp [zN, ha]
      simp only [if_true, List.cons_append, List.nil_append, List.map_cons, hz]
      unfold resR
      rw [h2 ha]
      simp only
      have hs : setN (pre ++ { i with n := 0 } :: t.map (zN n)) pre.length i.n.toNat = pre ++ [i] ++ t.map (zN n) := by
        unfold setN
        have e : ((i.n.toNat : Nat) : Int) = i.n := by omega
        rw [modify_mid]
        simp [e]
      rw [hs, ih]
      simp
/-- A program's list is read as the program. -/
theorem list_read (L : List I5) (hL : L.length ≤ 65536) (h : ∀ i ∈ L, formedB i = true ∧ 0 ≤ i.n ∧ i.n < 18446744073709551616) :
    readT (listL L) = (L.length + (if markB L L.length L.length then 1 else 0), some (L, marksF (markB L L.length) 0 (L.length + 1))) := by
  unfold readT
  rw [list_pieces, pieces_readR hL L 0 ⟨[], [], []⟩ (by simp) h rfl (fun x hx => by simp at hx)]
  simp only [List.nil_append]
  have hr := res_pieces (n := L.length) (labs := marksF (markB L L.length) 0 (L.length + 1)) L [] (fun i hi => ⟨(h i hi).2.1, fun ha => by
    have ham := aim_facts ha
    have h0 := (h i hi).2.1
    exact marks_lookup _ 0 i.n.toNat (Nat.zero_le _) (by omega) (by omega) (mark_of_aim hi h0 ha)⟩)
  simp only [List.nil_append, List.length_nil] at hr
  rw [hr]
end Go.Proofs.YtkihmdbmdpmmmaaGreatDoor
