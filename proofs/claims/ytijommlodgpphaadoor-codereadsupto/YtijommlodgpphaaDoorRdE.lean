
/- Reading is the inverse of writing: plain facts. No statement of the seat is proved here. -/
import Derived.Test.YtijommlodgpphaaDoorRdD
namespace Go.Proofs.YtijommlodgpphaaDoor
open Go.RowKit Go.Shelf

theorem whG_sev : ∀ (k n a acc : Nat) (rest : List UInt8), n ≤ k → n * 2 ^ (7 * a) < 18446744073709551616 → a ≤ 9 → (a = 0 ∨ 0 < n) → whG a acc (sevL n ++ rest) = some (acc + n * 2 ^ (7 * a), a + (sevL n).length)
  | k, n, a, acc, rest, hk, hn, ha, h0 => by
    by_cases hgt : 127 < n
    · have ha8 : a ≤ 8 := by
        rcases (by omega : a = 9 ∨ a ≤ 8) with rfl | h
        · simp at hn; omega
        · exact h
      have hc : (UInt8.ofNat (n % 128 + 128)).toNat = n % 128 + 128 := by simp; omega
      have hp : 2 ^ (7 * (a + 1)) = 128 * 2 ^ (7 * a) := by rw [show 7 * (a + 1) = 7 * a + 7 by omega, Nat.pow_add, Nat.mul_comm]
      have hdm : n % 128 * 2 ^ (7 * a) + n / 128 * (128 * 2 ^ (7 * a)) = n * 2 ^ (7 * a) := by
        rw [← Nat.mul_assoc, ← Nat.add_mul]
        congr 1
        omega
      rw [sevL_more hgt, List.cons_append, whG, hc, if_neg (by omega), if_pos (by omega)]
      match k, hk with
      | 0, hk => omega
      | k + 1, hk =>
        rw [whG_sev k (n / 128) (a + 1) _ rest (by omega) (by rw [hp]; omega) (by omega) (.inr (by omega)), hp, show (n % 128 + 128) % 128 = n % 128 by omega, Nat.add_assoc, hdm]
        simp only [List.length_cons, Option.some.injEq, Prod.mk.injEq, true_and]
        omega
    · have hc : (UInt8.ofNat n).toNat = n := by simp; omega
      have h9 : ¬ (a = 9 ∧ 1 < n) := by
        rintro ⟨rfl, h⟩
        simp at hn; omega
      rw [sevL_last hgt, List.singleton_append, whG, hc, if_neg h9, if_neg hgt, if_neg (by omega), Nat.mod_eq_of_lt (by omega)]
      rfl
theorem whs_nums : ∀ (N : List Int) (rest : List UInt8), (∀ x ∈ N, 0 ≤ x ∧ x < 18446744073709551616) → whs N.length ((N.flatMap fun n => sevL n.toNat) ++ rest) = some (N, (N.flatMap fun n => sevL n.toNat).length)
  | [], rest, _ => rfl
  | x :: N, rest, h => by
    have hx := h x (by simp)
    have h1 := whG_sev x.toNat x.toNat 0 0 ((N.flatMap fun n => sevL n.toNat) ++ rest) (Nat.le_refl _) (by simp; omega) (by omega) (.inl rfl)
    simp only [Nat.mul_zero, Nat.pow_zero, Nat.mul_one, Nat.zero_add] at h1
    rw [List.flatMap_cons, List.append_assoc, List.length_cons, whs_one h1, List.drop_left, whs_nums N rest fun y hy => h y (by simp [hy])]
    simp only [Option.map_some, List.length_append]
    rw [show ((x.toNat : Nat) : Int) = x by omega]
theorem numL_of {i : I5} (hf : formedB i = true) (hw : i.wf) : (numL i).length = partsN i.op ∧ (∀ x ∈ numL i, 0 ≤ x ∧ x < 18446744073709551616) ∧ regOk i.op (numL i) = true ∧ insOf i.op (numL i) = i := by
  have HL := numL_eq hf
  obtain ⟨⟨h0, h1⟩, hnn, ⟨ha0, ha1⟩, ⟨hb0, hb1⟩, ⟨hc0, hc1⟩⟩ := formed_facts hf
  obtain ⟨-, -, -, -, hn0, hn1⟩ := hw
  unfold formedB at hf
  simp only [Bool.and_eq_true] at hf
  obtain ⟨⟨⟨_, f1⟩, f2⟩, f3⟩ := hf
  have g1 := okR_yes f1
  have g2 := okR_yes f2
  have g3 := okR_yes f3
  clear f1 f2 f3
  rw [HL]
  unfold regL
  obtain ⟨op, a, b, c, n⟩ := i
  dsimp only at *
  rcases shapes h0 h1 with ⟨e1, e2⟩ | ⟨e1, e2⟩ | ⟨e1, e2⟩ | ⟨e1, e2⟩ | ⟨e1, e2⟩
  all_goals (rw [e1] at g1 g2 g3; simp [insOf, regOk, partsN, e1, e2]; simp [e2] at hnn; omega)
theorem firstF_bytes {i : I5} (hf : formedB i = true) (hw : i.wf) (rest : List UInt8) : firstF (bytesL i ++ rest) = some (i, (bytesL i).length) := by
  obtain ⟨h1, h2, h3, h4⟩ := numL_of hf hw
  obtain ⟨⟨o0, o1⟩, -⟩ := formed_facts hf
  have hc : (UInt8.ofNat i.op.toNat).toNat = i.op.toNat := by simp; omega
  unfold bytesL
  rw [List.cons_append, firstF, hc, if_pos (by omega), show ((i.op.toNat : Nat) : Int) = i.op by omega, ← h1, whs_nums _ _ h2]
  dsimp only
  rw [if_pos h3, h4, List.length_cons, Nat.add_comm]
theorem readL_bytes : ∀ (L : List I5), (∀ i ∈ L, formedB i = true) → (∀ i ∈ L, i.wf) → readL (L.flatMap bytesL) = (L, (L.flatMap bytesL).length, true)
  | [], _, _ => rfl
  | i :: L, hf, hw => by
    have h := firstF_bytes (hf i (by simp)) (hw i (by simp)) (L.flatMap bytesL)
    rw [List.flatMap_cons, readL_some h, List.drop_left, readL_bytes L (fun j hj => hf j (by simp [hj])) (fun j hj => hw j (by simp [hj])), List.length_append]
theorem bytesL_len {i : I5} (hf : formedB i = true) (hw : i.wf) : 1 ≤ (bytesL i).length ∧ (bytesL i).length ≤ 31 := by
  obtain ⟨h1, h2, _⟩ := numL_of hf hw
  obtain ⟨⟨o0, o1⟩, -⟩ := formed_facts hf
  have h3 := flat10 _ h2
  have h4 := partsN_le o0 o1
  unfold bytesL
  rw [List.length_cons]
  omega
theorem bytesA_len : ∀ (L : List I5), (∀ i ∈ L, formedB i = true) → (∀ i ∈ L, i.wf) → (L.flatMap bytesL).length ≤ 31 * L.length
  | [], _, _ => Nat.le_refl _
  | i :: L, hf, hw => by
    have h := bytesL_len (hf i (by simp)) (hw i (by simp))
    have h' := bytesA_len L (fun j hj => hf j (by simp [hj])) (fun j hj => hw j (by simp [hj]))
    rw [List.flatMap_cons, List.length_append, List.length_cons]
    omega
end Go.Proofs.YtijommlodgpphaaDoor
