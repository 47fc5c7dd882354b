
/- A text read again is the instruction: plain facts. No statement of the seat is proved here. -/
import Derived.Test.YtijommlodgpphaaDoorRfG
namespace Go.Proofs.YtijommlodgpphaaDoor
open Go.RowKit Go.Shelf

theorem pcs_word : ∀ x : List UInt8, (32 : UInt8) ∉ x → pcs x = [x]
  | [], _ => rfl
  | c :: t, h => by
    have h1 : ¬ c = 32 := fun e => h (by simp [e])
    have h2 := pcs_word t (fun e => h (by simp [e]))
    rw [pcs, if_neg h1, h2]
theorem pcs_blank : ∀ (x t : List UInt8), (32 : UInt8) ∉ x → pcs (x ++ 32 :: t) = x :: pcs t
  | [], t, _ => by simp [pcs]
  | c :: x, t, h => by
    have h1 : ¬ c = 32 := fun e => h (by simp [e])
    have h2 := pcs_blank x t (fun e => h (by simp [e]))
    rw [List.cons_append, pcs, if_neg h1, h2]
theorem dec_mem (n : Nat) : ∀ c ∈ Lib.decDigits n, 48 ≤ c.toNat ∧ c.toNat ≤ 57 := by
  induction n using Nat.strongRecOn with
  | ind n ih =>
    intro c hc
    by_cases h : n < 10
    · rw [Lib.decDigits, dif_pos h] at hc
      simp only [List.mem_singleton] at hc
      rw [hc, byte_of n h]; omega
    · rw [Lib.decDigits, dif_neg h] at hc
      rcases List.mem_append.1 hc with hc | hc
      · exact ih (n / 10) (by omega) c hc
      · simp only [List.mem_singleton] at hc
        rw [hc, byte_of (n % 10) (by omega)]; omega
theorem dec_noblank (n : Nat) : (32 : UInt8) ∉ Lib.decDigits n := fun h => by
  have := dec_mem n 32 h
  simp at this
theorem dec_ne (n : Nat) : Lib.decDigits n ≠ [] := by
  intro h
  have h1 := Lib.decDigits_length n
  have h2 := Lib.nDigits_pos n
  rw [h] at h1
  simp at h1
  omega
theorem pcs_text : ∀ (N : List Int) (x : List UInt8), (32 : UInt8) ∉ x → pcs (x ++ blanked N) = x :: N.map fun n => Lib.decDigits n.toNat
  | [], x, h => by simpa [blanked] using pcs_word x h
  | n :: N, x, h => by
    have e : x ++ blanked (n :: N) = x ++ 32 :: (Lib.decDigits n.toNat ++ blanked N) := by simp [blanked]
    rw [e, pcs_blank _ _ h, pcs_text N _ (dec_noblank _)]
    rfl

theorem decGo_snoc : ∀ (l : List UInt8) (b : Bool) (m : Nat) (c : UInt8), decGo b m (l ++ [c]) = (decGo b m l).bind fun n => decGo (b && l.isEmpty) n [c]
  | [], b, m, c => by simp [decGo]
  | x :: l, b, m, c => by
    rw [List.cons_append, decGo, decGo]
    split
    · rfl
    · split
      · rfl
      · rw [decGo_snoc l false _ c]
        simp
theorem dec_back (n : Nat) (hn : n < 18446744073709551616) : decGo true 0 (Lib.decDigits n) = some n := by
  induction n using Nat.strongRecOn with
  | ind n ih =>
    by_cases h : n < 10
    · rw [Lib.decDigits, dif_pos h, decGo, byte_of n h, if_neg (by simp; omega), if_neg (by omega), decGo]
      simp
    · rw [Lib.decDigits, dif_neg h, decGo_snoc, ih (n / 10) (by omega) (by omega), Option.bind_some]
      have he : (Lib.decDigits (n / 10)).isEmpty = false := by simpa using dec_ne (n / 10)
      rw [he, decGo, byte_of (n % 10) (by omega), if_neg (by simp; omega), if_neg (by omega), decGo]
      congr 1
      omega
theorem decL_back (n : Nat) (hn : n < 18446744073709551616) : decL (Lib.decDigits n) = some n := by
  unfold decL
  rw [if_neg (dec_ne n), dec_back n hn]
theorem decAll_back : ∀ N : List Int, (∀ x ∈ N, 0 ≤ x ∧ x < 18446744073709551616) → decAll (N.map fun n => Lib.decDigits n.toNat) = some N
  | [], _ => rfl
  | n :: N, h => by
    have h1 := h n (by simp)
    have h2 := decAll_back N (fun x hx => h x (by simp [hx]))
    rw [List.map_cons, decAll, decL_back n.toNat (by omega)]
    dsimp only
    rw [h2]
    simp
    omega

theorem ins_back {i : I5} (h : formedB i = true) : (numL i).length = partsN i.op ∧ regOk i.op (numL i) = true ∧ insOf i.op (numL i) = i := by
  have HL := numL_eq h
  have hf := formed_facts h
  unfold formedB at h
  simp only [Bool.and_eq_true, decide_eq_true_eq, Bool.or_eq_true] at h
  obtain ⟨⟨⟨⟨h1, h2⟩, h3⟩, h4⟩, h5⟩ := h
  replace h3 := okR_yes h3
  replace h4 := okR_yes h4
  replace h5 := okR_yes h5
  obtain ⟨op, a, b, c, n⟩ := i
  dsimp only at *
  have hrn : (regsN op = 0 ∧ numB op = false) ∨ (regsN op = 0 ∧ numB op = true) ∨ (regsN op = 1 ∧ numB op = true) ∨ (regsN op = 2 ∧ numB op = false) ∨ (regsN op = 3 ∧ numB op = false) := by
    rcases op17 h1.1 h1.2 with rfl | rfl | rfl | rfl | rfl | rfl | rfl | rfl | rfl | rfl | rfl | rfl | rfl | rfl | rfl | rfl | rfl <;> decide
  have hn0 := hf.2.1
  rw [HL]
  unfold regL partsN regOk insOf
  dsimp only
  rcases hrn with ⟨hr, hn⟩ | ⟨hr, hn⟩ | ⟨hr, hn⟩ | ⟨hr, hn⟩ | ⟨hr, hn⟩ <;> rw [hr] at h3 h4 h5 <;> rw [hr, hn]
  · obtain rfl : a = 0 := by omega
    obtain rfl : b = 0 := by omega
    obtain rfl : c = 0 := by omega
    obtain rfl : n = 0 := hn0 hn
    exact ⟨rfl, rfl, rfl⟩
  · obtain rfl : a = 0 := by omega
    obtain rfl : b = 0 := by omega
    obtain rfl : c = 0 := by omega
    exact ⟨rfl, rfl, rfl⟩
  · obtain rfl : b = 0 := by omega
    obtain rfl : c = 0 := by omega
    exact ⟨rfl, by simp; omega, rfl⟩
  · obtain rfl : c = 0 := by omega
    obtain rfl : n = 0 := hn0 hn
    exact ⟨rfl, by simp; omega, rfl⟩
  · obtain rfl : n = 0 := hn0 hn
    exact ⟨rfl, by simp; omega, rfl⟩

theorem nms_noblank : ∀ k : Fin 18, (32 : UInt8) ∉ (nms[k.val]?).getD [] := by decide

/-- Parse of Text is the instruction. -/
theorem parse_text {i : I5} (h : formedB i = true) (hn0 : 0 ≤ i.n) (hn : i.n < 18446744073709551616) : parseL (textL i) = some i := by
  obtain ⟨⟨h0, h1⟩, -⟩ := formed_facts h
  obtain ⟨b1, b2, b3⟩ := ins_back h
  have hN : ∀ x ∈ numL i, 0 ≤ x ∧ x < 18446744073709551616 := fun x hx => num3_bound h hn0 hn x (List.mem_of_mem_take hx)
  unfold parseL textL
  rw [pcs_text _ _ (nms_noblank ⟨i.op.toNat, by omega⟩)]
  dsimp only
  rw [namedN_yes (k := i.op.toNat) (by omega) (by omega) rfl]
  dsimp only
  rw [show ((i.op.toNat : Nat) : Int) = i.op by omega, if_pos (by simpa using b1), decAll_back _ hN]
  dsimp only
  rw [if_pos b2, b3]
theorem text_len {i : I5} (h : formedB i = true) (hn0 : 0 ≤ i.n) (hn : i.n < 18446744073709551616) : (textL i).length < 4294967281 := by
  obtain ⟨⟨h0, h1⟩, -⟩ := formed_facts h
  have hN : ∀ x ∈ numL i, 0 ≤ x ∧ x < 18446744073709551616 := fun x hx => num3_bound h hn0 hn x (List.mem_of_mem_take hx)
  have hnm : ((nms[i.op.toNat]?).getD []).length ≤ 10 := by
    have : ∀ l ∈ nms, l.length ≤ 10 := by decide
    cases h : nms[i.op.toNat]? with
    | none => simp
    | some l => exact this l (List.mem_of_getElem? h)
  have hb : ∀ N : List Int, (∀ x ∈ N, 0 ≤ x ∧ x < 18446744073709551616) → (blanked N).length ≤ 21 * N.length := by
    intro N
    induction N with
    | nil => simp [blanked]
    | cons n N ih =>
      intro hN
      have h1 := ih (fun x hx => hN x (by simp [hx]))
      have h2 := hN n (by simp)
      have h3 : (Lib.decDigits n.toNat).length ≤ 20 := by rw [Lib.decDigits_length]; exact Lib.nDigits_le20 _ (by omega)
      have e : blanked (n :: N) = 32 :: Lib.decDigits n.toNat ++ blanked N := by simp [blanked]
      rw [e]
      simp only [List.cons_append, List.length_cons, List.length_append]
      omega
  have h4 := hb _ hN
  have h5 : (numL i).length ≤ 3 := by unfold numL; rw [List.length_take, num3_length]; omega
  unfold textL
  rw [List.length_append]
  omega
end Go.Proofs.YtijommlodgpphaaDoor
