
/- What is read is what is written as these bytes: plain facts, and the document's way to read a number. No statement of the seat is proved here. -/
import Derived.Test.YtijommlodgpphaaDoorRdE
namespace Go.Proofs.YtijommlodgpphaaDoor
open Go.RowKit Go.Shelf

theorem whG_take : ∀ (l : List UInt8) (a acc m k : Nat), whG a acc l = some (m, k) → ∃ n, m = acc + n * 2 ^ (7 * a) ∧ a ≤ k ∧ l.take (k - a) = sevL n ∧ (a = 0 ∨ 0 < n)
  | [], _, _, _, _, h => by simp [whG] at h
  | c :: t, a, acc, m, k, h => by
    rw [whG] at h
    have hc : c.toNat < 256 := c.toNat_lt
    split at h
    · cases h
    · split at h
      · rename_i hgt
        obtain ⟨n, h1, h2, h3, h4⟩ := whG_take t (a + 1) _ m k h
        have hn0 : 0 < n := by omega
        have hp : 2 ^ (7 * (a + 1)) = 128 * 2 ^ (7 * a) := by rw [show 7 * (a + 1) = 7 * a + 7 by omega, Nat.pow_add, Nat.mul_comm]
        refine ⟨c.toNat % 128 + 128 * n, ?_, by omega, ?_, .inr (by omega)⟩
        · rw [h1, hp, Nat.add_mul, Nat.mul_assoc, Nat.add_assoc, Nat.mul_left_comm]
        · rw [show k - a = (k - (a + 1)) + 1 by omega, List.take_succ_cons, h3, sevL_more (n := c.toNat % 128 + 128 * n) (by omega), show (c.toNat % 128 + 128 * n) / 128 = n by omega]
          congr 1
          rw [show (c.toNat % 128 + 128 * n) % 128 + 128 = c.toNat by omega]
          simp
      · rename_i hgt
        split at h
        · cases h
        · rename_i hz
          simp only [Option.some.injEq, Prod.mk.injEq] at h
          obtain ⟨rfl, rfl⟩ := h
          refine ⟨c.toNat, by rw [Nat.mod_eq_of_lt (by omega)], by omega, ?_, by omega⟩
          rw [show a + 1 - a = 0 + 1 by omega, List.take_succ_cons, sevL_last hgt]
          simp
theorem whs_take : ∀ (k : Nat) (l : List UInt8) (N : List Int) (u : Nat), whs k l = some (N, u) → l.take u = N.flatMap fun n => sevL n.toNat
  | 0, l, N, u, h => by
    simp only [whs, Option.some.injEq, Prod.mk.injEq] at h
    obtain ⟨rfl, rfl⟩ := h
    simp
  | k + 1, l, N, u, h => by
    cases hg : whG 0 0 l with
    | none => rw [whs_zero hg] at h; cases h
    | some ns =>
      obtain ⟨n, s⟩ := ns
      rw [whs_one hg] at h
      cases hw : whs k (l.drop s) with
      | none => rw [hw] at h; cases h
      | some r =>
        obtain ⟨N', u'⟩ := r
        rw [hw] at h
        simp only [Option.map_some, Option.some.injEq, Prod.mk.injEq] at h
        obtain ⟨rfl, rfl⟩ := h
        have h1 := whs_take k _ N' u' hw
        obtain ⟨n', e1, _, e3, _⟩ := whG_take l 0 0 n s hg
        simp only [Nat.mul_zero, Nat.pow_zero, Nat.mul_one, Nat.zero_add, Nat.sub_zero] at e1 e3
        subst e1
        rw [List.take_add, h1, e3, List.flatMap_cons, Int.toNat_natCast]
theorem firstF_take {l : List UInt8} {i : I5} {k : Nat} (h : firstF l = some (i, k)) : l.take k = bytesL i := by
  cases l with
  | nil => cases h
  | cons c t =>
    rw [firstF] at h
    split at h
    · rename_i hk
      cases hw : whs (partsN c.toNat) t with
      | none => rw [hw] at h; cases h
      | some r =>
        obtain ⟨N, u⟩ := r
        rw [hw] at h
        dsimp only at h
        split at h
        · rename_i hr
          simp only [Option.some.injEq, Prod.mk.injEq] at h
          obtain ⟨rfl, rfl⟩ := h
          obtain ⟨h1, h2, h3⟩ := whs_facts _ _ _ _ hw
          obtain ⟨_, _, f3⟩ := insOf_formed (op := c.toNat) (by omega) (by omega) h1 h2 hr
          unfold bytesL
          rw [f3, Nat.add_comm, List.take_succ_cons, whs_take _ _ _ _ hw]
          congr 1
          simp [insOf]
        · cases h
    · cases h
/-- The document's way to read a number: at most so many bytes, each with its weight. -/
def docN : Nat → Nat → Nat → List UInt8 → Nat × Nat
  | 0, acc, _, _ => (acc, 0)
  | _ + 1, acc, _, [] => (acc, 0)
  | f + 1, acc, wt, c :: t => if c.toNat < 128 then ((acc + c.toNat % 128 * wt) % 18446744073709551616, 1) else ((docN f ((acc + c.toNat % 128 * wt) % 18446744073709551616) (wt * 128 % 18446744073709551616) t).1, (docN f ((acc + c.toNat % 128 * wt) % 18446744073709551616) (wt * 128 % 18446744073709551616) t).2 + 1)
theorem docN_sev : ∀ (f n acc wt : Nat) (rest : List UInt8), (sevL n).length ≤ f → acc + n * wt < 18446744073709551616 → docN f acc wt (sevL n ++ rest) = (acc + n * wt, (sevL n).length)
  | 0, n, acc, wt, rest, h, _ => by have := sevL_pos n; omega
  | f + 1, n, acc, wt, rest, h, hb => by
    by_cases hgt : 127 < n
    · have hc : (UInt8.ofNat (n % 128 + 128)).toNat = n % 128 + 128 := by simp; omega
      have hdm : n % 128 * wt + n / 128 * (wt * 128) = n * wt := by
        rw [Nat.mul_comm wt 128, ← Nat.mul_assoc, ← Nat.add_mul]
        congr 1
        omega
      have hle : wt * 128 ≤ n / 128 * (wt * 128) := Nat.le_mul_of_pos_left _ (by omega)
      rw [sevL_more hgt, List.length_cons] at h
      rw [sevL_more hgt, List.cons_append, docN, hc, if_neg (by omega), show (n % 128 + 128) % 128 = n % 128 by omega, Nat.mod_eq_of_lt (a := acc + _) (by omega), Nat.mod_eq_of_lt (a := wt * 128) (by omega), docN_sev f (n / 128) _ _ rest (by omega) (by omega), Nat.add_assoc, hdm, List.length_cons]
    · have hc : (UInt8.ofNat n).toNat = n := by simp; omega
      rw [sevL_last hgt, List.singleton_append, docN, hc, if_pos (by omega), Nat.mod_eq_of_lt (a := n) (by omega), Nat.mod_eq_of_lt hb]
      rfl
theorem docN_le : ∀ (f acc wt : Nat) (l : List UInt8), (docN f acc wt l).2 ≤ f ∧ (docN f acc wt l).2 ≤ l.length
  | 0, _, _, _ => by simp [docN]
  | f + 1, _, _, [] => by simp [docN]
  | f + 1, acc, wt, c :: t => by
    rw [docN]
    split
    · simp
    · have := docN_le f ((acc + c.toNat % 128 * wt) % 18446744073709551616) (wt * 128 % 18446744073709551616) t
      simp only [List.length_cons]
      omega
/-- The instruction that the document lays out of the bytes, and how many it takes. -/
def docI (c : UInt8) (t : List UInt8) : I5 × Nat :=
  (⟨c.toNat, if 0 < regsN c.toNat then ((t[0]?).getD 0).toNat else 0, if 1 < regsN c.toNat then ((t[1]?).getD 0).toNat else 0, if 2 < regsN c.toNat then ((t[2]?).getD 0).toNat else 0, if numB c.toNat then (docN 10 0 1 (t.drop (regsN c.toNat))).1 else 0⟩,
   1 + regsN c.toNat + (if numB c.toNat then (docN 10 0 1 (t.drop (regsN c.toNat))).2 else 0))
theorem sevL_small {x : Int} (h0 : 0 ≤ x) (h1 : x < 8) : sevL x.toNat = [UInt8.ofNat x.toNat] := sevL_last (by omega)
theorem ofNat_back {x : Int} (h0 : 0 ≤ x) (h1 : x < 8) : ((UInt8.ofNat x.toNat).toNat : Int) = x := by
  have : (UInt8.ofNat x.toNat).toNat = x.toNat := by simp; omega
  rw [this]; omega
theorem docI_of {i : I5} (hf : formedB i = true) (hw : i.wf) (rest : List UInt8) : ∃ c t, bytesL i ++ rest = c :: t ∧ docI c t = (i, (bytesL i).length) := by
  have HL := numL_eq hf
  obtain ⟨⟨h0, h1⟩, hnn, ⟨ha0, ha1⟩, ⟨hb0, hb1⟩, ⟨hc0, hc1⟩⟩ := formed_facts hf
  obtain ⟨-, -, -, -, hn0, hn1⟩ := hw
  unfold formedB at hf
  simp only [Bool.and_eq_true] at hf
  obtain ⟨⟨⟨_, f1⟩, f2⟩, f3⟩ := hf
  have g1 := okR_yes f1
  have g2 := okR_yes f2
  have g3 := okR_yes f3
  clear f1 f2 f3
  have hc : ((UInt8.ofNat i.op.toNat).toNat : Int) = i.op := by
    have : (UInt8.ofNat i.op.toNat).toNat = i.op.toNat := by simp; omega
    rw [this]; omega
  unfold bytesL
  rw [HL]
  unfold regL
  refine ⟨_, _, rfl, ?_⟩
  unfold docI
  rw [hc]
  obtain ⟨op, a, b, c, n⟩ := i
  dsimp only at *
  have hd := docN_sev 10 n.toNat 0 1 rest (sevL_le10 (by omega)) (by omega)
  have sa := sevL_small ha0 ha1
  have sb := sevL_small hb0 hb1
  have sc := sevL_small hc0 hc1
  have oa := ofNat_back ha0 ha1
  have ob := ofNat_back hb0 hb1
  have oc := ofNat_back hc0 hc1
  rcases shapes h0 h1 with ⟨e1, e2⟩ | ⟨e1, e2⟩ | ⟨e1, e2⟩ | ⟨e1, e2⟩ | ⟨e1, e2⟩
  · rw [e1] at g1 g2 g3
    rw [e1, e2]
    simp [e2] at hnn
    simp
    omega
  · rw [e1] at g1 g2 g3
    rw [e1, e2]
    simp [hd]
    omega
  · rw [e1] at g1 g2 g3
    rw [e1, e2]
    simp [sa, hd]
    omega
  · rw [e1] at g1 g2 g3
    rw [e1, e2]
    simp [e2] at hnn
    simp [sa, sb]
    omega
  · rw [e1] at g1 g2 g3
    rw [e1, e2]
    simp [e2] at hnn
    simp [sa, sb, sc]
    omega
/-- What the document's way finds is what the program's way finds. -/
theorem docI_first {c : UInt8} {t : List UInt8} {i : I5} {k : Nat} (h : firstF (c :: t) = some (i, k)) : docI c t = (i, k) := by
  obtain ⟨h1, h2, h3, h4⟩ := firstF_facts h
  have ht := firstF_take h
  obtain ⟨c', t', e1, e2⟩ := docI_of h1 h2 ((c :: t).drop k)
  rw [← ht, List.take_append_drop] at e1
  cases e1
  rw [e2, ← ht, List.length_take, Nat.min_eq_left h4]
theorem docI_yes {c : UInt8} {t : List UInt8} (hf : formedB (docI c t).1 = true) (hw : (docI c t).1.wf) (he : bytesL (docI c t).1 = (c :: t).take (docI c t).2) (hle : (docI c t).2 ≤ (c :: t).length) : firstF (c :: t) = some (docI c t) := by
  have h := firstF_bytes hf hw ((c :: t).drop (docI c t).2)
  rw [he, List.take_append_drop, List.length_take, Nat.min_eq_left hle] at h
  exact h
end Go.Proofs.YtijommlodgpphaaDoor
