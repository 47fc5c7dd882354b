
/- What is read of a line is written as it (pure). No statement of the seat is proved here. -/
import Derived.Test.YtjaldfmdjnkoeaaDoorEvCa
namespace Go.Proofs.YtjaldfmdjnkoeaaDoor
open Go.RowKit Go.Shelf

theorem parM_snoc (M : Nat) : ∀ (x : List UInt8) (c : UInt8) (a n : Nat), Lib.parseUintM M a (x ++ [c]) = .ok n → ∃ m, Lib.parseUintM M a x = .ok m ∧ 48 ≤ c.toNat ∧ c.toNat ≤ 57 ∧ n = m * 10 + (c.toNat - 48)
  | [], c, a, n, h => by
    rw [List.nil_append, Lib.parseUintM] at h
    split at h
    · rename_i h1
      split at h
      · cases h
      · split at h
        · cases h
        · simp only [Lib.parseUintM, Lib.NumEnd.ok.injEq] at h
          exact ⟨a, rfl, h1.1, h1.2, h.symm⟩
    · cases h
  | d :: x, c, a, n, h => by
    rw [List.cons_append, Lib.parseUintM] at h
    rw [Lib.parseUintM]
    split at h
    · rename_i h1
      rw [if_pos h1]
      split at h
      · cases h
      · rename_i h2
        rw [if_neg h2]
        split at h
        · cases h
        · rename_i h3
          rw [if_neg h3]
          exact parM_snoc M x c _ n h
    · cases h
theorem dec_forth (M : Nat) : ∀ (k : Nat) (l : List UInt8) (n : Nat), l.length = k → l ≠ [] → (l.head? ≠ some 48 ∨ l.length = 1) → Lib.parseUintM M 0 l = .ok n → l = Lib.decDigits n := by
  intro k
  induction k with
  | zero => intro l n hl hne; exact absurd (List.length_eq_zero_iff.1 hl) hne
  | succ k ih =>
    intro l n hl hne hh hp
    obtain ⟨x, c, rfl⟩ : ∃ x c, l = x ++ [c] := ⟨l.dropLast, l.getLast hne, (List.dropLast_concat_getLast hne).symm⟩
    obtain ⟨m, h1, h2, h3, h4⟩ := parM_snoc M x c 0 n hp
    have hcc : ∀ d, d = c.toNat - 48 → UInt8.ofNat (48 + d) = c := fun d hd => by
      apply UInt8.toNat.inj
      rw [UInt8.toNat_ofNat']; omega
    by_cases hx : x = []
    · subst hx
      simp only [Lib.parseUintM, Lib.NumEnd.ok.injEq] at h1
      rw [List.nil_append, Lib.decDigits_one (by omega), hcc n (by omega)]
    · have hxl : 0 < x.length := List.length_pos_iff.2 hx
      have hh' : x.head? ≠ some 48 := by
        rcases hh with hh | hh
        · cases x with
          | nil => exact absurd rfl hx
          | cons d t => simpa using hh
        · simp at hh; exact absurd hh hx
      have ex := ih x m (by simp at hl; exact hl) hx (.inl hh') h1
      have hm : m ≠ 0 := fun h0 => by
        rw [h0, Lib.decDigits_one (by decide)] at ex
        rw [ex] at hh'
        exact hh' rfl
      rw [Lib.decDigits, dif_neg (by omega), show n / 10 = m by omega, ← ex, hcc (n % 10) (by omega)]
theorem numP_forth {m : Nat} {l : List UInt8} (h : numP m l = true) : l = Lib.decDigits (parP l).1 ∧ (parP l).1 ≤ m := by
  unfold numP at h
  simp only [Bool.and_eq_true, Bool.or_eq_true, decide_eq_true_eq] at h
  obtain ⟨⟨h1, h2⟩, h3⟩ := h
  refine ⟨?_, h2⟩
  obtain ⟨c, t, rfl⟩ := parP_ne h1
  unfold parP Lib.parseUintB at h1 ⊢
  rw [if_neg (by simp)] at h1 ⊢
  cases hp : Lib.parseUintM (2 ^ 64 - 1) 0 (c :: t) with
  | ok u => exact dec_forth _ _ _ u rfl (by simp) h3 hp
  | «syntax» => rw [hp] at h1; cases h1
  | range => rw [hp] at h1; cases h1
theorem numP_nil (m : Nat) : numP m [] = false := by
  simp [numP, parP, Lib.parseUintB]
theorem cutA_yes {c : UInt8} : ∀ {l x r : List UInt8}, cutA c l = (x, r, true) → l = x ++ c :: r
  | [], x, r, h => by simp [cutA] at h
  | d :: t, x, r, h => by
    rw [cutA] at h
    split at h
    · rename_i hd
      simp only [Prod.mk.injEq] at h
      rw [← h.1, ← h.2.1, hd]; rfl
    · simp only [Prod.mk.injEq] at h
      obtain ⟨h1, h2, h3⟩ := h
      have := cutA_yes (l := t) (x := (cutA c t).1) (r := (cutA c t).2.1) (by rw [← h3])
      rw [← h1, ← h2, List.cons_append, ← this]
theorem cutA_nope {c : UInt8} : ∀ {l x r : List UInt8}, cutA c l = (x, r, false) → l = x ∧ r = []
  | [], x, r, h => by
    simp only [cutA, Prod.mk.injEq] at h
    exact ⟨h.1, h.2.1.symm⟩
  | d :: t, x, r, h => by
    rw [cutA] at h
    split at h
    · simp at h
    · simp only [Prod.mk.injEq] at h
      obtain ⟨h1, h2, h3⟩ := h
      have := cutA_nope (l := t) (x := (cutA c t).1) (r := (cutA c t).2.1) (by rw [← h3])
      rw [← h1, ← h2]
      exact ⟨by rw [← this.1], this.2⟩
theorem kindP_nil : (kindP []).2.2 = false := by rfl
theorem kindP_forth {l : List UInt8} {k : Int} {o : Bool} (h : kindP l = (k, o, true)) : l = if o then [111, 119, 110] else shL k.toNat := by
  unfold kindP at h
  split at h
  · rename_i h1
    simp only [Prod.mk.injEq] at h
    rw [← h.2.1, h1]; rfl
  · cases hf : (List.range 13).find? (fun k => decide (0 < k) && decide (shL k = l)) with
    | none => rw [hf] at h; simp at h
    | some j =>
      rw [hf] at h
      simp only [Prod.mk.injEq] at h
      obtain ⟨h1, h2, -⟩ := h
      have := List.find?_some hf
      simp only [Bool.and_eq_true, decide_eq_true_eq] at this
      rw [← h2, ← h1]
      simp [this.2]
theorem tab_at (l : List Bool) (k : Int) (h : (l[k.toNat]?).getD false = true) : k.toNat < l.length := by
  rcases Nat.lt_or_ge k.toNat l.length with q | q
  · exact q
  · rw [List.getElem?_eq_none q] at h; cases h
theorem adB_more {k : Int} (h : adB k = true) : wdB k = true ∧ erB k = false := by
  have := tab_at _ k h
  unfold adB wdB erB at *
  generalize k.toNat = j at *
  simp only [List.length_cons, List.length_nil] at this
  have : j = 0 ∨ j = 1 ∨ j = 2 ∨ j = 3 ∨ j = 4 ∨ j = 5 ∨ j = 6 ∨ j = 7 ∨ j = 8 ∨ j = 9 ∨ j = 10 ∨ j = 11 ∨ j = 12 := by omega
  rcases this with rfl | rfl | rfl | rfl | rfl | rfl | rfl | rfl | rfl | rfl | rfl | rfl | rfl <;> first | exact absurd h (by decide) | exact ⟨rfl, rfl⟩
theorem wdB_more {k : Int} (h : wdB k = true) : erB k = false := by
  have := tab_at _ k h
  unfold wdB erB at *
  generalize k.toNat = j at *
  simp only [List.length_cons, List.length_nil] at this
  have : j = 0 ∨ j = 1 ∨ j = 2 ∨ j = 3 ∨ j = 4 ∨ j = 5 ∨ j = 6 ∨ j = 7 ∨ j = 8 ∨ j = 9 ∨ j = 10 ∨ j = 11 ∨ j = 12 := by omega
  rcases this with rfl | rfl | rfl | rfl | rfl | rfl | rfl | rfl | rfl | rfl | rfl | rfl | rfl <;> first | exact absurd h (by decide) | rfl
theorem finP_some {e x : Ev} {m : Bool} (h : finP x m = some e) : m = false ∧ x = e := by
  unfold finP at h
  split at h
  · rename_i q; exact ⟨q.1, Option.some.inj h⟩
  · cases h
/-- What is read of a line is written as the line. -/
theorem read_forth {l : List UInt8} {e : Ev} (h : readE l = some e) : l = lineL e := by
  unfold readE at h
  generalize hc1 : cutA 32 l = C1 at h
  obtain ⟨x1, r1, m1⟩ := C1
  dsimp only at h
  generalize hc2 : cutA 32 r1 = C2 at h
  obtain ⟨x2, r2, m2⟩ := C2
  dsimp only at h
  generalize hc3 : cutA 32 r2 = C3 at h
  obtain ⟨x3, r3, m3⟩ := C3
  dsimp only at h
  generalize hc4 : cutA 32 r3 = C4 at h
  obtain ⟨x4, r4, m4⟩ := C4
  dsimp only at h
  cases n1 : numP 7 x1 with
  | false => simp [n1] at h
  | true =>
    rw [n1] at h
    simp only [Bool.true_eq_false, if_false] at h
    generalize hk : kindP x2 = K at h
    obtain ⟨k, o, y⟩ := K
    dsimp only at h
    cases y with
    | false => simp at h
    | true =>
      simp only [Bool.true_eq_false, if_false] at h
      have hm1 : m1 = true := by
        cases m1 with
        | true => rfl
        | false =>
          obtain ⟨-, rfl⟩ := cutA_nope hc1
          simp only [cutA, Prod.mk.injEq] at hc2
          rw [← hc2.1] at hk
          have := kindP_nil
          rw [hk] at this; cases this
      subst hm1
      have e1 := cutA_yes hc1
      have ex2 := kindP_forth hk
      obtain ⟨ex1, -⟩ := numP_forth n1
      have hr2 : ∀ b, m2 = false → numP b x3 = true → False := fun b q n => by
        subst q
        obtain ⟨-, rfl⟩ := cutA_nope hc2
        simp only [cutA, Prod.mk.injEq] at hc3
        rw [← hc3.1, numP_nil] at n; cases n
      have hr3 : ∀ b, m3 = false → numP b x4 = true → False := fun b q n => by
        subst q
        obtain ⟨-, rfl⟩ := cutA_nope hc3
        simp only [cutA, Prod.mk.injEq] at hc4
        rw [← hc4.1, numP_nil] at n; cases n
      by_cases had : adB k = true
      · rw [if_pos had] at h
        cases n3 : numP 18446744073709551615 x3 with
        | false => simp [n3] at h
        | true =>
          cases n4 : numP 18446744073709551615 x4 with
          | false => simp [n3, n4] at h
          | true =>
            rw [n3, n4] at h
            simp only [Bool.true_eq_false, if_false] at h
            obtain ⟨q, rfl⟩ := finP_some h
            subst q
            have hm2 : m2 = true := by cases m2 with | true => rfl | false => exact (hr2 _ rfl n3).elim
            have hm3 : m3 = true := by cases m3 with | true => rfl | false => exact (hr3 _ rfl n4).elim
            subst hm2 hm3
            have e2 := cutA_yes hc2
            have e3 := cutA_yes hc3
            obtain ⟨e4, -⟩ := cutA_nope hc4
            obtain ⟨ex3, -⟩ := numP_forth n3
            obtain ⟨ex4, -⟩ := numP_forth n4
            have hw : wdB k = true ∧ erB k = false := adB_more had
            simp only [lineL, nameL, blankN, had, hw.1, hw.2, Int.toNat_natCast, if_true, Bool.false_eq_true, if_false, List.append_nil]
            rw [← ex1, ← ex2, ← ex3, ← ex4, e1, e2, e3, e4]
            simp
      · have had' : adB k = false := by simpa using had
        rw [if_neg had] at h
        by_cases hwd : wdB k = true
        · rw [if_pos hwd] at h
          cases n3 : numP 18446744073709551615 x3 with
          | false => simp [n3] at h
          | true =>
            rw [n3] at h
            simp only [Bool.true_eq_false, if_false] at h
            obtain ⟨q, rfl⟩ := finP_some h
            subst q
            have hm2 : m2 = true := by cases m2 with | true => rfl | false => exact (hr2 _ rfl n3).elim
            subst hm2
            have e2 := cutA_yes hc2
            obtain ⟨e3, -⟩ := cutA_nope hc3
            obtain ⟨ex3, -⟩ := numP_forth n3
            have hw : erB k = false := wdB_more hwd
            simp only [lineL, nameL, blankN, had', hwd, hw, Int.toNat_natCast, if_true, Bool.false_eq_true, if_false, List.append_nil, List.nil_append]
            rw [← ex1, ← ex2, ← ex3, e1, e2, e3]
        · have hwd' : wdB k = false := by simpa using hwd
          rw [if_neg hwd] at h
          by_cases her : erB k = true
          · rw [if_pos her] at h
            cases n3 : numP 6 x3 with
            | false => simp [n3] at h
            | true =>
              rw [n3] at h
              simp only [Bool.true_eq_false, if_false] at h
              obtain ⟨q, rfl⟩ := finP_some h
              subst q
              have hm2 : m2 = true := by cases m2 with | true => rfl | false => exact (hr2 _ rfl n3).elim
              subst hm2
              have e2 := cutA_yes hc2
              obtain ⟨e3, -⟩ := cutA_nope hc3
              obtain ⟨ex3, -⟩ := numP_forth n3
              simp only [lineL, nameL, blankN, had', hwd', her, Int.toNat_natCast, if_true, Bool.false_eq_true, if_false, List.nil_append]
              rw [← ex1, ← ex2, ← ex3, e1, e2, e3]
          · have her' : erB k = false := by simpa using her
            rw [if_neg her] at h
            obtain ⟨q, rfl⟩ := finP_some h
            subst q
            obtain ⟨e2, -⟩ := cutA_nope hc2
            simp only [lineL, nameL, blankN, had', hwd', her', Int.toNat_natCast, Bool.false_eq_true, if_false, List.append_nil]
            rw [← ex1, ← ex2, e1, e2]
end Go.Proofs.YtjaldfmdjnkoeaaDoor
