
/- What is written is read again: an event's line, a history's text (pure). No statement of the seat is proved here. -/
import Derived.Test.YtjaldfmdjnkoeaaDoorEvQ
import Derived.Test.YtjaldfmdjnkoeaaDoorEvR
namespace Go.Proofs.YtjaldfmdjnkoeaaDoor
open Go.RowKit Go.Shelf

theorem dec_mem (n : Nat) : ∀ c ∈ Lib.decDigits n, 48 ≤ c.toNat ∧ c.toNat ≤ 57 := by
  induction n using Nat.strongRecOn with
  | ind n ih =>
    intro c hc
    rw [Lib.decDigits] at hc
    split at hc
    · simp only [List.mem_singleton] at hc
      subst hc
      rw [UInt8.toNat_ofNat']; omega
    · rcases List.mem_append.1 hc with h | h
      · exact ih (n / 10) (by omega) c h
      · simp only [List.mem_singleton] at h
        subst h
        rw [UInt8.toNat_ofNat']; omega
theorem dec_ne (n : Nat) : Lib.decDigits n ≠ [] := by
  rw [Lib.decDigits]; split <;> simp
theorem dec_head : ∀ n : Nat, (Lib.decDigits n).head? = some 48 → (Lib.decDigits n).length = 1 := by
  have key : ∀ n : Nat, n ≠ 0 → (Lib.decDigits n).head? ≠ some 48 := by
    intro n
    induction n using Nat.strongRecOn with
    | ind n ih =>
      intro h0 hh
      rw [Lib.decDigits] at hh
      split at hh
      · simp only [List.head?_cons, Option.some.injEq] at hh
        have := congrArg UInt8.toNat hh
        rw [UInt8.toNat_ofNat'] at this
        simp at this; omega
      · cases hq : Lib.decDigits (n / 10) with
        | nil => exact dec_ne _ hq
        | cons d t =>
          rw [hq, List.cons_append, List.head?_cons] at hh
          exact ih (n / 10) (by omega) (by omega) (by rw [hq, List.head?_cons]; exact hh)
  intro n h
  by_cases h0 : n = 0
  · subst h0; rw [Lib.decDigits_one (by decide)]; rfl
  · exact absurd h (key n h0)
theorem parM_append (M : Nat) : ∀ (x y : List UInt8) (a b : Nat), Lib.parseUintM M a x = .ok b → Lib.parseUintM M a (x ++ y) = Lib.parseUintM M b y
  | [], y, a, b, h => by
    simp only [Lib.parseUintM, Lib.NumEnd.ok.injEq] at h
    subst h; rfl
  | c :: x, y, a, b, h => by
    rw [List.cons_append]
    rw [Lib.parseUintM] at h ⊢
    split
    · rename_i h1
      rw [if_pos h1] at h
      split
      · rename_i h2
        rw [if_pos h2] at h; cases h
      · rename_i h2
        rw [if_neg h2] at h
        split
        · rename_i h3
          rw [if_pos h3] at h; cases h
        · rename_i h3
          rw [if_neg h3] at h
          exact parM_append M x y _ b h
    · rename_i h1
      rw [if_neg h1] at h; cases h
theorem parM_one (M a d : Nat) (hd : d < 10) (ha : a < 1844674407370955162) (hm : a * 10 + d ≤ M) : Lib.parseUintM M a [UInt8.ofNat (48 + d)] = .ok (a * 10 + d) := by
  have e : (UInt8.ofNat (48 + d)).toNat = 48 + d := by rw [UInt8.toNat_ofNat']; omega
  unfold Lib.parseUintM
  rw [e, if_pos (by omega), if_neg (by omega), if_neg (by omega)]
  simp only [Lib.parseUintM]
  congr 1; omega
theorem parM_dec (n : Nat) (hn : n < 18446744073709551616) : Lib.parseUintM (2 ^ 64 - 1) 0 (Lib.decDigits n) = .ok n := by
  induction n using Nat.strongRecOn with
  | ind n ih =>
    rw [Lib.decDigits]
    split
    · have := parM_one (2 ^ 64 - 1) 0 n (by omega) (by omega) (by omega)
      rw [this]; congr 1; omega
    · rw [parM_append _ _ _ _ _ (ih (n / 10) (by omega) (by omega)), parM_one _ _ _ (by omega) (by omega) (by omega)]
      congr 1; omega
theorem parP_dec (n : Nat) (hn : n < 18446744073709551616) : parP (Lib.decDigits n) = (n, true) := by
  unfold parP Lib.parseUintB
  rw [if_neg (dec_ne n), parM_dec n hn]
theorem numP_dec (m n : Nat) (hn : n < 18446744073709551616) (hm : n ≤ m) : numP m (Lib.decDigits n) = true := by
  unfold numP
  rw [parP_dec n hn]
  by_cases h : (Lib.decDigits n).head? = some 48
  · simp [hm, dec_head n h]
  · simp [hm, h]
theorem cutA_in {c : UInt8} : ∀ (x r : List UInt8), c ∉ x → cutA c (x ++ c :: r) = (x, r, true)
  | [], r, _ => by simp [cutA]
  | d :: x, r, h => by
    rw [List.cons_append, cutA, if_neg (fun e => h (by rw [e]; simp)), cutA_in x r (fun q => h (List.mem_cons_of_mem _ q))]
theorem cutA_out {c : UInt8} : ∀ (x : List UInt8), c ∉ x → cutA c x = (x, [], false)
  | [], _ => by simp [cutA]
  | d :: x, h => by
    rw [cutA, if_neg (fun e => h (by rw [e]; simp)), cutA_out x (fun q => h (List.mem_cons_of_mem _ q))]
theorem dec_no (c : UInt8) (hc : c.toNat < 48) (n : Nat) : c ∉ Lib.decDigits n := fun h => by
  have := dec_mem n c h; omega
theorem kindP_sh : ∀ k : Nat, 1 ≤ k → k < 13 → kindP (shL k) = ((k : Int), false, true) := by
  intro k h1 h2
  have : k = 1 ∨ k = 2 ∨ k = 3 ∨ k = 4 ∨ k = 5 ∨ k = 6 ∨ k = 7 ∨ k = 8 ∨ k = 9 ∨ k = 10 ∨ k = 11 ∨ k = 12 := by omega
  rcases this with rfl | rfl | rfl | rfl | rfl | rfl | rfl | rfl | rfl | rfl | rfl | rfl <;> rfl
theorem shL_no (c : UInt8) (hc : c = 32 ∨ c = 10) : ∀ k : Nat, k < 13 → c ∉ shL k := by
  intro k h
  have : k = 0 ∨ k = 1 ∨ k = 2 ∨ k = 3 ∨ k = 4 ∨ k = 5 ∨ k = 6 ∨ k = 7 ∨ k = 8 ∨ k = 9 ∨ k = 10 ∨ k = 11 ∨ k = 12 := by omega
  rcases hc with rfl | rfl <;> rcases this with rfl | rfl | rfl | rfl | rfl | rfl | rfl | rfl | rfl | rfl | rfl | rfl | rfl <;> decide
/-- What a formed event has. -/
theorem formed_more {e : Ev} (h : formedE e = true) : (e.own = true → e.kd = 2) ∧ (adB e.kd = false → e.ad = 0) ∧ (wdB e.kd = false → e.wd = 0) ∧ (erB e.kd = false → e.er = 0) ∧ (e.kd = 9 → e.er = 4 ∨ e.er = 5 ∨ e.er = 6) := by
  unfold formedE bareB lastB at h
  simp only [Bool.and_eq_true, Bool.or_eq_true, Bool.not_eq_true', decide_eq_true_eq, decide_eq_false_iff_not] at h
  obtain ⟨⟨-, ⟨⟨h1, h2⟩, h3⟩, h4⟩, -, h5⟩ := h
  refine ⟨fun q => ?_, fun q => ?_, fun q => ?_, fun q => ?_, fun q => ?_⟩
  · rcases h1 with h | h
    · rw [h] at q; cases q
    · exact h
  · rcases h2 with h | h
    · rw [h] at q; cases q
    · exact h
  · rcases h3 with h | h
    · rw [h] at q; cases q
    · exact h
  · rcases h4 with h | h
    · rw [h] at q; cases q
    · exact h
  · rcases h5 with h | h
    · exact absurd q h
    · rcases h with (h | h) | h
      · exact .inl h
      · exact .inr (.inl h)
      · exact .inr (.inr h)
theorem kindP_name {e : Ev} (h : formedE e = true) : kindP (nameL e) = (e.kd, e.own, true) := by
  obtain ⟨-, -, q0, q1⟩ := formed_in h
  unfold nameL
  cases ho : e.own with
  | true => rw [(formed_more h).1 ho]; rfl
  | false =>
    have := kindP_sh e.kd.toNat (by omega) (by omega)
    simp only [Bool.false_eq_true, if_false]
    rw [this, show ((e.kd.toNat : Nat) : Int) = e.kd by omega]
theorem name_no (c : UInt8) (hc : c = 32 ∨ c = 10) {e : Ev} (h : formedE e = true) : c ∉ nameL e := by
  obtain ⟨-, -, q0, q1⟩ := formed_in h
  unfold nameL
  split
  · rcases hc with rfl | rfl <;> decide
  · exact shL_no c hc _ (by omega)
theorem ev_mk (e : Ev) {a b c d f : Int} {o : Bool} (h1 : a = e.th) (h2 : b = e.kd) (h3 : c = e.ad) (h4 : d = e.wd) (h5 : o = e.own) (h6 : f = e.er) : (⟨a, b, c, d, o, f⟩ : Ev) = e := by
  subst h1 h2 h3 h4 h5 h6; rfl
theorem read_line {e : Ev} (h : formedE e = true) (hw : e.wf) : readE (lineL e) = some e := by
  obtain ⟨-, -, ⟨a0, a1⟩, ⟨w0, w1⟩, -⟩ := hw
  obtain ⟨t0, t8, q0, q1⟩ := formed_in h
  obtain ⟨-, f1, f2, f3, f4⟩ := formed_more h
  have hn32 := name_no 32 (.inl rfl) h
  have hd32 := dec_no 32 (by decide)
  have hk := kindP_name h
  have c1 : cutA 32 (lineL e) = (Lib.decDigits e.th.toNat, nameL e ++ (blankN (adB e.kd) e.ad ++ (blankN (wdB e.kd) e.wd ++ blankN (erB e.kd) e.er)), true) := cutA_in _ _ (hd32 _)
  have p1 := parP_dec e.th.toNat (by omega)
  have n1 := numP_dec 7 e.th.toNat (by omega) (by omega)
  have et : ((e.th.toNat : Nat) : Int) = e.th := by omega
  have ea : ((e.ad.toNat : Nat) : Int) = e.ad := by omega
  have ew : ((e.wd.toNat : Nat) : Int) = e.wd := by omega
  have pa := parP_dec e.ad.toNat (by omega)
  have pw := parP_dec e.wd.toNat (by omega)
  have na := numP_dec 18446744073709551615 e.ad.toNat (by omega) (by omega)
  have nw := numP_dec 18446744073709551615 e.wd.toNat (by omega) (by omega)
  have fin : ∀ x : Ev, x = e → finP x false = some e := fun x hx => by rw [hx]; simp [finP, h]
  unfold readE
  rw [c1]
  simp only [n1, p1, Bool.true_eq_false, if_false, et]
  by_cases had : adB e.kd = true
  · have hwd : wdB e.kd = true ∧ erB e.kd = false := by
      rcases kd12 q0 q1 with c | c | c | c | c | c | c | c | c | c | c | c <;> rw [c] at had ⊢ <;> first | exact absurd had (by decide) | exact ⟨by decide, by decide⟩
    obtain ⟨hwd, her⟩ := hwd
    have er0 := f3 her
    have c2 : cutA 32 (nameL e ++ (blankN (adB e.kd) e.ad ++ (blankN (wdB e.kd) e.wd ++ blankN (erB e.kd) e.er))) = (nameL e, Lib.decDigits e.ad.toNat ++ 32 :: Lib.decDigits e.wd.toNat, true) := by
      rw [had, hwd, her]
      simp only [blankN, if_true, Bool.false_eq_true, if_false, List.append_nil, List.cons_append]
      exact cutA_in _ _ hn32
    have c3 := cutA_in (c := 32) (Lib.decDigits e.ad.toNat) (Lib.decDigits e.wd.toNat) (hd32 _)
    have c4 := cutA_out (c := 32) (Lib.decDigits e.wd.toNat) (hd32 _)
    rw [c2]
    simp only [hk, had, if_true, c3, c4, na, nw, pa, pw, Bool.true_eq_false, if_false, ea, ew]
    exact fin _ (ev_mk e rfl rfl rfl rfl rfl er0.symm)
  · have had' : adB e.kd = false := by simpa using had
    have ad0 := f1 had'
    by_cases hwd : wdB e.kd = true
    · have her : erB e.kd = false := by
        rcases kd12 q0 q1 with c | c | c | c | c | c | c | c | c | c | c | c <;> rw [c] at hwd ⊢ <;> first | exact absurd hwd (by decide) | decide
      have er0 := f3 her
      have c2 : cutA 32 (nameL e ++ (blankN (adB e.kd) e.ad ++ (blankN (wdB e.kd) e.wd ++ blankN (erB e.kd) e.er))) = (nameL e, Lib.decDigits e.wd.toNat, true) := by
        rw [had', hwd, her]
        simp only [blankN, if_true, Bool.false_eq_true, if_false, List.append_nil, List.nil_append]
        exact cutA_in _ _ hn32
      have c3 := cutA_out (c := 32) (Lib.decDigits e.wd.toNat) (hd32 _)
      rw [c2]
      simp only [hk, had', hwd, if_true, c3, nw, pw, Bool.true_eq_false, Bool.false_eq_true, if_false, ew]
      exact fin _ (ev_mk e rfl rfl ad0.symm rfl rfl er0.symm)
    · have hwd' : wdB e.kd = false := by simpa using hwd
      have wd0 := f2 hwd'
      by_cases her : erB e.kd = true
      · have h9 : e.kd = 9 := by
          rcases kd12 q0 q1 with c | c | c | c | c | c | c | c | c | c | c | c <;> first | exact c | (rw [c] at her; exact absurd her (by decide))
        have hr := f4 h9
        have ee : ((e.er.toNat : Nat) : Int) = e.er := by omega
        have pe := parP_dec e.er.toNat (by omega)
        have ne := numP_dec 6 e.er.toNat (by omega) (by omega)
        have c2 : cutA 32 (nameL e ++ (blankN (adB e.kd) e.ad ++ (blankN (wdB e.kd) e.wd ++ blankN (erB e.kd) e.er))) = (nameL e, Lib.decDigits e.er.toNat, true) := by
          rw [had', hwd', her]
          simp only [blankN, if_true, Bool.false_eq_true, if_false, List.nil_append]
          exact cutA_in _ _ hn32
        have c3 := cutA_out (c := 32) (Lib.decDigits e.er.toNat) (hd32 _)
        rw [c2]
        simp only [hk, had', hwd', her, if_true, c3, ne, pe, Bool.true_eq_false, Bool.false_eq_true, if_false, ee]
        exact fin _ (ev_mk e rfl rfl ad0.symm wd0.symm rfl rfl)
      · have her' : erB e.kd = false := by simpa using her
        have er0 := f3 her'
        have c2 : cutA 32 (nameL e ++ (blankN (adB e.kd) e.ad ++ (blankN (wdB e.kd) e.wd ++ blankN (erB e.kd) e.er))) = (nameL e, [], false) := by
          rw [had', hwd', her']
          simp only [blankN, Bool.false_eq_true, if_false, List.append_nil]
          exact cutA_out _ hn32
        rw [c2]
        simp only [hk, had', hwd', her', Bool.true_eq_false, Bool.false_eq_true, if_false]
        exact fin _ (ev_mk e rfl rfl ad0.symm wd0.symm rfl er0.symm)
theorem line_no {e : Ev} (h : formedE e = true) : (10 : UInt8) ∉ lineL e := by
  have hd := dec_no 10 (by decide)
  have hb : ∀ b n, (10 : UInt8) ∉ blankN b n := fun b n q => by
    unfold blankN at q
    split at q
    · rcases List.mem_cons.1 q with q | q
      · exact absurd q (by decide)
      · exact hd _ q
    · cases q
  unfold lineL
  intro q
  rcases List.mem_append.1 q with q | q
  · exact hd _ q
  · rcases List.mem_cons.1 q with q | q
    · exact absurd q (by decide)
    · rcases List.mem_append.1 q with q | q
      · exact name_no 10 (.inr rfl) h q
      · rcases List.mem_append.1 q with q | q
        · exact hb _ _ q
        · rcases List.mem_append.1 q with q | q
          · exact hb _ _ q
          · exact hb _ _ q
theorem parse_textF : ∀ (L : List Ev) (n : Nat) (acc : List Ev), (∀ e ∈ L, formedE e = true ∧ e.wf) → (textE L).length ≤ n → parseF n (textE L) acc = (some (acc ++ L), acc.length + L.length)
  | [], n, acc, _, _ => by
    cases n <;> simp [textE, parseF]
  | e :: L, n, acc, h, hn => by
    obtain ⟨hf, hw⟩ := h e (by simp)
    have e0 : textE (e :: L) = lineL e ++ 10 :: textE L := by simp [textE]
    have c := cutA_in (c := 10) (lineL e) (textE L) (line_no hf)
    rw [e0] at hn ⊢
    cases hx : lineL e ++ 10 :: textE L with
    | nil => simp at hx
    | cons d t =>
      rw [hx] at c hn
      cases n with
      | zero => simp at hn
      | succ n =>
        unfold parseF
        rw [c]
        simp only [read_line hf hw]
        have hl : (textE L).length ≤ n := by
          have := congrArg List.length hx
          simp only [List.length_append, List.length_cons] at this hn
          omega
        rw [parse_textF L n (acc ++ [e]) (fun x hx => h x (List.mem_cons_of_mem _ hx)) hl]
        simp
        omega
/-- What is written of a history in form is read as it. -/
theorem parse_text {L : List Ev} (h : ∀ e ∈ L, formedE e = true ∧ e.wf) : parseL (textE L) = (some L, L.length) := by
  unfold parseL
  rw [parse_textF L _ [] h (Nat.le_refl _)]
  simp
end Go.Proofs.YtjaldfmdjnkoeaaDoor
