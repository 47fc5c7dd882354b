
/- The document's way to an event of a line finds what is read of it (pure). No statement of the seat is proved here. -/
import Derived.Test.YtjaldfmdjnkoeaaDoorEvPb
namespace Go.Proofs.YtjaldfmdjnkoeaaDoor
open Go.RowKit Go.Shelf

def nthW (W : List (List UInt8)) (j : Nat) : List UInt8 := (W[j]?).getD []
/-- The event that is tried of a kind. -/
def cand (W : List (List UInt8)) (k : Int) (o : Bool) : Ev :=
  ⟨((parP (nthW W 0)).1 % 1000 : Nat), k, if W.length = 4 then ((parP (nthW W 2)).1 : Int) else 0, if W.length = 4 then ((parP (nthW W 3)).1 : Int) else if W.length = 3 ∧ k ≠ 9 then ((parP (nthW W 2)).1 : Int) else 0, o, if W.length = 3 ∧ k = 9 then (((parP (nthW W 2)).1 % 100000 : Nat) : Int) else 0⟩
theorem cand_wf (W : List (List UInt8)) {k : Int} (o : Bool) (h0 : 1 ≤ k) (h1 : k ≤ 12) : (cand W k o).wf := by
  have b2 := parP_bound (nthW W 2)
  have b3 := parP_bound (nthW W 3)
  refine ⟨?_, ?_, ?_, ?_, ?_⟩
  · show -9223372036854775808 ≤ (((parP (nthW W 0)).1 % 1000 : Nat) : Int) ∧ (((parP (nthW W 0)).1 % 1000 : Nat) : Int) < 9223372036854775808
    omega
  · show -9223372036854775808 ≤ k ∧ k < 9223372036854775808
    omega
  · show 0 ≤ (if W.length = 4 then ((parP (nthW W 2)).1 : Int) else 0) ∧ (if W.length = 4 then ((parP (nthW W 2)).1 : Int) else 0) < 18446744073709551616
    split <;> omega
  · show 0 ≤ (if W.length = 4 then ((parP (nthW W 3)).1 : Int) else if W.length = 3 ∧ k ≠ 9 then ((parP (nthW W 2)).1 : Int) else 0) ∧ (if W.length = 4 then ((parP (nthW W 3)).1 : Int) else if W.length = 3 ∧ k ≠ 9 then ((parP (nthW W 2)).1 : Int) else 0) < 18446744073709551616
    repeat' split
    all_goals omega
  · show -9223372036854775808 ≤ (if W.length = 3 ∧ k = 9 then (((parP (nthW W 2)).1 % 100000 : Nat) : Int) else 0) ∧ (if W.length = 3 ∧ k = 9 then (((parP (nthW W 2)).1 % 100000 : Nat) : Int) else 0) < 9223372036854775808
    split <;> omega
theorem cand_line {e : Ev} (h : formedE e = true) (hw : e.wf) : 2 ≤ (wordsL (lineL e)).length ∧ (wordsL (lineL e)).length ≤ 4 ∧ cand (wordsL (lineL e)) e.kd e.own = e := by
  obtain ⟨-, -, ⟨a0, a1⟩, ⟨w0, w1⟩, -⟩ := hw
  obtain ⟨t0, t8, q0, q1⟩ := formed_in h
  obtain ⟨-, f1, f2, f3, f4⟩ := formed_more h
  have hn32 := name_no 32 (.inl rfl) h
  have hd32 := dec_no 32 (by decide)
  have p1 := parP_dec e.th.toNat (by omega)
  have pa := parP_dec e.ad.toNat (by omega)
  have pw := parP_dec e.wd.toNat (by omega)
  have c1 : ∀ r, wordsL (Lib.decDigits e.th.toNat ++ 32 :: r) = r.foldl stepW ([Lib.decDigits e.th.toNat] ++ [[]]) := fun r => by
    have := fold_cut (W := []) (x := Lib.decDigits e.th.toNat) (r := r) (hd32 _)
    simpa [wordsL] using this
  by_cases had : adB e.kd = true
  · obtain ⟨hwd, her⟩ := adB_more had
    have er0 := f3 her
    have eW : wordsL (lineL e) = [Lib.decDigits e.th.toNat, nameL e, Lib.decDigits e.ad.toNat, Lib.decDigits e.wd.toNat] := by
      have eL : lineL e = Lib.decDigits e.th.toNat ++ 32 :: (nameL e ++ 32 :: (Lib.decDigits e.ad.toNat ++ 32 :: Lib.decDigits e.wd.toNat)) := by
        unfold lineL
        rw [had, hwd, her]
        simp [blankN]
      rw [eL, c1, fold_cut hn32, fold_cut (hd32 _), fold_word _ _ (hd32 _)]
      simp
    rw [eW]
    refine ⟨by simp, by simp, ?_⟩
    unfold cand nthW
    simp only [List.length_cons, List.length_nil, List.getElem?_cons_zero, List.getElem?_cons_succ, Option.getD_some, p1, pa, pw]
    refine ev_mk e ?_ rfl ?_ ?_ rfl ?_
    · omega
    · simp; omega
    · simp; omega
    · simp [er0]
  · have had' : adB e.kd = false := by simpa using had
    have ad0 := f1 had'
    by_cases hwd : wdB e.kd = true
    · have her := wdB_more hwd
      have er0 := f3 her
      have h9 : e.kd ≠ 9 := fun q => by rw [q] at hwd; exact absurd hwd (by decide)
      have eW : wordsL (lineL e) = [Lib.decDigits e.th.toNat, nameL e, Lib.decDigits e.wd.toNat] := by
        unfold lineL
        rw [c1, had', hwd, her]
        simp only [blankN, if_true, Bool.false_eq_true, if_false, List.append_nil, List.nil_append]
        rw [fold_cut hn32, fold_word _ _ (hd32 _)]
        simp
      rw [eW]
      refine ⟨by simp, by simp, ?_⟩
      unfold cand nthW
      simp only [List.length_cons, List.length_nil, List.getElem?_cons_zero, List.getElem?_cons_succ, Option.getD_some, p1, pw]
      refine ev_mk e ?_ rfl ?_ ?_ rfl ?_
      · omega
      · simp [ad0]
      · simp [h9]; omega
      · simp [h9, er0]
    · have hwd' : wdB e.kd = false := by simpa using hwd
      have wd0 := f2 hwd'
      by_cases her : erB e.kd = true
      · have h9 : e.kd = 9 := by
          rcases kd12 q0 q1 with c | c | c | c | c | c | c | c | c | c | c | c <;> first | exact c | (rw [c] at her; exact absurd her (by decide))
        have hr := f4 h9
        have pe := parP_dec e.er.toNat (by omega)
        have eW : wordsL (lineL e) = [Lib.decDigits e.th.toNat, nameL e, Lib.decDigits e.er.toNat] := by
          unfold lineL
          rw [c1, had', hwd', her]
          simp only [blankN, if_true, Bool.false_eq_true, if_false, List.nil_append]
          rw [fold_cut hn32, fold_word _ _ (hd32 _)]
          simp
        rw [eW]
        refine ⟨by simp, by simp, ?_⟩
        unfold cand nthW
        simp only [List.length_cons, List.length_nil, List.getElem?_cons_zero, List.getElem?_cons_succ, Option.getD_some, p1, pe]
        refine ev_mk e ?_ rfl ?_ ?_ rfl ?_
        · omega
        · simp [ad0]
        · simp [h9, wd0]
        · simp [h9]; omega
      · have her' : erB e.kd = false := by simpa using her
        have er0 := f3 her'
        have eW : wordsL (lineL e) = [Lib.decDigits e.th.toNat, nameL e] := by
          unfold lineL
          rw [c1, had', hwd', her']
          simp only [blankN, Bool.false_eq_true, if_false, List.append_nil]
          rw [fold_word _ _ hn32]
          simp
        rw [eW]
        refine ⟨by simp, by simp, ?_⟩
        unfold cand nthW
        simp only [List.length_cons, List.length_nil, List.getElem?_cons_zero, Option.getD_some, p1]
        refine ev_mk e ?_ rfl ?_ ?_ rfl ?_
        · omega
        · simp [ad0]
        · simp [wd0]
        · simp [er0]
/-- A candidate whose line it is is what is read. -/
theorem cand_yes {s : List UInt8} {k : Int} {o : Bool} (h0 : 1 ≤ k) (h1 : k ≤ 12) (hf : formedE (cand (wordsL s) k o) = true) (hl : lineL (cand (wordsL s) k o) = s) : readE s = some (cand (wordsL s) k o) := by
  have := read_line hf (cand_wf (wordsL s) o h0 h1)
  rwa [hl] at this
/-- Where no candidate's line it is nothing is read. -/
theorem cand_no {s : List UInt8} (h : ∀ (k : Int) (o : Bool), 1 ≤ k → k ≤ 12 → ¬ (formedE (cand (wordsL s) k o) = true ∧ lineL (cand (wordsL s) k o) = s)) : readE s = none := by
  cases hr : readE s with
  | none => rfl
  | some e =>
    obtain ⟨hw, hf⟩ := readE_wf hr
    have hs := read_forth hr
    obtain ⟨-, -, hc⟩ := cand_line hf hw
    rw [← hs] at hc
    obtain ⟨-, -, q0, q1⟩ := formed_in hf
    exact absurd ⟨by rw [hc]; exact hf, by rw [hc]; exact hs.symm⟩ (h e.kd e.own q0 q1)
theorem cand_len {s : List UInt8} (h : (wordsL s).length < 2 ∨ 4 < (wordsL s).length) : readE s = none := by
  cases hr : readE s with
  | none => rfl
  | some e =>
    obtain ⟨hw, hf⟩ := readE_wf hr
    have hs := read_forth hr
    obtain ⟨h1, h2, -⟩ := cand_line hf hw
    rw [← hs] at h1 h2
    omega
end Go.Proofs.YtjaldfmdjnkoeaaDoor
