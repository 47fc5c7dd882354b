
/- Walks of the document's Text, the program's Line and the law's lent. No statement of the seat is proved here. -/
import Derived.Test.YtjaldfmdjnkoeaaDoorEvTb
import Derived.Test.YtjaldfmdjnkoeaaDoorEvR
namespace Go.Proofs.YtjaldfmdjnkoeaaDoor
open Go.RowKit Go.Shelf

/-- What a line is, or the refusal. -/
def lineR (e : Ev) : List UInt8 × Int := if formedE e then (lineL e, 0) else ([], 201)
theorem rline_any (e : Ev) (hwf : e.wf) (w : World) (hg : Gv w) : Calls Tryd.prog 28 #[.agg e.cells] w fun ex w' => ex = .returned (.tuple #[.string ⟨(lineR e).1.toArray⟩, .int .i64 (lineR e).2]) ∧ Keeps (fun _ => False) w w' := by
  unfold lineR
  cases hf : formedE e with
  | true => exact rline_yes e hwf hf w hg
  | false => exact rline_no e hwf hf w
set_option maxRecDepth 100000 in
set_option maxHeartbeats 4000000 in
theorem rtext_any (v : Value) (L : List Ev) (w : World) (hv : EvsAt w v L) (hg : Gv w) (hlen : L.length ≤ 1000000000) :
    Calls Tryd.prog 26 #[v] w fun ex w' => ex = .returned (.tuple #[.string ⟨(textR L).1.toArray⟩, .int .i64 (textR L).2]) ∧ Keeps (fun _ => False) w w' := by
  have hwf := hv.wf
  have HV : Hid (∀ X, Keeps (fun _ => False) w X → EvsAt X v L ∧ Gv X) := fun X k => ⟨hv.keeps k, hg.keeps k⟩
  obtain ⟨a, cap, rfl, hcap⟩ := hv.els.shape
  clear hv hg
  go_enter Tryd.func26, Tryd.ntmps26
  go_wp2_with fail
  go_loopw [4, 5] (fun x u wr => ∃ (k : Nat) (s : List UInt8), x = .string ⟨s.toArray⟩ ∧ u = .int .i64 k ∧ k ≤ L.length ∧ Hid (s = textE (L.take k) ∧ (L.take k).all formedE = true ∧ s.length ≤ 121 * k ∧ Keeps (fun _ => False) w wr)) (fun _ u _ => L.length - (intOf u).toNat)
  case atStart => exact ⟨0, [], rfl, rfl, Nat.zero_le _, by simp [textE], rfl, by simp, Keeps.refl _ _⟩
  case round =>
    obtain ⟨k, s, rfl, rfl, hk, hh⟩ := hrel
    obtain ⟨hs, hall, htl, kr⟩ := hh.out
    by_cases hlt : k < L.length
    · have hki : (k : Int) < L.length := by omega
      have hk0 : (0 : Int) ≤ k := by omega
      obtain ⟨g, off, rfl, x0, x1, x2, x3, x4, x5⟩ := (HV.out wr kr).1.at k hlt
      have hew := hwf _ (List.getElem_mem hlt)
      have htake : L.take (k + 1) = L.take k ++ [L[k]] := List.take_succ_eq_append_getElem hlt
      have LN := fun X (q : Keeps (fun _ => False) wr X) => rline_any (L[k]) hew X (HV.out X (kr.trans q)).2
      have hLE := lineL_le (e := L[k]) hew
      have hTK : textE (L.take (k + 1)) = s ++ lineL (L[k]) ++ [10] := by rw [hs]; unfold textE; rw [htake, List.flatMap_append]; simp
      have hAL : (L.take (k + 1)).all formedE = formedE (L[k]) := by rw [htake, List.all_append, hall]; simp
      have hNO : formedE (L[k]) = false → textR L = ([], 201) := fun h => by
        unfold textR
        rw [if_neg]
        rw [List.all_eq_true]
        intro hh
        rw [hh _ (List.getElem_mem hlt)] at h
        cases h
      have HT : Hid (textE (L.take (k + 1)) = s ++ lineL (L[k]) ++ [10] ∧ (L.take (k + 1)).all formedE = formedE (L[k]) ∧ (formedE (L[k]) = false → textR L = ([], 201))) := ⟨hTK, hAL, hNO⟩
      clear htake hTK hAL hNO hh hall hew hwf hs
      generalize hev : L[k]'hlt = e at *
      clear hev
      have hLR : lineR e = if formedE e then (lineL e, 0) else ([], 201) := rfl
      cases hf : formedE e
      · have HN : Hid (textR L = ([], 201)) := HT.out.2.2 hf
        rw [hf] at hLR
        simp only [Bool.false_eq_true, if_false] at hLR
        rw [hLR] at LN
        obtain ⟨th, kd, ad, wd, own, er⟩ := e
        dsimp only at x0 x1 x2 x3 x4 x5 LN
        have LN2 : Calls Tryd.prog 28 #[.agg #[.int .i64 th, .int .i64 kd, .int .u64 ad, .int .u64 wd, .bool own, .int .i64 er]] wr fun ex w' => ex = .returned (.tuple #[.string ⟨#[]⟩, .int .i64 201]) ∧ Keeps (fun _ => False) wr w' := LN wr (Keeps.refl _ _)
        clear LN hLE hf HT hLR
        go_wp2_with fail
        refine LN2.mono ?_
        rintro ex w1 ⟨rfl, k1⟩
        clear LN2 x0 x1 x2 x3 x4 x5
        go_wp2_with fail
        go_ret2
        exact ⟨by rw [HN.out]; rfl, kr.trans k1⟩
      · have hle := hLE hf
        have HA : Hid (formedE e = true) := hf
        rw [hf] at hLR
        simp only [if_true] at hLR
        rw [hLR] at LN
        dsimp only at LN
        generalize lineL e = ln at *
        obtain ⟨th, kd, ad, wd, own, er⟩ := e
        dsimp only at x0 x1 x2 x3 x4 x5
        have LN2 : Calls Tryd.prog 28 #[.agg #[.int .i64 th, .int .i64 kd, .int .u64 ad, .int .u64 wd, .bool own, .int .i64 er]] wr fun ex w' => ex = .returned (.tuple #[.string ⟨ln.toArray⟩, .int .i64 0]) ∧ Keeps (fun _ => False) wr w' := LN wr (Keeps.refl _ _)
        clear LN hLE hf hLR
        have s1 := str_app s ln
        have s2 := str_app (s ++ ln) [10]
        have t1 : ¬ 9223372036854775807 < s.length + ln.length := by omega
        have t2 : ¬ 9223372036854775807 < (s ++ ln).length + 1 := by rw [List.length_append]; omega
        go_wp2_with fail
        refine LN2.mono ?_
        rintro ex w1 ⟨rfl, k1⟩
        clear LN2 x0 x1 x2 x3 x4 x5
        go_wp2_with fail
        go_roundw
        · obtain ⟨q1, q2, q3⟩ := HT.out
          refine ⟨k + 1, s ++ ln ++ [10], ?_, by simp, by omega, q1.symm, by rw [q2]; exact HA.out, ?_, kr.trans k1⟩
          · first | rfl | simp
          · simp only [List.length_append, List.length_cons, List.length_nil]; omega
        · simp [intOf]; omega
    · obtain rfl : k = L.length := by omega
      have HY : Hid (textR L = (s, 0)) := by
        rw [List.take_length] at hs hall
        unfold textR
        rw [if_pos hall, hs]
        exact rfl
      clear hh hs hall
      go_wp2_with fail
      go_ret2
      exact ⟨by rw [HY.out]; rfl, kr⟩
set_option maxRecDepth 100000 in
set_option maxHeartbeats 4000000 in
theorem line_any (e : Ev) (hwf : e.wf) (w : World) (hg : Gv w) (h8 : 8 ≤ w.heap.size) : Calls Tryd.prog 27 #[.agg e.cells] w fun ex w' => ex = .returned (.tuple #[.string ⟨(lineR e).1.toArray⟩, .int .i64 (lineR e).2]) ∧ Keeps (fun _ => False) w w' := by
  have HV : Hid (∀ X, Keeps (fun _ => False) w X → Gv X) := fun X k => hg.keeps k
  have FM := fun X (q : Keeps (fun _ => False) w X) => formed_any e X (HV.out X q)
  have hLR : lineR e = if formedE e then (lineL e, 0) else ([], 201) := rfl
  cases hf : formedE e with
  | false =>
    rw [hf] at hLR FM
    simp only [Bool.false_eq_true, if_false] at hLR
    rw [hLR]
    clear hLR hf
    obtain ⟨th, kd, ad, wd, own, er⟩ := e
    have k0 := (Keeps.refl (fun _ => False) w).alloc (.cells #[.int .i64 th, .int .i64 kd, .int .u64 ad, .int .u64 wd, .bool own, .int .i64 er] 44)
    have F2 : Calls Tryd.prog 41 #[.agg #[.int .i64 th, .int .i64 kd, .int .u64 ad, .int .u64 wd, .bool own, .int .i64 er]] _ _ := FM _ k0
    show Calls Tryd.prog 27 #[.agg #[.int .i64 th, .int .i64 kd, .int .u64 ad, .int .u64 wd, .bool own, .int .i64 er]] w _
    clear FM
    go_enter Tryd.func27, Tryd.ntmps27
    go_wp2_with fail
    refine F2.mono ?_
    rintro ex w1 ⟨rfl, k1⟩
    go_wp2_with fail
    go_ret2
    exact ⟨rfl, k0.trans k1⟩
  | true =>
    rw [hf] at hLR FM
    simp only [if_true] at hLR
    rw [hLR]
    have WR := fun X (q : Keeps (fun _ => False) w X) => written_any X.heap.size (.slice none 0 0) [] e X (Bts.nil _) hf hwf (HV.out X q) (Nat.le_trans h8 q.size) (by simp)
    simp only [List.nil_append] at WR
    clear hLR hf
    generalize lineL e = ln at *
    obtain ⟨th, kd, ad, wd, own, er⟩ := e
    have k0 := (Keeps.refl (fun _ => False) w).alloc (.cells #[.int .i64 th, .int .i64 kd, .int .u64 ad, .int .u64 wd, .bool own, .int .i64 er] 44)
    have b0 := (MapKept.heap_alloc w (.cells #[.int .i64 th, .int .i64 kd, .int .u64 ad, .int .u64 wd, .bool own, .int .i64 er] 44)).1
    have F2 : Calls Tryd.prog 41 #[.agg #[.int .i64 th, .int .i64 kd, .int .u64 ad, .int .u64 wd, .bool own, .int .i64 er]] _ _ := FM _ k0
    have WR2 : ∀ X, Keeps (fun _ => False) w X → Calls Tryd.prog 42 #[.slice none 0 0, .agg #[.int .i64 th, .int .i64 kd, .int .u64 ad, .int .u64 wd, .bool own, .int .i64 er]] X _ := WR
    show Calls Tryd.prog 27 #[.agg #[.int .i64 th, .int .i64 kd, .int .u64 ad, .int .u64 wd, .bool own, .int .i64 er]] w _
    clear FM WR
    go_enter Tryd.func27, Tryd.ntmps27
    go_wp2_with fail
    refine F2.mono ?_
    rintro ex w1 ⟨rfl, k1⟩
    obtain ⟨c0, c1, c2, c3, c4, c5⟩ := blk6' ((k1.block _ (lt_of_block b0) (fun f => f)).trans b0)
    have K1 := k0.trans k1
    go_wp2_with fail
    refine (WR2 _ K1).mono ?_
    rintro ex w2 ⟨v', rfl, hB, bk⟩
    have BS := bts_string hB
    have K2 : Keeps (fun _ => False) w w2 := ⟨bk.below.os.trans K1.os, bk.below.tape.trans K1.tape, bk.below.output.trans K1.output, Nat.le_trans K1.size bk.below.size, fun q hq h => (bk.below.block q (Nat.lt_of_lt_of_le hq K1.size)).trans (K1.block q hq h)⟩
    clear hB bk WR2 F2 c0 c1 c2 c3 c4 c5
    go_wp2_with fail
    go_ret2
    exact ⟨rfl, K2⟩
end Go.Proofs.YtjaldfmdjnkoeaaDoor
