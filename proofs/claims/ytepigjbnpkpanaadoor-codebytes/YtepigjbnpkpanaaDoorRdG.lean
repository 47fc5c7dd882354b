
/- CodeBytes' walk. No statement of the seat is proved here. -/
import Derived.Test.YtepigjbnpkpanaaDoorRdF
import Derived.Test.YtepigjbnpkpanaaDoorIrB
namespace Go.Proofs.YtepigjbnpkpanaaDoor
open Go.RowKit Go.Shelf

theorem wpList_store_run {P : Program} {ops : Array Oper} {rest : List Oper} {op : Oper} {a : Act} {w w' : World} {Q : Exit → Act → World → Prop} (hgd : op.guard = none) (ty : TypeId) (x y : Operand) (ho : op.op = .store ty x y) {p v : Value} (hx : a.eval x = p) (hy : a.eval y = v)
    (hr : (Instr.storeAt ty p v).run P w = .ok () w') (h : wpList P ops Q rest (a.put op.dst undef) w') : wpList P ops Q (op :: rest) a w :=
  wpList_plain hgd fun _ hK => by
    unfold Oper.wp execOp
    simp only [ho, hx, hy, hr, Sem.run_bind, Result.andThen_ok]
    exact hK _ _ h

set_option maxRecDepth 100000 in
set_option maxHeartbeats 8000000 in
theorem bytes_law (va : Value) (L : List I5) (w : World) (hw : Gl w) (ha : InsAt w va L) (hl : (L.length + 2) * 40 ≤ 140737488355328) :
    Calls Tryd.prog 6 #[va] w fun e w' => e = .returned (.bool true) ∧ Keeps (fun _ => False) w w' := by
  have hwf := ha.wf
  have hform := ha.form
  obtain ⟨aa, ca, rfl, _⟩ := ha.form
  go_enter Tryd.func6, Tryd.ntmps6
  go_wp2_with fail
  refine (lend_any _ L w ha hl).mono ?_
  rintro e w1 ⟨mx, gx, rfl, hgx, LX, k1⟩
  have HL : Hid (∀ X, Keeps (fun _ => False) w1 X → LentAt X mx L gx ∧ InsAt X (.slice aa L.length ca) L) := fun X kx => ⟨LX.keeps kx, ha.keeps (k1.trans kx)⟩
  obtain ⟨cx, rfl, -⟩ := LX.form
  have B1 := bytes_any _ _ w1 LX.insAt
  clear LX ha
  go_wp2_with fail
  refine B1.mono ?_
  rintro e w2 ⟨hP1, k2⟩
  have B2 := bytes_any _ _ w2 (HL.out w2 k2).1.insAt
  clear B1
  clear hform
  cases hF : L.all formedB with
  | false =>
    have he := hP1.2 hF
    subst he
    go_wp2_with fail
    refine B2.mono ?_
    rintro e w3 ⟨hP2, k3⟩
    have he := hP2.2 hF
    subst he
    have kk3 := k2.trans k3
    clear B2 hP1 hP2
    go_wp2_with fail
    go_loopw [8, 9] (fun v m wr => ∃ k : Nat, m = .int .i64 k ∧ k ≤ L.length ∧ Hid (Bts wr w3.heap.size v ((L.take k).flatMap bytesL) ∧ (∀ i ∈ L.take k, formedB i = true) ∧ Keeps (fun _ => False) w3 wr)) (fun _ m _ => L.length - (intOf m).toNat)
    case atStart => exact ⟨0, rfl, Nat.zero_le _, ⟨by simpa using Bts.nil w3, by simp, Keeps.refl _ _⟩⟩
    case round =>
      obtain ⟨k, rfl, hk, hh⟩ := hrel
      by_cases hlt : k < L.length
      · have hki : (k : Int) < L.length := by omega
        obtain ⟨q1, q2, q3⟩ := hh.out
        have kk := kk3.trans q3
        obtain ⟨⟨aa', ca', e', cc⟩, -, -⟩ := (HL.out wr kk).2
        simp only [Value.slice.injEq] at e'
        obtain ⟨rfl, -, rfl⟩ := e'
        obtain ⟨gp, ofp, rfl, x0, x1, x2, x3, x4⟩ := cc k hlt
        have hiw := hwf _ (List.getElem_mem hlt)
        have hbo : (L.take k).length * 31 + 31 ≤ 140737488355328 := by rw [List.length_take]; omega
        have hbl := bytesA_len (L.take k) q2 (fun i hi => hwf i (List.mem_of_mem_take hi))
        have htk : (L.take (k + 1)).flatMap bytesL = (L.take k).flatMap bytesL ++ bytesL (L[k]'hlt) := by
          rw [List.take_succ_eq_append_getElem hlt, List.flatMap_append]; simp
        have HC : Hid (∀ X, Keeps (fun _ => False) wr X → X.cell? ⟨gp, ofp + k * 5, none⟩ = some (.int .i64 (L[k]'hlt).op) ∧ X.cell? ⟨gp, ofp + k * 5 + 1, none⟩ = some (.int .i64 (L[k]'hlt).a) ∧ X.cell? ⟨gp, ofp + k * 5 + 2, none⟩ = some (.int .i64 (L[k]'hlt).b) ∧ X.cell? ⟨gp, ofp + k * 5 + 3, none⟩ = some (.int .i64 (L[k]'hlt).c) ∧ X.cell? ⟨gp, ofp + k * 5 + 4, none⟩ = some (.int .u64 (L[k]'hlt).n)) := fun X kx => by
          have hg := World.block_lt_of_cell? _ _ x0
          have e : ∀ o, X.cell? ⟨gp, o, none⟩ = wr.cell? ⟨gp, o, none⟩ := fun o => by simp only [World.cell?, kx.block gp hg (fun f => f)]
          exact ⟨(e _).trans x0, (e _).trans x1, (e _).trans x2, (e _).trans x3, (e _).trans x4⟩
        have hfj : formedB (L[k]'hlt) = true → ∀ i ∈ L.take (k + 1), formedB i = true := fun hf i hi => by
          rw [List.take_succ_eq_append_getElem hlt] at hi
          rcases List.mem_append.1 hi with hi | hi
          · exact q2 i hi
          · simp at hi; subst hi; exact hf
        have hmem := List.getElem_mem hlt
        have FA := rformed_any (L[k]'hlt) wr
        have RB := fun X hf => rbytes_any (L[k]'hlt) X hf hiw
        have BL := fun hf => bytesL_len (i := L[k]'hlt) hf hiw
        generalize hi0 : L[k]'hlt = i at *
        obtain ⟨op, a, b, c, n⟩ := i
        dsimp only at x0 x1 x2 x3 x4 RB
        clear cc hi0 q2
        change Calls Tryd.prog _ #[.agg #[.int .i64 op, .int .i64 a, .int .i64 b, .int .i64 c, .int .u64 n]] wr _ at FA
        go_wp2_with fail
        refine FA.mono ?_
        rintro e w4 ⟨rfl, k4⟩
        clear FA x0 x1 x2 x3 x4
        cases hf : formedB ⟨op, a, b, c, n⟩ with
        | false =>
          have kk4 := kk.trans k4
          have KA := kept_any _ _ L gx w4 (HL.out w4 kk4).1 (HL.out w4 kk4).2
          clear RB BL q1 hh HC hfj
          go_wp2_with (first | (go_at_call 19; refine (num_any _ _).mono ?_; rintro e w' ⟨rfl, hw'⟩; replace hw' := hw'.symm; subst hw'))
          refine KA.mono ?_
          rintro e w5 ⟨rfl, k5⟩
          have WK := works_any w5 (hw.keeps ((k1.trans kk4).trans k5))
          clear KA
          go_wp2_with (first | (go_at_call 19; refine (num_any _ _).mono ?_; rintro e w' ⟨rfl, hw'⟩; replace hw' := hw'.symm; subst hw') | (go_at_call 15; refine WK.mono ?_; rintro e w17 ⟨rfl, k17⟩))
          go_ret
          exact ⟨rfl, ((k1.trans kk4).trans k5).trans k17⟩
        | true =>
          obtain ⟨x0, x1, x2, x3, x4⟩ := HC.out w4 k4
          have RB' := RB w4 hf
          have BL' := BL hf
          have q1' := q1.keeps k4 (fun _ _ f => f)
          have q3' := q3.trans k4
          clear RB BL q1 q3 hh k4 HC
          go_wp2_with fail
          refine RB'.mono ?_
          rintro e w5 ⟨vb, rfl, hvb, k5⟩
          obtain ⟨v1, w6, r1, r2, r3⟩ := (q1'.keeps k5 (fun _ _ f => f)).app hvb (by intro h; rw [h] at BL'; simp at BL') (by omega)
          have HR : Hid (_ = _) := r1
          have KK := Grew.kept r3 (q3'.trans k5) (q1'.keeps k5 (fun _ _ f => f))
          rw [← htk] at r2
          obtain ⟨bb, bc, rfl⟩ := hvb.form
          clear RB' q1' q3' r1 r3 hvb k5 x0 x1 x2 x3 x4
          go_wp2_with (at_builtin; refine wpList_append_run rfl _ _ 52 rfl rfl rfl HR.out ?_)
          go_roundw
          · exact ⟨k + 1, by simp, by omega, ⟨r2, hfj hf, KK⟩⟩
          · simp [intOf]; omega
      · have hki : ¬ (k : Int) < L.length := by omega
        obtain rfl : k = L.length := by omega
        obtain ⟨q1, q2, q3⟩ := hh.out
        rw [List.take_length] at q1 q2
        clear hh
        exact absurd (List.all_eq_true.2 q2) (by rw [hF]; simp)
  | true =>
    obtain ⟨D, hD⟩ : ∃ D, D = L.flatMap bytesL := ⟨_, rfl⟩
    have hP1' := hP1.1 hF
    rw [← hD] at hP1'
    obtain ⟨bv, rfl, BB⟩ := hP1'
    obtain ⟨bb, bc, rfl⟩ := BB.form
    have HD : Hid (D = L.flatMap bytesL) := hD
    clear hD hP1
    go_wp2_with fail
    refine B2.mono ?_
    rintro e w3 ⟨hP2, k3⟩
    have hP2' := hP2.1 hF
    rw [← HD.out] at hP2'
    obtain ⟨cv, rfl, CC⟩ := hP2'
    obtain ⟨cb, cc', rfl⟩ := CC.form
    have kk3 := k2.trans k3
    clear B2 hP2
    go_wp2_with fail
    go_loopw [8, 9] (fun v m wr => ∃ k : Nat, m = .int .i64 k ∧ k ≤ L.length ∧ Hid (Bts wr w3.heap.size v ((L.take k).flatMap bytesL) ∧ (∀ i ∈ L.take k, formedB i = true) ∧ Keeps (fun _ => False) w3 wr)) (fun _ m _ => L.length - (intOf m).toNat)
    case atStart => exact ⟨0, rfl, Nat.zero_le _, ⟨by simpa using Bts.nil w3, by simp, Keeps.refl _ _⟩⟩
    case round =>
      obtain ⟨k, rfl, hk, hh⟩ := hrel
      by_cases hlt : k < L.length
      · have hki : (k : Int) < L.length := by omega
        obtain ⟨q1, q2, q3⟩ := hh.out
        have kk := kk3.trans q3
        obtain ⟨⟨aa', ca', e', cc⟩, -, -⟩ := (HL.out wr kk).2
        simp only [Value.slice.injEq] at e'
        obtain ⟨rfl, -, rfl⟩ := e'
        obtain ⟨gp, ofp, rfl, x0, x1, x2, x3, x4⟩ := cc k hlt
        have hiw := hwf _ (List.getElem_mem hlt)
        have hbo : (L.take k).length * 31 + 31 ≤ 140737488355328 := by rw [List.length_take]; omega
        have hbl := bytesA_len (L.take k) q2 (fun i hi => hwf i (List.mem_of_mem_take hi))
        have htk : (L.take (k + 1)).flatMap bytesL = (L.take k).flatMap bytesL ++ bytesL (L[k]'hlt) := by
          rw [List.take_succ_eq_append_getElem hlt, List.flatMap_append]; simp
        have HC : Hid (∀ X, Keeps (fun _ => False) wr X → X.cell? ⟨gp, ofp + k * 5, none⟩ = some (.int .i64 (L[k]'hlt).op) ∧ X.cell? ⟨gp, ofp + k * 5 + 1, none⟩ = some (.int .i64 (L[k]'hlt).a) ∧ X.cell? ⟨gp, ofp + k * 5 + 2, none⟩ = some (.int .i64 (L[k]'hlt).b) ∧ X.cell? ⟨gp, ofp + k * 5 + 3, none⟩ = some (.int .i64 (L[k]'hlt).c) ∧ X.cell? ⟨gp, ofp + k * 5 + 4, none⟩ = some (.int .u64 (L[k]'hlt).n)) := fun X kx => by
          have hg := World.block_lt_of_cell? _ _ x0
          have e : ∀ o, X.cell? ⟨gp, o, none⟩ = wr.cell? ⟨gp, o, none⟩ := fun o => by simp only [World.cell?, kx.block gp hg (fun f => f)]
          exact ⟨(e _).trans x0, (e _).trans x1, (e _).trans x2, (e _).trans x3, (e _).trans x4⟩
        have hfj : formedB (L[k]'hlt) = true → ∀ i ∈ L.take (k + 1), formedB i = true := fun hf i hi => by
          rw [List.take_succ_eq_append_getElem hlt] at hi
          rcases List.mem_append.1 hi with hi | hi
          · exact q2 i hi
          · simp at hi; subst hi; exact hf
        have hmem := List.getElem_mem hlt
        have FA := rformed_any (L[k]'hlt) wr
        have RB := fun X hf => rbytes_any (L[k]'hlt) X hf hiw
        have BL := fun hf => bytesL_len (i := L[k]'hlt) hf hiw
        generalize hi0 : L[k]'hlt = i at *
        obtain ⟨op, a, b, c, n⟩ := i
        dsimp only at x0 x1 x2 x3 x4 RB
        clear cc hi0 q2
        change Calls Tryd.prog _ #[.agg #[.int .i64 op, .int .i64 a, .int .i64 b, .int .i64 c, .int .u64 n]] wr _ at FA
        go_wp2_with fail
        refine FA.mono ?_
        rintro e w4 ⟨rfl, k4⟩
        clear FA x0 x1 x2 x3 x4
        cases hf : formedB ⟨op, a, b, c, n⟩ with
        | false =>
          exact absurd ((List.all_eq_true.1 hF) _ hmem) (by rw [hf]; simp)
        | true =>
          obtain ⟨x0, x1, x2, x3, x4⟩ := HC.out w4 k4
          have RB' := RB w4 hf
          have BL' := BL hf
          have q1' := q1.keeps k4 (fun _ _ f => f)
          have q3' := q3.trans k4
          clear RB BL q1 q3 hh k4 HC
          go_wp2_with fail
          refine RB'.mono ?_
          rintro e w5 ⟨vb, rfl, hvb, k5⟩
          obtain ⟨v1, w6, r1, r2, r3⟩ := (q1'.keeps k5 (fun _ _ f => f)).app hvb (by intro h; rw [h] at BL'; simp at BL') (by omega)
          have HR : Hid (_ = _) := r1
          have KK := Grew.kept r3 (q3'.trans k5) (q1'.keeps k5 (fun _ _ f => f))
          rw [← htk] at r2
          obtain ⟨bb, bc, rfl⟩ := hvb.form
          clear RB' q1' q3' r1 r3 hvb k5 x0 x1 x2 x3 x4
          go_wp2_with (at_builtin; refine wpList_append_run rfl _ _ 52 rfl rfl rfl HR.out ?_)
          go_roundw
          · exact ⟨k + 1, by simp, by omega, ⟨r2, hfj hf, KK⟩⟩
          · simp [intOf]; omega
      · have hki : ¬ (k : Int) < L.length := by omega
        obtain rfl : k = L.length := by omega
        obtain ⟨q1, q2, q3⟩ := hh.out
        rw [List.take_length] at q1 q2
        clear hh
        have RD := readL_bytes L q2 hwf
        have hDl := bytesA_len L q2 hwf
        rw [← HD.out] at RD hDl q1
        have b1 := BB.keeps (k3.trans q3) (fun _ _ f => f)
        have c1 := CC.keeps q3 (fun _ _ f => f)
        have hb2 : Hid (∀ g, (Value.slice bb D.length bc).ownBlock = some g → g < w2.heap.size) := fun g hg => (own_block BB.own hg).1
        have kk := kk3.trans q3
        have k13 := k3.trans q3
        clear BB CC q2 HD
        have HRD : Hid (_ = _) := RD
        clear RD
        obtain ⟨wb, wc, rfl⟩ := q1.form
        have v1 := bts_string b1
        have v2 := bts_string c1
        have v3 := bts_string q1
        have KA := kept_any _ _ L gx wr (HL.out wr kk).1 (HL.out wr kk).2
        go_wp2_with (first | (go_at_call 19; refine (num_any _ _).mono ?_; rintro e w' ⟨rfl, hw'⟩; replace hw' := hw'.symm; subst hw'))
        refine KA.mono ?_
        rintro e w4 ⟨rfl, k4⟩
        have kk4 := kk.trans k4
        have b4 := b1.keeps k4 (fun _ _ f => f)
        have c4 := c1.keeps k4 (fun _ _ f => f)
        have q4 := q1.keeps k4 (fun _ _ f => f)
        clear KA v1 v2 v3 b1 c1 q1
        go_wp2_with fail
        have hs23 := k3.size
        have HS : Hid (w2.heap.size ≤ w3.heap.size) := hs23
        go_loopw [10] (fun v wr' => ∃ k : Nat, v = .int .i64 k ∧ k ≤ D.length ∧ Hid (∃ E : List UInt8, E.length = D.length ∧ Bts wr' w1.heap.size (.slice bb D.length bc) E ∧ Bts wr' w2.heap.size (.slice cb D.length cc') D ∧ Bts wr' w3.heap.size (.slice wb D.length wc) D ∧ Keeps (fun _ => False) w1 wr')) (fun v _ => D.length - (intOf v).toNat)
        case atStart => exact ⟨0, rfl, Nat.zero_le _, ⟨D, rfl, b4, c4, q4, kk4⟩⟩
        case round =>
          clear b4 c4 q4 kk4 k4 q3 kk k13
          obtain ⟨k, rfl, hk, hh⟩ := hrel
          obtain ⟨E, hE, e1, e2, e3, e4⟩ := hh.out
          by_cases hlt : k < D.length
          · have hki : (k : Int) < D.length := by omega
            obtain ⟨g, cap, hv, hg1, hg2, ⟨u, cu⟩, ⟨cur, hcur⟩, hset⟩ := e1.set k (by omega) 238
            simp only [Value.slice.injEq] at hv
            obtain ⟨rfl, -, rfl⟩ := hv
            have hgw := hb2.out g rfl
            have fr := frozen_of_block hcur k
            have ks := (Keeps.refl (fun q => q = g) wr).setCell (p := ⟨g, k, none⟩) (.inr rfl) (.int .u8 238)
            have E2 := e2.keeps ks (fun gg hgg e => by have := (own_block e2.own hgg).2; omega)
            have E3 := e3.keeps ks (fun gg hgg e => by have := (own_block e3.own hgg).2; have := HS.out; omega)
            have E4 := e4.setCell (p := ⟨g, k, none⟩) (.inl hg1) (.int .u8 238)
            clear hh e1 e2 e3 e4 ks
            go_wp2_with fail
            go_roundw
            · exact ⟨k + 1, by simp, by omega, ⟨_, by simpa using hE, hset, E2, E3, E4⟩⟩
            · simp [intOf]; omega
          · have hki : ¬ (k : Int) < D.length := by omega
            obtain rfl : k = D.length := by omega
            obtain ⟨v', w5, r1, r2, r3⟩ := e1.push3 (by omega)
            obtain ⟨b', c', hv'⟩ := r2.form
            rw [show (E ++ [(1 : UInt8), 2, 3]).length = D.length + 3 by simp [hE]] at hv'
            subst hv'
            have HR : Hid (_ = _) := r1
            have kk5 := Grew.kept r3 e4 e1
            have c5 := e2.keeps r3.keeps (fun gg hgg e => by have := (own_block e2.own hgg).2; have := hb2.out gg e; omega)
            have q5 := e3.keeps r3.keeps (fun gg hgg e => by have := (own_block e3.own hgg).2; have := hb2.out gg e; have := HS.out; omega)
            have RA := read_any _ D w5 (c5.btAt (by omega)) (by rw [HRD.out]; show L.length * 40 ≤ _; omega)
            clear hh e1 e2 e3 e4 r1 r2 r3 hb2 hs23
            go_wp2_with (at_builtin; refine wpList_append_run rfl _ _ 52 rfl rfl rfl HR.out ?_)
            refine RA.mono ?_
            rintro e w6 ⟨hR, k6⟩
            have hR' := hR.1 (by rw [HRD.out])
            rw [HRD.out] at hR'
            dsimp only at hR'
            obtain ⟨mv, rfl, IM⟩ := hR'
            obtain ⟨mb, mc, rfl⟩ := IM.form
            have HM6 : Hid (∀ g, (Value.slice mb L.length mc).ownBlock = some g → g < w6.heap.size ∧ w1.heap.size ≤ g) := fun g hg => ⟨(own_block IM.own hg).1, Nat.le_trans kk5.size (own_block IM.own hg).2⟩
            have c6 := c5.keeps k6 (fun _ _ f => f)
            have RA2 := read_any _ D w6 (c6.btAt (by omega)) (by rw [HRD.out]; show L.length * 40 ≤ _; omega)
            clear RA hR HR
            go_wp2_with fail
            refine RA2.mono ?_
            rintro e w7 ⟨hR, k7⟩
            have hR' := hR.1 (by rw [HRD.out])
            rw [HRD.out] at hR'
            dsimp only at hR'
            obtain ⟨ov, rfl, IO⟩ := hR'
            obtain ⟨ob, oc, rfl⟩ := IO.form
            have c7 := c6.keeps k7 (fun _ _ f => f)
            have q7 := q5.keeps (k6.trans k7) (fun _ _ f => f)
            have kk7 := (kk5.trans k6).trans k7
            have M7 := IM.keeps k7 (fun _ _ f => f)
            have v1 := bts_string c7
            have v2 := bts_string q7
            have hb40 : L.length * 40 ≤ 140737488355328 := by omega
            have SA := same_any _ _ L w7 (M7.insAt hwf hb40) (HL.out w7 kk7).2
            clear RA2 hR c5 c6 c7 q5 q7 IM
            go_wp2_with (first | (go_at_call 19; refine (num_any _ _).mono ?_; rintro e w' ⟨rfl, hw'⟩; replace hw' := hw'.symm; subst hw'))
            refine SA.mono ?_
            rintro e w8 ⟨rfl, k8⟩
            have kk8 := kk7.trans k8
            have SB := same_any _ _ L w8 ((IO.keeps k8 (fun _ _ f => f)).insAt hwf hb40) (HL.out w8 kk8).2
            clear SA v1 v2
            go_wp2_with (first | (go_at_call 19; refine (num_any _ _).mono ?_; rintro e w' ⟨rfl, hw'⟩; replace hw' := hw'.symm; subst hw'))
            refine SB.mono ?_
            rintro e w9 ⟨rfl, k9⟩
            have kk9 := kk8.trans k9
            have M9 := (M7.keeps k8 (fun _ _ f => f)).keeps k9 (fun _ _ f => f)
            have O9 := (IO.keeps k8 (fun _ _ f => f)).keeps k9 (fun _ _ f => f)
            clear SB M7 IO
            go_wp2_with (first | (go_at_call 19; refine (num_any _ _).mono ?_; rintro e w' ⟨rfl, hw'⟩; replace hw' := hw'.symm; subst hw'))
            have hrow : Hid (L.length = 0 ∨ ∃ gm cur, mb = some ⟨gm, 0, none⟩ ∧ gm < w6.heap.size ∧ w1.heap.size ≤ gm ∧ w9.heap[gm]? = some (.cells cur 38 (0, 0)) ∧ L.length * 5 ≤ cur.size) := by
              rcases M9.own.2 with ⟨_, h2⟩ | ⟨gm, cap, cur, h1, h2, h3, h4, h5, h6, h7⟩
              · exact .inl h2
              · simp only [Value.slice.injEq] at h1
                obtain ⟨rfl, -, rfl⟩ := h1
                exact .inr ⟨gm, cur, rfl, (HM6.out gm rfl).1, (HM6.out gm rfl).2, h3, by rw [h6]; exact Nat.mul_le_mul_right 5 h4⟩
            clear M9 k6 k7 k8 k9 kk5 kk7 kk8 HM6
            go_loopw [17] (fun v wr' => ∃ k : Nat, v = .int .i64 k ∧ k ≤ L.length ∧ Hid (Irs wr' w6.heap.size (.slice ob L.length oc) L ∧ Keeps (fun _ => False) w1 wr' ∧ (L.length = 0 ∨ ∃ gm cur, mb = some ⟨gm, 0, none⟩ ∧ gm < w6.heap.size ∧ w1.heap.size ≤ gm ∧ wr'.heap[gm]? = some (.cells cur 38 (0, 0)) ∧ L.length * 5 ≤ cur.size))) (fun v _ => L.length - (intOf v).toNat)
            case atStart => exact ⟨0, rfl, Nat.zero_le _, ⟨O9, kk9, hrow.out⟩⟩
            case round =>
              clear O9 kk9 hrow
              obtain ⟨k, rfl, hk, hh⟩ := hrel
              obtain ⟨e1, e2, e3⟩ := hh.out
              by_cases hlt : k < L.length
              · have hki : (k : Int) < L.length := by omega
                rcases e3 with h0 | ⟨gm, cur, rfl, hg1, hg2, hcur, hsz⟩
                · omega
                · have ht := there_block hcur (k * 5) 5 (by omega)
                  obtain ⟨cur', hc1, hc2⟩ := block_setCells [.int .i64 0, .int .i64 0, .int .i64 0, .int .i64 0, .int .u64 0] (k * 5) _ _ hcur
                  have ks := Keeps.setCells (S := fun q => q = gm) (a := wr) (b := gm) (.inr rfl) [.int .i64 0, .int .i64 0, .int .i64 0, .int .i64 0, .int .u64 0] (k * 5) wr (Keeps.refl _ _)
                  have E1 := e1.keeps ks (fun gg hgg e => by have := (own_block e1.own hgg).2; omega)
                  have E2 := Keeps.setCells (S := fun _ => False) (a := w1) (b := gm) (.inl hg2) [.int .i64 0, .int .i64 0, .int .i64 0, .int .i64 0, .int .u64 0] (k * 5) wr e2
                  have hr := run_storeAt_mid (P := Tryd.prog) wr gm (k * 5) 38 #[.int .i64 0, .int .i64 0, .int .i64 0, .int .i64 0, .int .u64 0] ht size_ins (by simp [Value.oneCell'])
                  obtain ⟨W', hW'⟩ : ∃ W', W' = wr.setCells gm (k * 5) [.int .i64 0, .int .i64 0, .int .i64 0, .int .i64 0, .int .u64 0] := ⟨_, rfl⟩
                  rw [← hW'] at hc1 E1 E2
                  change _ = Result.ok () (wr.setCells gm (k * 5) [.int .i64 0, .int .i64 0, .int .i64 0, .int .i64 0, .int .u64 0]) at hr
                  rw [← hW'] at hr
                  have HR' : Hid (_ = _) := hr
                  clear hh e1 e2 ks hr hW' ht hcur
                  go_wp2_with (refine wpList_store_run rfl 38 _ _ rfl rfl rfl HR'.out ?_)
                  go_roundw
                  · exact ⟨k + 1, by simp, by omega, ⟨E1, E2, .inr ⟨gm, cur', rfl, hg1, hg2, hc1, by omega⟩⟩⟩
                  · simp [intOf]; omega
              · have hki : ¬ (k : Int) < L.length := by omega
                have SA := same_any _ _ L wr (e1.insAt hwf hb40) (HL.out wr e2).2
                clear hh e1 e3
                go_wp2_with fail
                refine SA.mono ?_
                rintro e w10 ⟨rfl, k10⟩
                have WK := works_any w10 (hw.keeps ((k1.trans e2).trans k10))
                clear SA
                go_wp2_with (first | (go_at_call 19; refine (num_any _ _).mono ?_; rintro e w' ⟨rfl, hw'⟩; replace hw' := hw'.symm; subst hw') | (go_at_call 15; refine WK.mono ?_; rintro e w17 ⟨rfl, k17⟩))
                go_ret
                exact ⟨rfl, ((k1.trans e2).trans k10).trans k17⟩
end Go.Proofs.YtepigjbnpkpanaaDoor
