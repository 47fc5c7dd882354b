
/- Walk of the document's List (package parleyref09). No statement of the seat is proved here. -/
import Derived.Test.YtkkmkfldldglgaaGreatDoorAsZ
namespace Go.Proofs.YtkkmkfldldglgaaGreatDoor
open Go.RowKit Go.Shelf

theorem cat_ex (x y : List UInt8) : ∃ z : List UInt8, (⟨x.toArray⟩ ++ ⟨y.toArray⟩ : ByteArray) = ⟨z.toArray⟩ ∧ Hid (z = x ++ y) ∧ z.length ≤ x.length + y.length := ⟨x ++ y, str_app x y, rfl, by simp⟩
/-- The cut of a text whose last part has no blank. -/
theorem cutAt_app (p d : List UInt8) (hd : (32 : UInt8) ∉ d) : cutAt (p ++ 32 :: d) = p.length + 1 := by
  unfold cutAt
  rcases Lib.lastIndexByte_spec ⟨(p ++ 32 :: d).toArray⟩ 32 with ⟨_, h⟩ | ⟨i, hi, h, h1, h2⟩
  · exfalso
    have := h p.length (by rw [size_of]; simp)
    simp at this
  · rw [size_of] at hi
    simp only [List.length_append, List.length_cons] at hi
    rw [h]
    have hle : p.length ≤ i := by
      by_cases hc : p.length ≤ i
      · exact hc
      · exfalso
        have := h2 p.length (by omega) (by rw [size_of]; simp)
        simp at this
    have hge : i ≤ p.length := by
      by_cases hc : i ≤ p.length
      · exact hc
      · exfalso
        obtain ⟨q, rfl⟩ : ∃ q, i = p.length + 1 + q := ⟨i - p.length - 1, by omega⟩
        have hq : q < d.length := by omega
        have hg : (p ++ 32 :: d)[p.length + 1 + q]? = some (d[q]) := by
          rw [List.getElem?_append_right (by omega)]
          rw [show p.length + 1 + q - p.length = q + 1 by omega]
          simp [hq]
        simp only [List.getElem!_toArray, List.getElem!_eq_getElem?_getD, hg, Option.getD_some] at h1
        apply hd
        have : d[q] = 32 := by
          apply UInt8.toNat_inj.1
          have : ((d[q]).toNat : Int) = 32 := h1
          show (d[q]).toNat = 32
          omega
        rw [← this]
        exact List.getElem_mem hq
    omega
theorem named_eq {i : I5} (h : formedB i = true) (ht : tgtB i.op = true) : namedL (textL i) = lineL i (112 :: Lib.decDigits i.n.toNat) := by
  have hr := tgt_range ht
  have hnum : numB i.op = true := by
    rcases op17 hr.1 hr.2 with q | q | q | q | q | q | q | q | q | q | q | q | q | q | q | q | q <;> rw [q] at ht ⊢ <;> revert ht <;> decide
  rw [← line_text h]
  unfold lineL
  rw [hnum]
  simp only [if_true]
  generalize (nms[i.op.toNat]?).getD [] ++ blanked (regL i) = p
  unfold namedL
  rw [cutAt_app p _ (dec_noblank _)]
  have e1 : (p ++ 32 :: Lib.decDigits i.n.toNat).take (p.length + 1) = p ++ [32] := by
    rw [List.take_append, List.take_of_length_le (by omega)]
    simp
  have e2 : (p ++ 32 :: Lib.decDigits i.n.toNat).drop (p.length + 1) = Lib.decDigits i.n.toNat := by
    rw [List.drop_append]
    simp
  rw [e1, e2]
  simp
theorem aim_eq {i : I5} {n : Nat} : aimB i n = (tgtB i.op && decide (i.n ≤ (n : Int))) := by
  unfold aimB
  cases ht : tgtB i.op
  · simp
  · have := tgt_range ht
    simp [this]
theorem listK_succ {L : List I5} {k : Nat} (hk : k < L.length) : listK L (k + 1) = listK L k ++ pieceL L k (L[k]) := by
  rw [listK, List.getElem?_eq_getElem hk]; rfl

set_option maxRecDepth 100000 in
set_option maxHeartbeats 8000000 in
theorem rlist_any (v : Value) (L : List I5) (hL : L.length ≤ 65536) (w : World) (h : InsAt w v L) : Calls Tryz.prog 19 #[v] w fun e w' => LsPost L e ∧ Keeps (fun _ => False) w w' := by
  have hmx : Tryz.prog.follows .mixedOrders = true := by kernel_rfl
  have HI : Hid (∀ X, Keeps (fun _ => False) w X → InsAt X v L) := fun X k => h.keeps k
  have HW : Hid (∀ i ∈ L, i.wf) := h.wf
  have k0 := Keeps.refl (fun _ => False) w
  have TGA := fun (j : Nat) (hj : j ≤ L.length) (X : World) (kX : Keeps (fun _ => False) w X) => rtarget_any v L hL j (by omega) X (h.keeps kX)
  have TGB : Hid (∀ (j : Nat), j ≤ L.length → tgtAt L j = markB L L.length j) := fun j hj => (mark_tgt L L.length j hj).symm
  obtain ⟨⟨a0, c0, rfl, _⟩, -, -⟩ := h
  have gwl : IntKind.u64.wrap (L.length : Int) = L.length := by simp [IntKind.wrap, IntKind.signed, IntKind.bits]; omega
  go_enter Tryz.func19, Tryz.ntmps19
  go_wp2_with fail
  go_loopw [4, 5] (fun u u2 wr => ∃ (k : Nat) (X : List UInt8), u = .string ⟨X.toArray⟩ ∧ u2 = .int .i64 k ∧ k ≤ L.length ∧ Keeps (fun _ => False) w wr ∧ Hid ((L.take k).all formedB = true ∧ X = listK L k ∧ X.length ≤ 256 * k)) (fun _ u _ => L.length - (intOf u).toNat)
  case atStart => exact ⟨0, [], rfl, rfl, Nat.zero_le _, k0, ⟨by simp, rfl, by simp⟩⟩
  case round =>
    obtain ⟨k, X, rfl, rfl, hk, kr, hP⟩ := hrel
    by_cases hlt : k < L.length
    · obtain ⟨ga, off, cap, hv, x0, x1, x2, x3, x4⟩ := (HI.out wr kr).at k hlt
      simp only [Value.slice.injEq] at hv
      obtain ⟨rfl, -, rfl⟩ := hv
      have hki : (k : Int) < L.length := by omega
      have hw5 := HW.out (L[k]) (List.getElem_mem hlt)
      have HP : Hid (listK L (k + 1) = listK L k ++ pieceL L k (L[k])) := listK_succ hlt
      have HA : Hid (formedB (L[k]) = false → L.all formedB = false) := all_of_take hlt
      have HT : Hid (formedB (L[k]) = true → (L.take (k + 1)).all formedB = true) := take_all hlt hP.out.1
      have RF := rformed_any (L[k])
      have FM := rform_any (L[k]).op
      have hn0 := hw5.2.2.2.2.1
      have hn1 := hw5.2.2.2.2.2
      have RL := fun (hf : formedB (L[k]) = true) X => rLine_any (L[k]) hf hn0 hn1 X
      have RN := fun (hf : formedB (L[k]) = true) (t : List UInt8) (ht : t.length ≤ 1048576) X => rline_any (L[k]) hf t ht X
      have TL := fun (hf : formedB (L[k]) = true) => text_len (i := L[k]) hf hn0 hn1
      have NE := fun (hf : formedB (L[k]) = true) (ht : tgtB (L[k]).op = true) => named_eq hf ht
      have DN := rdigits_any (L[k]).n.toNat (by omega)
      rw [show (((L[k]).n.toNat : Nat) : Int) = (L[k]).n by omega] at DN
      have hDn : (Lib.decDigits (L[k]).n.toNat).length ≤ 20 := by rw [Lib.decDigits_length]; exact Lib.nDigits_le20 _ (by omega)
      have DK := rdigits_any k (by omega)
      have hDk : (Lib.decDigits k).length ≤ 20 := by rw [Lib.decDigits_length]; exact Lib.nDigits_le20 _ (by omega)
      have gwk : IntKind.u64.wrap (k : Int) = k := by simp [IntKind.wrap, IntKind.signed, IntKind.bits]; omega
      have AE : Hid (aimB (L[k]) L.length = (tgtB (L[k]).op && decide ((L[k]).n ≤ (L.length : Int)))) := aim_eq
      have HPL : Hid (placeL k = 112 :: Lib.decDigits k) := rfl
      have HC : Hid (∀ X, Keeps (fun _ => False) wr X → X.cell? ⟨ga, off + k * 5, none⟩ = some (.int .i64 (L[k]).op) ∧ X.cell? ⟨ga, off + k * 5 + 1, none⟩ = some (.int .i64 (L[k]).a) ∧ X.cell? ⟨ga, off + k * 5 + 2, none⟩ = some (.int .i64 (L[k]).b) ∧ X.cell? ⟨ga, off + k * 5 + 3, none⟩ = some (.int .i64 (L[k]).c) ∧ X.cell? ⟨ga, off + k * 5 + 4, none⟩ = some (.int .u64 (L[k]).n)) := fun X kX => by
        obtain ⟨g', o', c', hv, q⟩ := (HI.out X (kr.trans kX)).at k hlt
        simp only [Value.slice.injEq, Option.some.injEq, Addr.mk.injEq, and_true, true_and] at hv
        obtain ⟨⟨rfl, rfl⟩, -⟩ := hv
        exact q
      have TGK := TGA k hk
      rw [TGB.out k hk] at TGK
      have hpi : Hid (pieceL L k (L[k]) = (if markB L L.length k then placeL k ++ [58, 32] else []) ++ ((if aimB (L[k]) L.length then namedL (textL (L[k])) else textL (L[k])) ++ [10])) := rfl
      generalize L[k]'hlt = i at *
      obtain ⟨-, hX0, hXl⟩ := hP.out
      have hX : Hid (X = listK L k) := hX0
      clear hX0
      cases hform : formedB i
      · rw [hform] at RF
        have hF := HA.out hform
        obtain ⟨op, a, b, c, N⟩ := i
        dsimp only at x0 x1 x2 x3 x4
        clear RL RN TL HC HT HP NE DN DK TGK FM AE hpi
        go_wp2_with fail
        refine (RF _).mono ?_
        rintro e X1 ⟨rfl, k1⟩
        have kk := kr.trans k1
        clear RF
        go_wp2_with fail
        go_ret2
        exact ⟨⟨fun hq => (by rw [hF] at hq; cases hq), fun _ => rfl⟩, kk⟩
      · rw [hform] at RF
        have hT := HT.out hform
        have RL1 := RL hform
        have RN1 := RN hform
        have tl := TL hform
        have NE1 := NE hform
        have hnl := namedL_len (textL i)
        have hline : ∀ t, tgtB i.op = true → (lineL i t).length ≤ 128 + t.length := fun t _ => by
          have : (lineL i t).length ≤ (lineL i (Lib.decDigits i.n.toNat)).length + 1 + t.length := by
            unfold lineL
            cases numB i.op <;> simp <;> omega
          rw [line_text hform] at this
          omega
        generalize hDD : Lib.decDigits i.n.toNat = DD at *
        generalize hKK : Lib.decDigits k = DKK at *
        generalize textL i = T at *
        generalize namedL T = NT at *
        obtain ⟨op, a, b, c, N⟩ := i
        dsimp only at x0 x1 x2 x3 x4 hn0 hn1 HC RF RL1 RN1 FM DN NE1 AE hline
        clear RL RN TL NE HA hDD hKK
        go_wp2_with fail
        refine (RF _).mono ?_
        rintro e X1 ⟨rfl, k1⟩
        have kk := kr.trans k1
        have TGK1 := TGK X1 kk
        clear RF TGK TGA
        go_wp2_with fail
        refine TGK1.mono ?_
        rintro e X1' ⟨rfl, hX1'⟩
        replace hX1' := hX1'.symm
        subst hX1'
        clear TGK1
        cases hmark : markB L L.length k
        · rw [hmark] at hpi
          obtain ⟨Y, hYe⟩ : ∃ Y, Y = X := ⟨_, rfl⟩
          have HY : Hid (Y = X ++ (if (false = true) then placeL k ++ [58, 32] else [])) := by rw [hYe]; show X = _; simp
          have hYl : Y.length ≤ 256 * k + 30 := by rw [hYe]; omega
          rw [← hYe]
          clear hYe
          have kZ : Keeps (fun _ => False) wr X1 := k1
          obtain ⟨y0, y1, y2, y3, y4⟩ := HC.out _ kZ
          go_wp2_with fail
          refine (FM _).mono ?_
          rintro e Z' ⟨rfl, hZ'⟩
          replace hZ' := hZ'.symm
          subst hZ'
          clear FM
          cases htg : tgtB op
          · rw [htg] at AE
            have hae : Hid (aimB ⟨op, a, b, c, N⟩ L.length = false) := by unfold Hid; rw [AE.out]; simp_all
            obtain ⟨Y3, s4, e4, l4⟩ := cat_ex Y T
            obtain ⟨Y4, s5, e5, l5⟩ := cat_ex Y3 [10]
            simp only [List.length_cons, List.length_nil] at l5
            have t4 : ¬ 9223372036854775807 < Y.length + T.length := by omega
            have t5 : ¬ 9223372036854775807 < Y3.length + 1 := by omega
            have hfin : Hid (Y4 = listK L (k + 1)) := by
              unfold Hid
              rw [HP.out, hpi.out, hae.out, e5.out, e4.out, HY.out, hX.out]
              simp
            have hfl : Y4.length ≤ 256 * (k + 1) := by omega
            clear NE1 RN1 hline DN AE hae
            go_wp2_with fail
            refine (RL1 _).mono ?_
            rintro e V ⟨rfl, kv⟩
            have kk3 := (kr.trans kZ).trans kv
            clear RL1
            go_wp2_with fail
            go_roundw
            · exact ⟨k + 1, Y4, rfl, rfl, by omega, kk3, ⟨hT, hfin.out, hfl⟩⟩
            · simp [intOf]; omega
          · by_cases hNl : N ≤ (L.length : Int)
            · have NE2 := NE1 htg
              have hl2 := hline (112 :: DD) htg
              rw [htg] at AE
              go_wp2_with fail
              have hae : Hid (aimB ⟨op, a, b, c, N⟩ L.length = true) := by unfold Hid; rw [AE.out]; simp [hNl]
              obtain ⟨P1, s6, e6, l6⟩ := cat_ex [112] DD
              simp only [List.length_cons, List.length_nil] at l6
              have e6' : 112 :: DD = P1 := by rw [e6.out]; rfl
              rw [e6'] at NE2 hl2
              have RN2 := RN1 P1 (by omega)
              rw [← NE2] at RN2 hl2
              obtain ⟨Y3, s4, e4, l4⟩ := cat_ex Y NT
              obtain ⟨Y4, s5, e5, l5⟩ := cat_ex Y3 [10]
              simp only [List.length_cons, List.length_nil] at l5
              have t4 : ¬ 9223372036854775807 < Y.length + NT.length := by omega
              have t5 : ¬ 9223372036854775807 < Y3.length + 1 := by omega
              have t6 : ¬ 9223372036854775807 < 1 + DD.length := by omega
              have hfin : Hid (Y4 = listK L (k + 1)) := by
                unfold Hid
                rw [HP.out, hpi.out, hae.out, e5.out, e4.out, HY.out, hX.out]
                simp
              have hfl : Y4.length ≤ 256 * (k + 1) := by omega
              clear NE1 RN1 hline AE hae NE2 e6' hnl
              have kd : Keeps (fun _ => False) wr (X1).drew := kZ.drewN 1
              have S0 := HC.out _ kd
              refine wp_held_end (S := (fun X => X.cell? ⟨ga, off + k * 5, none⟩ = some (.int .i64 op) ∧ X.cell? ⟨ga, off + k * 5 + 1, none⟩ = some (.int .i64 a) ∧ X.cell? ⟨ga, off + k * 5 + 2, none⟩ = some (.int .i64 b) ∧ X.cell? ⟨ga, off + k * 5 + 3, none⟩ = some (.int .i64 c) ∧ X.cell? ⟨ga, off + k * 5 + 4, none⟩ = some (.int .u64 N))) 16 rfl hmx ?_
              generalize (X1).drew = wd at *
              simp only [Array.replicate_succ, Array.replicate_zero, List.push_toArray, List.nil_append, List.cons_append]
              refine held_take (i := 0) (v := .string ⟨Y.toArray⟩) 58 rfl rfl (by kernel_rfl) (by kernel_rfl) (by kernel_rfl) rfl (fun w' hw' => by obtain ⟨z0, z1, z2, z3, z4⟩ := hw'; go_simp) S0 ?_
              simp only [Act.put, List.setIfInBounds_toArray, List.set_cons_zero, List.set_cons_succ]
              refine held_take (i := 1) (v := .slice (some ⟨ga, off, none⟩) L.length c0) 59 rfl rfl (by kernel_rfl) (by kernel_rfl) (by kernel_rfl) rfl (fun w' hw' => by obtain ⟨z0, z1, z2, z3, z4⟩ := hw'; go_simp) S0 ?_
              simp only [Act.put, List.setIfInBounds_toArray, List.set_cons_zero, List.set_cons_succ]
              refine held_take (i := 2) (v := .int .i64 (k : Int)) 60 rfl rfl (by kernel_rfl) (by kernel_rfl) (by kernel_rfl) rfl (fun w' hw' => by obtain ⟨z0, z1, z2, z3, z4⟩ := hw'; go_simp) S0 ?_
              simp only [Act.put, List.setIfInBounds_toArray, List.set_cons_zero, List.set_cons_succ]
              refine held_take (i := 3) (v := .pointer (some ⟨ga, off + k * 5, none⟩)) 61 rfl rfl (by kernel_rfl) (by kernel_rfl) (by kernel_rfl) rfl (fun w' hw' => by obtain ⟨z0, z1, z2, z3, z4⟩ := hw'; go_simp) S0 ?_
              simp only [Act.put, List.setIfInBounds_toArray, List.set_cons_zero, List.set_cons_succ]
              refine held_take (i := 4) (v := .agg #[.int .i64 op, .int .i64 a, .int .i64 b, .int .i64 c, .int .u64 N]) 62 rfl rfl (by kernel_rfl) (by kernel_rfl) (by kernel_rfl) rfl (fun w' hw' => by obtain ⟨z0, z1, z2, z3, z4⟩ := hw'; go_simp) S0 ?_
              simp only [Act.put, List.setIfInBounds_toArray, List.set_cons_zero, List.set_cons_succ]
              refine held_take (i := 5) (v := .slice (some ⟨ga, off, none⟩) L.length c0) 63 rfl rfl (by kernel_rfl) (by kernel_rfl) (by kernel_rfl) rfl (fun w' hw' => by obtain ⟨z0, z1, z2, z3, z4⟩ := hw'; go_simp) S0 ?_
              simp only [Act.put, List.setIfInBounds_toArray, List.set_cons_zero, List.set_cons_succ]
              refine held_take (i := 6) (v := .int .i64 (k : Int)) 64 rfl rfl (by kernel_rfl) (by kernel_rfl) (by kernel_rfl) rfl (fun w' hw' => by obtain ⟨z0, z1, z2, z3, z4⟩ := hw'; go_simp) S0 ?_
              simp only [Act.put, List.setIfInBounds_toArray, List.set_cons_zero, List.set_cons_succ]
              refine held_take (i := 7) (v := .pointer (some ⟨ga, off + k * 5, none⟩)) 65 rfl rfl (by kernel_rfl) (by kernel_rfl) (by kernel_rfl) rfl (fun w' hw' => by obtain ⟨z0, z1, z2, z3, z4⟩ := hw'; go_simp) S0 ?_
              simp only [Act.put, List.setIfInBounds_toArray, List.set_cons_zero, List.set_cons_succ]
              refine held_take (i := 8) (v := .pointer (some ⟨ga, off + k * 5 + 4, none⟩)) 66 rfl rfl (by kernel_rfl) (by kernel_rfl) (by kernel_rfl) rfl (fun w' hw' => by obtain ⟨z0, z1, z2, z3, z4⟩ := hw'; go_simp) S0 ?_
              simp only [Act.put, List.setIfInBounds_toArray, List.set_cons_zero, List.set_cons_succ]
              refine held_take (i := 9) (v := .int .u64 N) 67 rfl rfl (by kernel_rfl) (by kernel_rfl) (by kernel_rfl) rfl (fun w' hw' => by obtain ⟨z0, z1, z2, z3, z4⟩ := hw'; go_simp) S0 ?_
              simp only [Act.put, List.setIfInBounds_toArray, List.set_cons_zero, List.set_cons_succ]
              refine held_call (i := 10) 68 (by kernel_rfl) rfl rfl rfl (by go_simp) ((DN _).mono ?_)
              rintro e V1 ⟨rfl, kv1⟩
              have S1 := HC.out _ (kd.trans kv1)
              refine ⟨_, rfl, S1, ?_⟩
              simp only [Act.put, List.setIfInBounds_toArray, List.set_cons_zero, List.set_cons_succ]
              refine held_val (i := 11) (v := .string ⟨P1.toArray⟩) (w' := V1) (some 69) (by kernel_rfl) rfl rfl rfl (by go_simp) S1 ?_
              simp only [Act.put, List.setIfInBounds_toArray, List.set_cons_zero, List.set_cons_succ]
              refine held_call (i := 12) 70 (by kernel_rfl) rfl rfl rfl (by go_simp) ((RN2 _).mono ?_)
              rintro e V2 ⟨rfl, kv2⟩
              have S2 := HC.out _ ((kd.trans kv1).trans kv2)
              refine ⟨_, rfl, S2, ?_⟩
              simp only [Act.put, List.setIfInBounds_toArray, List.set_cons_zero, List.set_cons_succ]
              refine held_val (i := 13) (v := .string ⟨Y3.toArray⟩) (w' := V2) (some 71) (by kernel_rfl) rfl rfl rfl (by go_simp) S2 ?_
              simp only [Act.put, List.setIfInBounds_toArray, List.set_cons_zero, List.set_cons_succ]
              refine held_val (i := 14) (v := .string ⟨Y4.toArray⟩) (w' := V2) (some 72) (by kernel_rfl) rfl rfl rfl (by go_simp) S2 ?_
              simp only [Act.put, List.setIfInBounds_toArray, List.set_cons_zero, List.set_cons_succ]
              refine held_val (i := 15) (v := .string ⟨Y4.toArray⟩) (w' := V2) (some 4) (by kernel_rfl) rfl rfl rfl (by go_simp) S2 ?_
              simp only [Act.put, List.setIfInBounds_toArray, List.set_cons_zero, List.set_cons_succ]
              refine held_end (by kernel_rfl) ?_ _
              have kk3 := kr.trans ((kd.trans kv1).trans kv2)
              clear RN2 DN HC
              go_wp2_with fail
              go_roundw
              · exact ⟨k + 1, Y4, rfl, rfl, by omega, kk3, ⟨hT, hfin.out, hfl⟩⟩
              · simp [intOf]; omega
            · rw [htg] at AE
              have hae : Hid (aimB ⟨op, a, b, c, N⟩ L.length = false) := by unfold Hid; rw [AE.out]; simp_all
              obtain ⟨Y3, s4, e4, l4⟩ := cat_ex Y T
              obtain ⟨Y4, s5, e5, l5⟩ := cat_ex Y3 [10]
              simp only [List.length_cons, List.length_nil] at l5
              have t4 : ¬ 9223372036854775807 < Y.length + T.length := by omega
              have t5 : ¬ 9223372036854775807 < Y3.length + 1 := by omega
              have hfin : Hid (Y4 = listK L (k + 1)) := by
                unfold Hid
                rw [HP.out, hpi.out, hae.out, e5.out, e4.out, HY.out, hX.out]
                simp
              have hfl : Y4.length ≤ 256 * (k + 1) := by omega
              clear NE1 RN1 hline DN AE hae
              go_wp2_with fail
              refine (RL1 _).mono ?_
              rintro e V ⟨rfl, kv⟩
              have kk3 := (kr.trans kZ).trans kv
              clear RL1
              go_wp2_with fail
              go_roundw
              · exact ⟨k + 1, Y4, rfl, rfl, by omega, kk3, ⟨hT, hfin.out, hfl⟩⟩
              · simp [intOf]; omega
        · rw [hmark] at hpi
          obtain ⟨Y1, s1, e1, l1⟩ := cat_ex X [112]
          obtain ⟨Y2, s2, e2, l2⟩ := cat_ex Y1 DKK
          obtain ⟨Y, s3, e3, l3⟩ := cat_ex Y2 [58, 32]
          simp only [List.length_cons, List.length_nil] at l1 l3
          have HY : Hid (Y = X ++ (if (true = true) then placeL k ++ [58, 32] else [])) := by unfold Hid; rw [e3.out, e2.out, e1.out, HPL.out]; simp
          have hYl : Y.length ≤ 256 * k + 30 := by omega
          have t1 : ¬ 9223372036854775807 < X.length + 1 := by omega
          have t2 : ¬ 9223372036854775807 < Y1.length + DKK.length := by omega
          have t3 : ¬ 9223372036854775807 < Y2.length + 2 := by omega
          go_wp2_with fail
          refine (DK _).mono ?_
          rintro e Z ⟨rfl, kz⟩
          have kZ := k1.trans kz
          clear DK
          obtain ⟨y0, y1, y2, y3, y4⟩ := HC.out _ kZ
          go_wp2_with fail
          refine (FM _).mono ?_
          rintro e Z' ⟨rfl, hZ'⟩
          replace hZ' := hZ'.symm
          subst hZ'
          clear FM
          cases htg : tgtB op
          · rw [htg] at AE
            have hae : Hid (aimB ⟨op, a, b, c, N⟩ L.length = false) := by unfold Hid; rw [AE.out]; simp_all
            obtain ⟨Y3, s4, e4, l4⟩ := cat_ex Y T
            obtain ⟨Y4, s5, e5, l5⟩ := cat_ex Y3 [10]
            simp only [List.length_cons, List.length_nil] at l5
            have t4 : ¬ 9223372036854775807 < Y.length + T.length := by omega
            have t5 : ¬ 9223372036854775807 < Y3.length + 1 := by omega
            have hfin : Hid (Y4 = listK L (k + 1)) := by
              unfold Hid
              rw [HP.out, hpi.out, hae.out, e5.out, e4.out, HY.out, hX.out]
              simp
            have hfl : Y4.length ≤ 256 * (k + 1) := by omega
            clear NE1 RN1 hline DN AE hae
            go_wp2_with fail
            refine (RL1 _).mono ?_
            rintro e V ⟨rfl, kv⟩
            have kk3 := (kr.trans kZ).trans kv
            clear RL1
            go_wp2_with fail
            go_roundw
            · exact ⟨k + 1, Y4, rfl, rfl, by omega, kk3, ⟨hT, hfin.out, hfl⟩⟩
            · simp [intOf]; omega
          · by_cases hNl : N ≤ (L.length : Int)
            · have NE2 := NE1 htg
              have hl2 := hline (112 :: DD) htg
              rw [htg] at AE
              go_wp2_with fail
              have hae : Hid (aimB ⟨op, a, b, c, N⟩ L.length = true) := by unfold Hid; rw [AE.out]; simp [hNl]
              obtain ⟨P1, s6, e6, l6⟩ := cat_ex [112] DD
              simp only [List.length_cons, List.length_nil] at l6
              have e6' : 112 :: DD = P1 := by rw [e6.out]; rfl
              rw [e6'] at NE2 hl2
              have RN2 := RN1 P1 (by omega)
              rw [← NE2] at RN2 hl2
              obtain ⟨Y3, s4, e4, l4⟩ := cat_ex Y NT
              obtain ⟨Y4, s5, e5, l5⟩ := cat_ex Y3 [10]
              simp only [List.length_cons, List.length_nil] at l5
              have t4 : ¬ 9223372036854775807 < Y.length + NT.length := by omega
              have t5 : ¬ 9223372036854775807 < Y3.length + 1 := by omega
              have t6 : ¬ 9223372036854775807 < 1 + DD.length := by omega
              have hfin : Hid (Y4 = listK L (k + 1)) := by
                unfold Hid
                rw [HP.out, hpi.out, hae.out, e5.out, e4.out, HY.out, hX.out]
                simp
              have hfl : Y4.length ≤ 256 * (k + 1) := by omega
              clear NE1 RN1 hline AE hae NE2 e6' hnl
              have kd : Keeps (fun _ => False) wr (Z).drew := kZ.drewN 1
              have S0 := HC.out _ kd
              refine wp_held_end (S := (fun X => X.cell? ⟨ga, off + k * 5, none⟩ = some (.int .i64 op) ∧ X.cell? ⟨ga, off + k * 5 + 1, none⟩ = some (.int .i64 a) ∧ X.cell? ⟨ga, off + k * 5 + 2, none⟩ = some (.int .i64 b) ∧ X.cell? ⟨ga, off + k * 5 + 3, none⟩ = some (.int .i64 c) ∧ X.cell? ⟨ga, off + k * 5 + 4, none⟩ = some (.int .u64 N))) 16 rfl hmx ?_
              generalize (Z).drew = wd at *
              simp only [Array.replicate_succ, Array.replicate_zero, List.push_toArray, List.nil_append, List.cons_append]
              refine held_take (i := 0) (v := .string ⟨Y.toArray⟩) 58 rfl rfl (by kernel_rfl) (by kernel_rfl) (by kernel_rfl) rfl (fun w' hw' => by obtain ⟨z0, z1, z2, z3, z4⟩ := hw'; go_simp) S0 ?_
              simp only [Act.put, List.setIfInBounds_toArray, List.set_cons_zero, List.set_cons_succ]
              refine held_take (i := 1) (v := .slice (some ⟨ga, off, none⟩) L.length c0) 59 rfl rfl (by kernel_rfl) (by kernel_rfl) (by kernel_rfl) rfl (fun w' hw' => by obtain ⟨z0, z1, z2, z3, z4⟩ := hw'; go_simp) S0 ?_
              simp only [Act.put, List.setIfInBounds_toArray, List.set_cons_zero, List.set_cons_succ]
              refine held_take (i := 2) (v := .int .i64 (k : Int)) 60 rfl rfl (by kernel_rfl) (by kernel_rfl) (by kernel_rfl) rfl (fun w' hw' => by obtain ⟨z0, z1, z2, z3, z4⟩ := hw'; go_simp) S0 ?_
              simp only [Act.put, List.setIfInBounds_toArray, List.set_cons_zero, List.set_cons_succ]
              refine held_take (i := 3) (v := .pointer (some ⟨ga, off + k * 5, none⟩)) 61 rfl rfl (by kernel_rfl) (by kernel_rfl) (by kernel_rfl) rfl (fun w' hw' => by obtain ⟨z0, z1, z2, z3, z4⟩ := hw'; go_simp) S0 ?_
              simp only [Act.put, List.setIfInBounds_toArray, List.set_cons_zero, List.set_cons_succ]
              refine held_take (i := 4) (v := .agg #[.int .i64 op, .int .i64 a, .int .i64 b, .int .i64 c, .int .u64 N]) 62 rfl rfl (by kernel_rfl) (by kernel_rfl) (by kernel_rfl) rfl (fun w' hw' => by obtain ⟨z0, z1, z2, z3, z4⟩ := hw'; go_simp) S0 ?_
              simp only [Act.put, List.setIfInBounds_toArray, List.set_cons_zero, List.set_cons_succ]
              refine held_take (i := 5) (v := .slice (some ⟨ga, off, none⟩) L.length c0) 63 rfl rfl (by kernel_rfl) (by kernel_rfl) (by kernel_rfl) rfl (fun w' hw' => by obtain ⟨z0, z1, z2, z3, z4⟩ := hw'; go_simp) S0 ?_
              simp only [Act.put, List.setIfInBounds_toArray, List.set_cons_zero, List.set_cons_succ]
              refine held_take (i := 6) (v := .int .i64 (k : Int)) 64 rfl rfl (by kernel_rfl) (by kernel_rfl) (by kernel_rfl) rfl (fun w' hw' => by obtain ⟨z0, z1, z2, z3, z4⟩ := hw'; go_simp) S0 ?_
              simp only [Act.put, List.setIfInBounds_toArray, List.set_cons_zero, List.set_cons_succ]
              refine held_take (i := 7) (v := .pointer (some ⟨ga, off + k * 5, none⟩)) 65 rfl rfl (by kernel_rfl) (by kernel_rfl) (by kernel_rfl) rfl (fun w' hw' => by obtain ⟨z0, z1, z2, z3, z4⟩ := hw'; go_simp) S0 ?_
              simp only [Act.put, List.setIfInBounds_toArray, List.set_cons_zero, List.set_cons_succ]
              refine held_take (i := 8) (v := .pointer (some ⟨ga, off + k * 5 + 4, none⟩)) 66 rfl rfl (by kernel_rfl) (by kernel_rfl) (by kernel_rfl) rfl (fun w' hw' => by obtain ⟨z0, z1, z2, z3, z4⟩ := hw'; go_simp) S0 ?_
              simp only [Act.put, List.setIfInBounds_toArray, List.set_cons_zero, List.set_cons_succ]
              refine held_take (i := 9) (v := .int .u64 N) 67 rfl rfl (by kernel_rfl) (by kernel_rfl) (by kernel_rfl) rfl (fun w' hw' => by obtain ⟨z0, z1, z2, z3, z4⟩ := hw'; go_simp) S0 ?_
              simp only [Act.put, List.setIfInBounds_toArray, List.set_cons_zero, List.set_cons_succ]
              refine held_call (i := 10) 68 (by kernel_rfl) rfl rfl rfl (by go_simp) ((DN _).mono ?_)
              rintro e V1 ⟨rfl, kv1⟩
              have S1 := HC.out _ (kd.trans kv1)
              refine ⟨_, rfl, S1, ?_⟩
              simp only [Act.put, List.setIfInBounds_toArray, List.set_cons_zero, List.set_cons_succ]
              refine held_val (i := 11) (v := .string ⟨P1.toArray⟩) (w' := V1) (some 69) (by kernel_rfl) rfl rfl rfl (by go_simp) S1 ?_
              simp only [Act.put, List.setIfInBounds_toArray, List.set_cons_zero, List.set_cons_succ]
              refine held_call (i := 12) 70 (by kernel_rfl) rfl rfl rfl (by go_simp) ((RN2 _).mono ?_)
              rintro e V2 ⟨rfl, kv2⟩
              have S2 := HC.out _ ((kd.trans kv1).trans kv2)
              refine ⟨_, rfl, S2, ?_⟩
              simp only [Act.put, List.setIfInBounds_toArray, List.set_cons_zero, List.set_cons_succ]
              refine held_val (i := 13) (v := .string ⟨Y3.toArray⟩) (w' := V2) (some 71) (by kernel_rfl) rfl rfl rfl (by go_simp) S2 ?_
              simp only [Act.put, List.setIfInBounds_toArray, List.set_cons_zero, List.set_cons_succ]
              refine held_val (i := 14) (v := .string ⟨Y4.toArray⟩) (w' := V2) (some 72) (by kernel_rfl) rfl rfl rfl (by go_simp) S2 ?_
              simp only [Act.put, List.setIfInBounds_toArray, List.set_cons_zero, List.set_cons_succ]
              refine held_val (i := 15) (v := .string ⟨Y4.toArray⟩) (w' := V2) (some 4) (by kernel_rfl) rfl rfl rfl (by go_simp) S2 ?_
              simp only [Act.put, List.setIfInBounds_toArray, List.set_cons_zero, List.set_cons_succ]
              refine held_end (by kernel_rfl) ?_ _
              have kk3 := kr.trans ((kd.trans kv1).trans kv2)
              clear RN2 DN HC
              go_wp2_with fail
              go_roundw
              · exact ⟨k + 1, Y4, rfl, rfl, by omega, kk3, ⟨hT, hfin.out, hfl⟩⟩
              · simp [intOf]; omega
            · rw [htg] at AE
              have hae : Hid (aimB ⟨op, a, b, c, N⟩ L.length = false) := by unfold Hid; rw [AE.out]; simp_all
              obtain ⟨Y3, s4, e4, l4⟩ := cat_ex Y T
              obtain ⟨Y4, s5, e5, l5⟩ := cat_ex Y3 [10]
              simp only [List.length_cons, List.length_nil] at l5
              have t4 : ¬ 9223372036854775807 < Y.length + T.length := by omega
              have t5 : ¬ 9223372036854775807 < Y3.length + 1 := by omega
              have hfin : Hid (Y4 = listK L (k + 1)) := by
                unfold Hid
                rw [HP.out, hpi.out, hae.out, e5.out, e4.out, HY.out, hX.out]
                simp
              have hfl : Y4.length ≤ 256 * (k + 1) := by omega
              clear NE1 RN1 hline DN AE hae
              go_wp2_with fail
              refine (RL1 _).mono ?_
              rintro e V ⟨rfl, kv⟩
              have kk3 := (kr.trans kZ).trans kv
              clear RL1
              go_wp2_with fail
              go_roundw
              · exact ⟨k + 1, Y4, rfl, rfl, by omega, kk3, ⟨hT, hfin.out, hfl⟩⟩
              · simp [intOf]; omega
    · obtain rfl : k = L.length := by omega
      obtain ⟨h1, h2, h3⟩ := hP.out
      rw [List.take_length] at h1
      have hq : Hid (X = listK L L.length) := h2
      have TGK := TGA L.length (Nat.le_refl _) wr kr
      rw [TGB.out _ (Nat.le_refl _)] at TGK
      have DK := rdigits_any L.length (by omega)
      have hDk : (Lib.decDigits L.length).length ≤ 20 := by rw [Lib.decDigits_length]; exact Lib.nDigits_le20 _ (by omega)
      have HL : Hid (listL L = listK L L.length ++ (if markB L L.length L.length then placeL L.length ++ [58, 10] else [])) := rfl
      have HPL : Hid (placeL L.length = 112 :: Lib.decDigits L.length) := rfl
      generalize Lib.decDigits L.length = DKK at *
      clear HI h2 TGA
      go_wp2_with fail
      refine TGK.mono ?_
      rintro e X1' ⟨rfl, hX1'⟩
      replace hX1' := hX1'.symm
      subst hX1'
      clear TGK
      cases hmark : markB L L.length L.length
      · rw [hmark] at HL
        have hfin : Hid (X = listL L) := by unfold Hid; rw [HL.out, hq.out]; simp
        clear DK
        go_wp2_with fail
        go_ret2
        exact ⟨⟨fun _ => by rw [← hfin.out]; rfl, fun hq => (by rw [h1] at hq; cases hq)⟩, kr⟩
      · rw [hmark] at HL
        obtain ⟨Y1, s1, e1, l1⟩ := cat_ex X [112]
        obtain ⟨Y2, s2, e2, l2⟩ := cat_ex Y1 DKK
        obtain ⟨Y, s3, e3, l3⟩ := cat_ex Y2 [58, 10]
        simp only [List.length_cons, List.length_nil] at l1 l3
        have hfin : Hid (Y = listL L) := by unfold Hid; rw [HL.out, e3.out, e2.out, e1.out, HPL.out, hq.out]; simp
        have t1 : ¬ 9223372036854775807 < X.length + 1 := by omega
        have t2 : ¬ 9223372036854775807 < Y1.length + DKK.length := by omega
        have t3 : ¬ 9223372036854775807 < Y2.length + 2 := by omega
        go_wp2_with fail
        refine (DK _).mono ?_
        rintro e Z ⟨rfl, kz⟩
        have kk := kr.trans kz
        clear DK
        go_wp2_with fail
        go_ret2
        exact ⟨⟨fun _ => by rw [← hfin.out]; rfl, fun hq => (by rw [h1] at hq; cases hq)⟩, kk⟩
end Go.Proofs.YtkkmkfldldglgaaGreatDoor
