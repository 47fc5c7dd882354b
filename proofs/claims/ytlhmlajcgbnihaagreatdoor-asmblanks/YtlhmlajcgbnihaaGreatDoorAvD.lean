
/- The law's walk over a program written with blanks, remarks and labels. No statement of the seat is proved here. -/
import Derived.Test.YtlhmlajcgbnihaaGreatDoorAvM
import Derived.Test.YtlhmlajcgbnihaaGreatDoorAuI
import Derived.Test.YtlhmlajcgbnihaaGreatDoorAsU
namespace Go.Proofs.YtlhmlajcgbnihaaGreatDoor
open Go.RowKit Go.Shelf

set_option maxRecDepth 100000 in
set_option maxHeartbeats 40000000 in
theorem blanks_law (v : Value) (L : List I5) (more : List UInt8) (hm : more.length ≤ 140737488355328) (w : World) (hw : Gp w) (h : InsAt w v L) : Calls Tryz.prog 8 #[v, .string ⟨more.toArray⟩] w fun e w' => e = .returned (.bool true) ∧ Keeps (fun _ => False) w w' := by
  have hmx : Tryz.prog.follows .mixedOrders = true := by kernel_rfl
  have HKN : Hid (∀ X, Keeps (fun _ => False) w X → Calls Tryz.prog 9 #[] X fun e w' => e = .returned (.bool true) ∧ Keeps (fun _ => False) X w') := fun X (kX : Keeps (fun _ => False) w X) => known_any X (hw.keeps kX)
  have HGP : Hid (∀ X, Keeps (fun _ => False) w X → Gp X) := fun X k => hw.keeps k
  have HI : Hid (∀ X, Keeps (fun _ => False) w X → InsAt X v L) := fun X k => h.keeps k
  have HW : Hid (∀ i ∈ L, i.wf) := h.wf
  have k0 := Keeps.refl (fun _ => False) w
  by_cases hl : 200 < L.length
  · obtain ⟨⟨a0, c0, rfl, _⟩, -, -⟩ := h
    have hli : (200 : Int) < L.length := by omega
    have KN0 := HKN.out w k0
    clear HKN HI
    go_enter Tryz.func8, Tryz.ntmps8
    go_wp2_with fail
    refine KN0.mono ?_
    rintro e X ⟨rfl, kX⟩
    go_wp2_with fail
    go_ret
    exact ⟨rfl, kX⟩
  · have hL : L.length ≤ 200 := by omega
    have hli : ¬ (200 : Int) < L.length := by omega
    have LF := lformed_any v L (by omega) w h
    obtain ⟨⟨a0, c0, rfl, _⟩, -, -⟩ := h
    cases hall : L.all formedB
    · rw [hall] at LF
      clear HI
      go_enter Tryz.func8, Tryz.ntmps8
      go_wp2_with fail
      refine LF.mono ?_
      rintro e w1 ⟨rfl, k1⟩
      have KN0 := HKN.out w1 k1
      clear LF HKN
      go_wp2_with fail
      refine KN0.mono ?_
      rintro e X ⟨rfl, kX⟩
      have kk := k1.trans kX
      go_wp2_with fail
      go_ret
      exact ⟨rfl, kk⟩
    · rw [hall] at LF
      have HFM : Hid (∀ i ∈ L, formedB i = true ∧ 0 ≤ i.n ∧ i.n < 18446744073709551616) := fun i hi => ⟨List.all_eq_true.1 hall i hi, (HW.out i hi).2.2.2.2.1, (HW.out i hi).2.2.2.2.2⟩
      have gwl : IntKind.u64.wrap (L.length : Int) = L.length := by simp [IntKind.wrap, IntKind.signed, IntKind.bits]; omega
      clear hall
      go_enter Tryz.func8, Tryz.ntmps8
      go_wp2_with fail
      refine LF.mono ?_
      rintro e w1 ⟨rfl, k1⟩
      clear LF
      go_wp2_with fail
      go_loopw [5, 6] (fun u u2 wr => ∃ (k : Nat) (T : List UInt8), u = .string ⟨T.toArray⟩ ∧ u2 = .int .i64 k ∧ k ≤ L.length ∧ Keeps (fun _ => False) w wr ∧ Hid (T = textB more L k ∧ T.length ≤ 1000 * k)) (fun _ u _ => L.length - (intOf u).toNat)
      case atStart => exact ⟨0, [], rfl, rfl, Nat.zero_le _, k1, ⟨rfl, by simp⟩⟩
      case round =>
        obtain ⟨k, T, rfl, rfl, hk, kr, hP⟩ := hrel
        by_cases hlt : k < L.length
        · obtain ⟨ga, off, cap, hv, x0, x1, x2, x3, x4⟩ := (HI.out wr kr).at k hlt
          simp only [Value.slice.injEq] at hv
          obtain ⟨rfl, -, rfl⟩ := hv
          have hki : (k : Int) < L.length := by omega
          have HNX : Hid (textB more L (k + 1) = textB more L k ++ chunkT more L.length k (L[k])) := textB_succ more hlt
          obtain ⟨hf, hn0, hn1⟩ := HFM.out (L[k]) (List.getElem_mem hlt)
          have HCL : Hid ((chunkT more L.length k (L[k])).length ≤ 1000) := chunk_len more L.length k hf hn0 hn1 (by omega)
          have HWN : Hid (numB (L[k]).op = true → ∃ W1 b, blk b = true ∧ ∀ t : List UInt8, (∀ c ∈ t, c ≠ 32) → wideF more 0 (lineL (L[k]) t) = W1 ++ [b] ++ t) := wide_num more
          have HLT : Hid (lineL (L[k]) (Lib.decDigits (L[k]).n.toNat) = textL (L[k])) := line_text hf
          have HNT : Hid (numT (L[k]) L.length = if aimE (L[k]) L.length then atL (L[k]).n.toNat else Lib.decDigits (L[k]).n.toNat) := rfl
          have HAE : Hid (aimE (L[k]) L.length = (tgtB (L[k]).op && decide ((L[k]).n ≤ (L.length : Int)) && decide ((L[k]).n % 2 = 0))) := rfl
          have TX := text_yes (L[k]) hf hn0 hn1 wr (HGP.out _ kr).gl.nms
          have tl := text_len hf hn0 hn1
          have hop := (formed_facts hf).1
          have IN := info_yes (L[k]).op hop.1 hop.2
          have DN := rdigits_any (L[k]).n.toNat (by omega)
          rw [show (((L[k]).n.toNat : Nat) : Int) = (L[k]).n by omega] at DN
          have hDn : (Lib.decDigits (L[k]).n.toNat).length ≤ 20 := by rw [Lib.decDigits_length]; exact Lib.nDigits_le20 _ (by omega)
          have hDm : Hid (∀ c ∈ Lib.decDigits (L[k]).n.toNat, 48 ≤ c.toNat ∧ c.toNat ≤ 57) := dec_mem _
          have DK := rdigits_any k (by omega)
          have hDk : (Lib.decDigits k).length ≤ 20 := by rw [Lib.decDigits_length]; exact Lib.nDigits_le20 _ (by omega)
          have gwk : IntKind.u64.wrap (k : Int) = k := by simp [IntKind.wrap, IntKind.signed, IntKind.bits]; omega
          have HC : Hid (∀ X, Keeps (fun _ => False) wr X → X.cell? ⟨ga, off + k * 5, none⟩ = some (.int .i64 (L[k]).op) ∧ X.cell? ⟨ga, off + k * 5 + 4, none⟩ = some (.int .u64 (L[k]).n)) := fun X kX => by
            obtain ⟨g', o', c', hv, q0, _, _, _, q4⟩ := (HI.out X (kr.trans kX)).at k hlt
            simp only [Value.slice.injEq, Option.some.injEq, Addr.mk.injEq, and_true, true_and] at hv
            obtain ⟨⟨rfl, rfl⟩, -⟩ := hv
            exact ⟨q0, q4⟩
          have HCH : Hid (chunkT more L.length k (L[k]) = (btw more k ++ atL k ++ 58 :: (btw more (k + 1) ++ wideF more 0 (lineL (L[k]) (numT (L[k]) L.length)) ++ btw more (k + 2))) ++ remT more.length k ++ 10 :: btw more (k + 3)) := rfl
          have HWL : Hid ((wideF more 0 (lineL (L[k]) (numT (L[k]) L.length))).length ≤ 7 * 75) := by
            have h1 := wide_len more (lineL (L[k]) (numT (L[k]) L.length)) 0
            have h2 := line_len hf L.length
            show _ ≤ _
            omega
          have BT := fun (j : Nat) (hj : j ≤ 1048576) => between_any more hm j hj
          generalize L[k]'hlt = i at *
          generalize hTX : textL i = T1 at *
          obtain ⟨op, a, b, c, N⟩ := i
          dsimp only at x0 x1 x2 x3 x4 hn0 hn1 HC IN DN TX hop HWN HLT HNT HAE hDm HCH hDn
          generalize hDD : Lib.decDigits N.toNat = DD at *
          have hT := hP.out.2
          go_wp2_with fail
          refine TX.mono ?_
          rintro e X ⟨rfl, kX⟩
          have kX2 : Keeps (fun _ => False) wr X := kX
          clear TX kX
          have hsz : (⟨T1.toArray⟩ : ByteArray).size = T1.length := by simp [ByteArray.size]
          go_wp2_with fail
          go_loopw [9, 10] (fun u u2 wq => ∃ (q : Nat) (W : List UInt8), u = .string ⟨W.toArray⟩ ∧ u2 = .int .i64 q ∧ q ≤ T1.length ∧ wq = X ∧ Hid (W = wideF more 0 (T1.take q) ∧ W.length ≤ 7 * q)) (fun _ u _ => T1.length - (intOf u).toNat)
          case atStart => exact ⟨0, [], rfl, rfl, Nat.zero_le _, rfl, ⟨by simp [wideF], by simp⟩⟩
          case round =>
            obtain ⟨q, W, rfl, rfl, hq, rfl, hW⟩ := hrel
            by_cases hqt : q < T1.length
            · have hqi : (q : Int) < T1.length := by omega
              have hs : q < (⟨T1.toArray⟩ : ByteArray).size := by rw [hsz]; exact hqt
              have hat : ((⟨T1.toArray⟩ : ByteArray)[q]'hs).toNat = (T1[q]).toNat := rfl
              have hcut : (⟨T1.toArray⟩ : ByteArray).extract q (q + 1) = ⟨[T1[q]].toArray⟩ := by
                rw [cut_str]
                congr 2
                rw [show q + 1 - q = 1 by omega, List.drop_eq_getElem_cons hqt]
                rfl
              have hWl := hW.out.2
              have HST : Hid (wideF more 0 (T1.take (q + 1)) = W ++ (T1[q] :: if T1[q] = 32 then btw more q else [])) := by
                show _ = _
                rw [wideF_take more T1 hqt, hW.out.1]
              have hbl := btw_len more q
              have BQ := BT q (by omega)
              by_cases hc : T1[q] = 32
              · rw [if_pos hc] at HST
                rw [hc, show (32 : UInt8).toNat = 32 from rfl] at hat
                rw [hc] at hcut
                rw [hc] at HST
                generalize btw more q = B at *
                obtain ⟨Y1, s1, e1, l1⟩ := cat_ex W [32]
                obtain ⟨Y2, s2, e2, l2⟩ := cat_ex Y1 B
                simp only [List.length_cons, List.length_nil] at l1
                have t1 : ¬ 9223372036854775807 < W.length + 1 := by omega
                have t2 : ¬ 9223372036854775807 < Y1.length + B.length := by omega
                have fin : Hid (Y2 = wideF more 0 (T1.take (q + 1)) ∧ Y2.length ≤ 7 * (q + 1)) := ⟨by rw [HST.out, e2.out, e1.out]; simp, by omega⟩
                clear hW HST HCH
                go_wp2_with fail
                refine (BQ _).mono ?_
                rintro e X' ⟨rfl, hX'⟩
                replace hX' := hX'.symm
                subst hX'
                clear BQ
                go_wp2_with fail
                go_roundw
                · exact ⟨q + 1, Y2, by first | rfl | simp, by simp, by omega, by first | rfl | trivial, fin⟩
                · simp [intOf]; omega
              · rw [if_neg hc] at HST
                have hcn : (T1[q]).toNat ≠ 32 := fun h => hc (UInt8.toNat.inj (by rw [h]; rfl))
                obtain ⟨Y1, s1, e1, l1⟩ := cat_ex W [T1[q]]
                simp only [List.length_cons, List.length_nil] at l1
                have t1 : ¬ 9223372036854775807 < W.length + 1 := by omega
                have fin : Hid (Y1 = wideF more 0 (T1.take (q + 1)) ∧ Y1.length ≤ 7 * (q + 1)) := ⟨by rw [HST.out, e1.out], by omega⟩
                generalize T1[q] = tc at *
                generalize htc : tc.toNat = x at *
                have hbe : ((x : Int) == 32) = false := by simp; omega
                clear hW HST HCH BQ
                go_wp2_with fail
                go_roundw
                · exact ⟨q + 1, Y1, by first | rfl | simp, by simp, by omega, by first | rfl | trivial, fin⟩
                · simp [intOf]; omega
            · have hqi : ¬ (q : Int) < T1.length := by omega
              obtain rfl : q = T1.length := by omega
              have HWE : Hid (W = wideF more 0 T1) := by
                have := hW.out.1
                rw [List.take_length] at this
                exact this
              have hWl : W.length ≤ 7 * 73 := by have := hW.out.2; omega
              have hc4 := HC.out _ kX2
              clear hW
              generalize hrn : regsN op = rn at *
              generalize hnb : numB op = nb at *
              generalize htb : tgtB op = tb at *
              generalize outB op = ob at *
              generalize insB op = ib at *
              obtain ⟨hc0, -⟩ := hc4
              go_wp2_with fail
              refine (IN _).mono ?_
              rintro e X1 ⟨rfl, k1'⟩
              have kW := (kX2.trans k1').alloc (.cells #[.int .i64 (rn : Int), .bool nb, .bool tb, .bool ob, .bool ib] 63)
              have y2 : (X1.alloc (.cells #[.int .i64 (rn : Int), .bool nb, .bool tb, .bool ob, .bool ib] 63)).cell? ⟨X1.heap.size, 2, none⟩ = some (.bool tb) := cell_of_block (alloc_block _ _) 2
              have y4 := (HC.out _ kW).2
              clear IN hc0
              have hWl2 : W.length ≤ 525 := by omega
              cases tb
              · have hae : aimE ⟨op, a, b, c, N⟩ L.length = false := by rw [HAE.out]; simp
                have HWW : Hid (W = wideF more 0 (lineL ⟨op, a, b, c, N⟩ (numT ⟨op, a, b, c, N⟩ L.length))) := by
                  unfold Hid
                  rw [HNT.out, hae, if_neg (by decide), HLT.out]
                  exact HWE.out
                obtain ⟨WW, hWWe⟩ : ∃ WW, WW = W := ⟨_, rfl⟩
                rw [← hWWe] at HWW hWl ⊢
                clear hWWe hae HWE DN
                have kT := kW

                have BK0 := BT k (by omega)
                have BK1 := BT (k + 1) (by omega)
                have BK2 := BT (k + 2) (by omega)
                have BK3 := BT (k + 3) (by omega)
                rw [show ((k + 1 : Nat) : Int) = (k : Int) + 1 by simp] at BK1
                rw [show ((k + 2 : Nat) : Int) = (k : Int) + 2 by simp] at BK2
                rw [show ((k + 3 : Nat) : Int) = (k : Int) + 3 by simp] at BK3
                have lb0 := btw_len more k
                have lb1 := btw_len more (k + 1)
                have lb2 := btw_len more (k + 2)
                have lb3 := btw_len more (k + 3)
                have HAT : Hid (atL k = 97 :: 116 :: Lib.decDigits k) := rfl
                have HRM : Hid (remT more.length k = if (k + more.length) % 3 = 0 then [59, 98, 101, 103, 105, 110, 32, 58, 32, 120, 58, 10, 59, 59, 10] else []) := rfl
                generalize btw more k = B0 at *
                generalize btw more (k + 1) = B1 at *
                generalize btw more (k + 2) = B2 at *
                generalize btw more (k + 3) = B3 at *
                generalize Lib.decDigits k = DKK at *
                have g3 : ((k : Int) + (more.length : Int)).tmod 3 = (((k + more.length) % 3 : Nat) : Int) := by rw [Int.tmod_eq_emod_of_nonneg (by omega)]; omega
                generalize (k + more.length) % 3 = m3 at *
                obtain ⟨Z1, s1, e1, l1⟩ := cat_ex T B0
                obtain ⟨Z2, s2, e2, l2⟩ := cat_ex Z1 [97, 116]
                obtain ⟨Z3, s3, e3, l3⟩ := cat_ex Z2 DKK
                obtain ⟨Z4, s4, e4, l4⟩ := cat_ex Z3 [58]
                obtain ⟨Z5, s5, e5, l5⟩ := cat_ex Z4 B1
                obtain ⟨Z6, s6, e6, l6⟩ := cat_ex Z5 WW
                obtain ⟨Z7, s7, e7, l7⟩ := cat_ex Z6 B2
                simp only [List.length_cons, List.length_nil] at l2 l4
                have t1 : ¬ 9223372036854775807 < T.length + B0.length := by omega
                have t2 : ¬ 9223372036854775807 < Z1.length + 2 := by omega
                have t3 : ¬ 9223372036854775807 < Z2.length + DKK.length := by omega
                have t4 : ¬ 9223372036854775807 < Z3.length + 1 := by omega
                have t5 : ¬ 9223372036854775807 < Z4.length + B1.length := by omega
                have t6 : ¬ 9223372036854775807 < Z5.length + WW.length := by omega
                have t7 : ¬ 9223372036854775807 < Z6.length + B2.length := by omega
                have HTT : Hid (T = textB more L k ∧ T.length ≤ 1000 * k) := hP
                clear hP HWN HLT HNT HAE hDm HC HI
                go_wp2_with fail
                refine (BK0 _).mono ?_
                rintro e XA ⟨rfl, hXA⟩
                replace hXA := hXA.symm
                subst hXA
                clear BK0
                go_wp2_with fail
                refine (DK _).mono ?_
                rintro e XD ⟨rfl, kXD⟩
                have kkD := kT.trans kXD
                clear DK
                go_wp2_with fail
                refine (BK1 _).mono ?_
                rintro e XA ⟨rfl, hXA⟩
                replace hXA := hXA.symm
                subst hXA
                clear BK1
                go_wp2_with fail
                refine (BK2 _).mono ?_
                rintro e XA ⟨rfl, hXA⟩
                replace hXA := hXA.symm
                subst hXA
                clear BK2
                by_cases hm3 : m3 = 0
                · subst hm3
                  obtain ⟨Z8, s8, e8, l8⟩ := cat_ex Z7 [59]
                  obtain ⟨Z9, s9, e9, l9⟩ := cat_ex Z8 [98, 101, 103, 105, 110, 32, 58, 32, 120, 58]
                  obtain ⟨ZA, sA, eA, lA⟩ := cat_ex Z9 [10, 59, 59, 10]
                  obtain ⟨ZB, sB, eB, lB⟩ := cat_ex ZA [10]
                  obtain ⟨ZC, sC, eC, lC⟩ := cat_ex ZB B3
                  simp only [List.length_cons, List.length_nil] at l8 l9 lA lB
                  have t8 : ¬ 9223372036854775807 < Z7.length + 1 := by omega
                  have t9 : ¬ 9223372036854775807 < Z8.length + 10 := by omega
                  have tA : ¬ 9223372036854775807 < Z9.length + 4 := by omega
                  have tB : ¬ 9223372036854775807 < ZA.length + 1 := by omega
                  have tC : ¬ 9223372036854775807 < ZB.length + B3.length := by omega
                  have hfe : ZC = textB more L (k + 1) := by
                    rw [HNX.out, ← HTT.out.1, HCH.out, ← HWW.out, HRM.out, HAT.out, if_pos rfl, eC.out, eB.out, eA.out, e9.out, e8.out, e7.out, e6.out, e5.out, e4.out, e3.out, e2.out, e1.out]
                    simp
                  have fin : Hid (ZC = textB more L (k + 1) ∧ ZC.length ≤ 1000 * (k + 1)) := ⟨hfe, by
                    rw [hfe, HNX.out, List.length_append, ← HTT.out.1]
                    have := HCL.out
                    omega⟩
                  have kFin : Keeps (fun _ => False) w XD := kr.trans kkD
                  clear HTT HCH HWW HRM HAT HNX hfe
                  go_wp2_with fail
                  refine (BK3 _).mono ?_
                  rintro e XA ⟨rfl, hXA⟩
                  replace hXA := hXA.symm
                  subst hXA
                  clear BK3
                  go_wp2_with fail
                  go_roundw
                  · exact ⟨k + 1, ZC, by first | rfl | simp, by simp, by omega, kFin, fin⟩
                  · simp [intOf]; omega
                · have hm3' : ((m3 : Int) == 0) = false := by simp; omega
                  obtain ⟨ZB, sB, eB, lB⟩ := cat_ex Z7 [10]
                  obtain ⟨ZC, sC, eC, lC⟩ := cat_ex ZB B3
                  simp only [List.length_cons, List.length_nil] at lB
                  have tB : ¬ 9223372036854775807 < Z7.length + 1 := by omega
                  have tC : ¬ 9223372036854775807 < ZB.length + B3.length := by omega
                  have hfe : ZC = textB more L (k + 1) := by
                    rw [HNX.out, ← HTT.out.1, HCH.out, ← HWW.out, HRM.out, HAT.out, if_neg hm3, eC.out, eB.out, e7.out, e6.out, e5.out, e4.out, e3.out, e2.out, e1.out]
                    simp
                  have fin : Hid (ZC = textB more L (k + 1) ∧ ZC.length ≤ 1000 * (k + 1)) := ⟨hfe, by
                    rw [hfe, HNX.out, List.length_append, ← HTT.out.1]
                    have := HCL.out
                    omega⟩
                  have kFin : Keeps (fun _ => False) w XD := kr.trans kkD
                  clear HTT HCH HWW HRM HAT HNX hfe
                  go_wp2_with fail
                  refine (BK3 _).mono ?_
                  rintro e XA ⟨rfl, hXA⟩
                  replace hXA := hXA.symm
                  subst hXA
                  clear BK3
                  go_wp2_with fail
                  go_roundw
                  · exact ⟨k + 1, ZC, by first | rfl | simp, by simp, by omega, kFin, fin⟩
                  · simp [intOf]; omega
              · by_cases hle : N ≤ (L.length : Int)
                · have hmod : N.tmod 2 = N % 2 := Int.tmod_eq_emod_of_nonneg hn0
                  have hm2 : N % 2 = 0 ∨ N % 2 = 1 := by omega
                  obtain ⟨M2, hM2⟩ : ∃ M2, M2 = N % 2 := ⟨_, rfl⟩
                  rw [← hM2] at hmod hm2 HAE
                  clear hM2
                  rcases hm2 with rfl | rfl
                  · have hae : aimE ⟨op, a, b, c, N⟩ L.length = true := by rw [HAE.out]; simp [hle]
                    obtain ⟨W1, bb, hbb, hWn⟩ := HWN.out (by rw [← hnb]; exact tgt_num htb)
                    have hW1 := hWn DD (fun c hc => by have := hDm.out c hc; rintro rfl; simp at this)
                    have hW2 := hWn (atL N.toNat) (fun c hc => by
                      have := okC_facts ((at_ok N.toNat).2 c hc)
                      exact this.2.2.2.2)
                    have hWe : W = W1 ++ [bb] ++ DD := by rw [HWE.out, ← HLT.out]; exact hW1
                    have HWN2 : Hid (wideF more 0 (lineL ⟨op, a, b, c, N⟩ (numT ⟨op, a, b, c, N⟩ L.length)) = W1 ++ [bb] ++ atL N.toNat) := by
                      unfold Hid
                      rw [HNT.out, hae, if_pos rfl]
                      exact hW2
                    have HAN : Hid (atL N.toNat = 97 :: 116 :: DD) := by unfold Hid atL; rw [hDD]
                    have hlen : W.length = W1.length + 1 + DD.length := by rw [hWe]; simp; omega
                    have hszW : (⟨W.toArray⟩ : ByteArray).size = W.length := by simp [ByteArray.size]
                    have hbx : bb.toNat < 48 := by
                      simp only [blk, Bool.or_eq_true, beq_iff_eq] at hbb
                      rcases hbb with h | h <;> rw [h] <;> decide
                    have HBY : Hid (∀ m (hm : m < W.length), W1.length < m → 48 ≤ (W[m]).toNat ∧ (W[m]).toNat ≤ 57) := fun m hm h1 => by
                      have : W[m] ∈ DD := by
                        have hq : W[m] = DD[m - (W1.length + 1)]'(by omega) := by
                          simp only [hWe]
                          rw [List.getElem_append_right (by simp; omega)]
                          simp
                        rw [hq]
                        exact List.getElem_mem _
                      exact hDm.out _ this
                    have HBL : Hid (∀ (hm : W1.length < W.length), W[W1.length] = bb) := fun hm => by
                      simp only [hWe]
                      rw [List.getElem_append_left (by simp), List.getElem_append_right (by simp)]
                      simp
                    have hcut : (⟨W.toArray⟩ : ByteArray).extract 0 (W1.length + 1) = ⟨(W1 ++ [bb]).toArray⟩ := by
                      rw [cut_str]
                      congr 2
                      rw [List.drop_zero, Nat.sub_zero, hWe, List.take_append_of_le_length (by simp), List.take_of_length_le (by simp)]
                    have hLi : (W.length : Int) = ((W1.length + DD.length : Nat) : Int) + 1 := by omega
                    clear hWe hW1 hW2 hWn hae HWN
                    obtain ⟨XF, hXF⟩ : ∃ XF, XF = X1.alloc (.cells #[.int .i64 (rn : Int), .bool nb, .bool true, .bool ob, .bool ib] 63) := ⟨_, rfl⟩
                    go_wp2_with fail
                    rw [← hXF] at kW y4 ⊢
                    clear hXF y2
                    go_loopw [13] (fun u wq => ∃ m : Nat, u = .int .i64 ((m : Int) + 1) ∧ W1.length ≤ m ∧ m ≤ W1.length + DD.length ∧ wq = XF) (fun u _ => (intOf u).toNat)
                    case atStart => exact ⟨W1.length + DD.length, by congr 1; omega, by omega, by omega, rfl⟩
                    case round =>
                      obtain ⟨m, rfl, hm1, hm2, rfl⟩ := hrel
                      have hm0 : (0 : Int) < (m : Int) + 1 := by omega
                      have hmW : m < W.length := by omega
                      have hmi : (m : Int) < W.length := by omega
                      have hs : m < (⟨W.toArray⟩ : ByteArray).size := by rw [hszW]; exact hmW
                      have hat : ((⟨W.toArray⟩ : ByteArray)[m]'hs).toNat = (W[m]).toNat := rfl
                      by_cases hme : m = W1.length
                      · subst hme
                        rw [HBL.out hmW] at hat
                        generalize bb.toNat = bx at *
                        have hb48 : ¬ (48 : Int) ≤ bx := by omega
                        have hmle : (W1.length : Int) + 1 ≤ W.length := by omega
                        have hng : ¬ (W1.length : Int) + 1 < 0 := by omega
                        have hDl : DD.length ≤ 20 := hDn
                        obtain ⟨Y1, s1, e1, l1⟩ := cat_ex (W1 ++ [bb]) [97, 116]
                        obtain ⟨Y2, s2, e2, l2⟩ := cat_ex Y1 DD
                        simp only [List.length_append, List.length_cons, List.length_nil] at l1
                        have t1 : ¬ 9223372036854775807 < (W1 ++ [bb]).length + 2 := by simp only [List.length_append, List.length_cons, List.length_nil]; omega
                        have t2 : ¬ 9223372036854775807 < Y1.length + DD.length := by omega
                        have HWW : Hid (Y2 = wideF more 0 (lineL ⟨op, a, b, c, N⟩ (numT ⟨op, a, b, c, N⟩ L.length))) := by
                          unfold Hid
                          rw [HWN2.out, HAN.out, e2.out, e1.out]
                          simp
                        have hY2 : Y2.length ≤ 525 := by omega
                        have y4d : wr.drew.cell? ⟨ga, off + k * 5 + 4, none⟩ = some (.int .u64 N) := y4
                        have kWd : Keeps (fun _ => False) _ wr.drew := kW.drewN 1
                        clear HBY HBL hlen HWN2 HAN HWE hLi
                        generalize hW1b : W1 ++ [bb] = W1b at *
                        go_wp2_with fail
                        refine wp_held_end (S := (fun X : World => X.cell? ⟨ga, off + k * 5 + 4, none⟩ = some (.int .u64 N))) 12 rfl hmx ?_
                        generalize wr.drew = wd at *
                        simp only [Array.replicate_succ, Array.replicate_zero, List.push_toArray, List.nil_append, List.cons_append]
                        refine held_take (i := 0) (v := .string ⟨W.toArray⟩) 118 rfl rfl (by kernel_rfl) (by kernel_rfl) (by kernel_rfl) rfl (fun w' hw' => by go_simp) y4d ?_
                        simp only [Act.put, List.setIfInBounds_toArray, List.set_cons_zero, List.set_cons_succ]
                        refine held_take (i := 1) (v := .int .i64 ((W1.length : Int) + 1)) 119 rfl rfl (by kernel_rfl) (by kernel_rfl) (by kernel_rfl) rfl (fun w' hw' => by go_simp) y4d ?_
                        simp only [Act.put, List.setIfInBounds_toArray, List.set_cons_zero, List.set_cons_succ]
                        refine held_take (i := 2) (v := .string ⟨W1b.toArray⟩) 120 rfl rfl (by kernel_rfl) (by kernel_rfl) (by kernel_rfl) rfl (fun w' hw' => by go_simp) y4d ?_
                        simp only [Act.put, List.setIfInBounds_toArray, List.set_cons_zero, List.set_cons_succ]
                        refine held_take (i := 3) (v := .string ⟨Y1.toArray⟩) 121 rfl rfl (by kernel_rfl) (by kernel_rfl) (by kernel_rfl) rfl (fun w' hw' => by go_simp) y4d ?_
                        simp only [Act.put, List.setIfInBounds_toArray, List.set_cons_zero, List.set_cons_succ]
                        refine held_take (i := 4) (v := .slice (some ⟨ga, off, none⟩) L.length c0) 122 rfl rfl (by kernel_rfl) (by kernel_rfl) (by kernel_rfl) rfl (fun w' hw' => by go_simp) y4d ?_
                        simp only [Act.put, List.setIfInBounds_toArray, List.set_cons_zero, List.set_cons_succ]
                        refine held_take (i := 5) (v := .int .i64 (k : Int)) 123 rfl rfl (by kernel_rfl) (by kernel_rfl) (by kernel_rfl) rfl (fun w' hw' => by go_simp) y4d ?_
                        simp only [Act.put, List.setIfInBounds_toArray, List.set_cons_zero, List.set_cons_succ]
                        refine held_take (i := 6) (v := .pointer (some ⟨ga, off + k * 5, none⟩)) 124 rfl rfl (by kernel_rfl) (by kernel_rfl) (by kernel_rfl) rfl (fun w' hw' => by go_simp) y4d ?_
                        simp only [Act.put, List.setIfInBounds_toArray, List.set_cons_zero, List.set_cons_succ]
                        refine held_take (i := 7) (v := .pointer (some ⟨ga, off + k * 5 + 4, none⟩)) 125 rfl rfl (by kernel_rfl) (by kernel_rfl) (by kernel_rfl) rfl (fun w' hw' => by go_simp) y4d ?_
                        simp only [Act.put, List.setIfInBounds_toArray, List.set_cons_zero, List.set_cons_succ]
                        refine held_take (i := 8) (v := .int .u64 N) 126 rfl rfl (by kernel_rfl) (by kernel_rfl) (by kernel_rfl) rfl (fun w' hw' => by go_simp) y4d ?_
                        simp only [Act.put, List.setIfInBounds_toArray, List.set_cons_zero, List.set_cons_succ]
                        refine held_call (i := 9) 127 (by kernel_rfl) rfl rfl rfl (by go_simp) ((DN _).mono ?_)
                        rintro e V1 ⟨rfl, kv1⟩
                        have y5 : V1.cell? ⟨ga, off + k * 5 + 4, none⟩ = some (.int .u64 N) := cell_keeps2 kv1 y4d
                        refine ⟨_, rfl, y5, ?_⟩
                        simp only [Act.put, List.setIfInBounds_toArray, List.set_cons_zero, List.set_cons_succ]
                        refine held_val (i := 10) (v := .string ⟨Y2.toArray⟩) (w' := V1) (some 128) (by kernel_rfl) rfl rfl rfl (by go_simp) y5 ?_
                        simp only [Act.put, List.setIfInBounds_toArray, List.set_cons_zero, List.set_cons_succ]
                        refine held_val (i := 11) (v := .string ⟨Y2.toArray⟩) (w' := V1) (some 9) (by kernel_rfl) rfl rfl rfl (by go_simp) y5 ?_
                        simp only [Act.put, List.setIfInBounds_toArray, List.set_cons_zero, List.set_cons_succ]
                        refine held_end (by kernel_rfl) ?_ _
                        have kT := kWd.trans kv1
                        clear y4d y5 kWd kv1 DN s1 s2 t1 t2 e1 e2 l1 l2 hat hcut
                        obtain ⟨WW, hWWe⟩ : ∃ WW, WW = Y2 := ⟨_, rfl⟩
                        rw [← hWWe] at HWW hY2 ⊢
                        clear hWWe
                        have BK0 := BT k (by omega)
                        have BK1 := BT (k + 1) (by omega)
                        have BK2 := BT (k + 2) (by omega)
                        have BK3 := BT (k + 3) (by omega)
                        rw [show ((k + 1 : Nat) : Int) = (k : Int) + 1 by simp] at BK1
                        rw [show ((k + 2 : Nat) : Int) = (k : Int) + 2 by simp] at BK2
                        rw [show ((k + 3 : Nat) : Int) = (k : Int) + 3 by simp] at BK3
                        have lb0 := btw_len more k
                        have lb1 := btw_len more (k + 1)
                        have lb2 := btw_len more (k + 2)
                        have lb3 := btw_len more (k + 3)
                        have HAT : Hid (atL k = 97 :: 116 :: Lib.decDigits k) := rfl
                        have HRM : Hid (remT more.length k = if (k + more.length) % 3 = 0 then [59, 98, 101, 103, 105, 110, 32, 58, 32, 120, 58, 10, 59, 59, 10] else []) := rfl
                        generalize btw more k = B0 at *
                        generalize btw more (k + 1) = B1 at *
                        generalize btw more (k + 2) = B2 at *
                        generalize btw more (k + 3) = B3 at *
                        generalize Lib.decDigits k = DKK at *
                        have g3 : ((k : Int) + (more.length : Int)).tmod 3 = (((k + more.length) % 3 : Nat) : Int) := by rw [Int.tmod_eq_emod_of_nonneg (by omega)]; omega
                        generalize (k + more.length) % 3 = m3 at *
                        obtain ⟨Z1, s1, e1, l1⟩ := cat_ex T B0
                        obtain ⟨Z2, s2, e2, l2⟩ := cat_ex Z1 [97, 116]
                        obtain ⟨Z3, s3, e3, l3⟩ := cat_ex Z2 DKK
                        obtain ⟨Z4, s4, e4, l4⟩ := cat_ex Z3 [58]
                        obtain ⟨Z5, s5, e5, l5⟩ := cat_ex Z4 B1
                        obtain ⟨Z6, s6, e6, l6⟩ := cat_ex Z5 WW
                        obtain ⟨Z7, s7, e7, l7⟩ := cat_ex Z6 B2
                        simp only [List.length_cons, List.length_nil] at l2 l4
                        have t1 : ¬ 9223372036854775807 < T.length + B0.length := by omega
                        have t2 : ¬ 9223372036854775807 < Z1.length + 2 := by omega
                        have t3 : ¬ 9223372036854775807 < Z2.length + DKK.length := by omega
                        have t4 : ¬ 9223372036854775807 < Z3.length + 1 := by omega
                        have t5 : ¬ 9223372036854775807 < Z4.length + B1.length := by omega
                        have t6 : ¬ 9223372036854775807 < Z5.length + WW.length := by omega
                        have t7 : ¬ 9223372036854775807 < Z6.length + B2.length := by omega
                        have HTT : Hid (T = textB more L k ∧ T.length ≤ 1000 * k) := hP
                        clear hP HLT HNT HAE hDm HC HI
                        go_wp2_with fail
                        refine (BK0 _).mono ?_
                        rintro e XA ⟨rfl, hXA⟩
                        replace hXA := hXA.symm
                        subst hXA
                        clear BK0
                        go_wp2_with fail
                        refine (DK _).mono ?_
                        rintro e XD ⟨rfl, kXD⟩
                        have kkD := kT.trans kXD
                        clear DK
                        go_wp2_with fail
                        refine (BK1 _).mono ?_
                        rintro e XA ⟨rfl, hXA⟩
                        replace hXA := hXA.symm
                        subst hXA
                        clear BK1
                        go_wp2_with fail
                        refine (BK2 _).mono ?_
                        rintro e XA ⟨rfl, hXA⟩
                        replace hXA := hXA.symm
                        subst hXA
                        clear BK2
                        by_cases hm3 : m3 = 0
                        · subst hm3
                          obtain ⟨Z8, s8, e8, l8⟩ := cat_ex Z7 [59]
                          obtain ⟨Z9, s9, e9, l9⟩ := cat_ex Z8 [98, 101, 103, 105, 110, 32, 58, 32, 120, 58]
                          obtain ⟨ZA, sA, eA, lA⟩ := cat_ex Z9 [10, 59, 59, 10]
                          obtain ⟨ZB, sB, eB, lB⟩ := cat_ex ZA [10]
                          obtain ⟨ZC, sC, eC, lC⟩ := cat_ex ZB B3
                          simp only [List.length_cons, List.length_nil] at l8 l9 lA lB
                          have t8 : ¬ 9223372036854775807 < Z7.length + 1 := by omega
                          have t9 : ¬ 9223372036854775807 < Z8.length + 10 := by omega
                          have tA : ¬ 9223372036854775807 < Z9.length + 4 := by omega
                          have tB : ¬ 9223372036854775807 < ZA.length + 1 := by omega
                          have tC : ¬ 9223372036854775807 < ZB.length + B3.length := by omega
                          have hfe : ZC = textB more L (k + 1) := by
                            rw [HNX.out, ← HTT.out.1, HCH.out, ← HWW.out, HRM.out, HAT.out, if_pos rfl, eC.out, eB.out, eA.out, e9.out, e8.out, e7.out, e6.out, e5.out, e4.out, e3.out, e2.out, e1.out]
                            simp
                          have fin : Hid (ZC = textB more L (k + 1) ∧ ZC.length ≤ 1000 * (k + 1)) := ⟨hfe, by
                            rw [hfe, HNX.out, List.length_append, ← HTT.out.1]
                            have := HCL.out
                            omega⟩
                          have kFin : Keeps (fun _ => False) w XD := kr.trans kkD
                          clear HTT HCH HWW HRM HAT HNX hfe
                          go_wp2_with fail
                          refine (BK3 _).mono ?_
                          rintro e XA ⟨rfl, hXA⟩
                          replace hXA := hXA.symm
                          subst hXA
                          clear BK3
                          go_wp2_with fail
                          go_roundw
                          · exact ⟨k + 1, ZC, by first | rfl | simp, by simp, by omega, kFin, fin⟩
                          · simp [intOf]; omega
                        · have hm3' : ((m3 : Int) == 0) = false := by simp; omega
                          obtain ⟨ZB, sB, eB, lB⟩ := cat_ex Z7 [10]
                          obtain ⟨ZC, sC, eC, lC⟩ := cat_ex ZB B3
                          simp only [List.length_cons, List.length_nil] at lB
                          have tB : ¬ 9223372036854775807 < Z7.length + 1 := by omega
                          have tC : ¬ 9223372036854775807 < ZB.length + B3.length := by omega
                          have hfe : ZC = textB more L (k + 1) := by
                            rw [HNX.out, ← HTT.out.1, HCH.out, ← HWW.out, HRM.out, HAT.out, if_neg hm3, eC.out, eB.out, e7.out, e6.out, e5.out, e4.out, e3.out, e2.out, e1.out]
                            simp
                          have fin : Hid (ZC = textB more L (k + 1) ∧ ZC.length ≤ 1000 * (k + 1)) := ⟨hfe, by
                            rw [hfe, HNX.out, List.length_append, ← HTT.out.1]
                            have := HCL.out
                            omega⟩
                          have kFin : Keeps (fun _ => False) w XD := kr.trans kkD
                          clear HTT HCH HWW HRM HAT HNX hfe
                          go_wp2_with fail
                          refine (BK3 _).mono ?_
                          rintro e XA ⟨rfl, hXA⟩
                          replace hXA := hXA.symm
                          subst hXA
                          clear BK3
                          go_wp2_with fail
                          go_roundw
                          · exact ⟨k + 1, ZC, by first | rfl | simp, by simp, by omega, kFin, fin⟩
                          · simp [intOf]; omega
                      · have hm1' : W1.length < m := by omega
                        obtain ⟨d1, d2⟩ := HBY.out m hmW hm1'
                        generalize (W[m]).toNat = d at *
                        have g1 : (48 : Int) ≤ d := by omega
                        have g2 : (d : Int) ≤ 57 := by omega
                        clear HBY HBL
                        go_wp2_with fail
                        go_roundw
                        · exact ⟨m - 1, by congr 1; omega, by omega, by omega, by first | rfl | trivial⟩
                        · first | (simp [intOf]; omega) | simp [intOf]
                  · have hae : aimE ⟨op, a, b, c, N⟩ L.length = false := by rw [HAE.out]; simp
                    have HWW : Hid (W = wideF more 0 (lineL ⟨op, a, b, c, N⟩ (numT ⟨op, a, b, c, N⟩ L.length))) := by
                      unfold Hid
                      rw [HNT.out, hae, if_neg (by decide), HLT.out]
                      exact HWE.out
                    obtain ⟨WW, hWWe⟩ : ∃ WW, WW = W := ⟨_, rfl⟩
                    rw [← hWWe] at HWW hWl ⊢
                    clear hWWe hae HWE DN
                    have kT := kW

                    have BK0 := BT k (by omega)
                    have BK1 := BT (k + 1) (by omega)
                    have BK2 := BT (k + 2) (by omega)
                    have BK3 := BT (k + 3) (by omega)
                    rw [show ((k + 1 : Nat) : Int) = (k : Int) + 1 by simp] at BK1
                    rw [show ((k + 2 : Nat) : Int) = (k : Int) + 2 by simp] at BK2
                    rw [show ((k + 3 : Nat) : Int) = (k : Int) + 3 by simp] at BK3
                    have lb0 := btw_len more k
                    have lb1 := btw_len more (k + 1)
                    have lb2 := btw_len more (k + 2)
                    have lb3 := btw_len more (k + 3)
                    have HAT : Hid (atL k = 97 :: 116 :: Lib.decDigits k) := rfl
                    have HRM : Hid (remT more.length k = if (k + more.length) % 3 = 0 then [59, 98, 101, 103, 105, 110, 32, 58, 32, 120, 58, 10, 59, 59, 10] else []) := rfl
                    generalize btw more k = B0 at *
                    generalize btw more (k + 1) = B1 at *
                    generalize btw more (k + 2) = B2 at *
                    generalize btw more (k + 3) = B3 at *
                    generalize Lib.decDigits k = DKK at *
                    have g3 : ((k : Int) + (more.length : Int)).tmod 3 = (((k + more.length) % 3 : Nat) : Int) := by rw [Int.tmod_eq_emod_of_nonneg (by omega)]; omega
                    generalize (k + more.length) % 3 = m3 at *
                    obtain ⟨Z1, s1, e1, l1⟩ := cat_ex T B0
                    obtain ⟨Z2, s2, e2, l2⟩ := cat_ex Z1 [97, 116]
                    obtain ⟨Z3, s3, e3, l3⟩ := cat_ex Z2 DKK
                    obtain ⟨Z4, s4, e4, l4⟩ := cat_ex Z3 [58]
                    obtain ⟨Z5, s5, e5, l5⟩ := cat_ex Z4 B1
                    obtain ⟨Z6, s6, e6, l6⟩ := cat_ex Z5 WW
                    obtain ⟨Z7, s7, e7, l7⟩ := cat_ex Z6 B2
                    simp only [List.length_cons, List.length_nil] at l2 l4
                    have t1 : ¬ 9223372036854775807 < T.length + B0.length := by omega
                    have t2 : ¬ 9223372036854775807 < Z1.length + 2 := by omega
                    have t3 : ¬ 9223372036854775807 < Z2.length + DKK.length := by omega
                    have t4 : ¬ 9223372036854775807 < Z3.length + 1 := by omega
                    have t5 : ¬ 9223372036854775807 < Z4.length + B1.length := by omega
                    have t6 : ¬ 9223372036854775807 < Z5.length + WW.length := by omega
                    have t7 : ¬ 9223372036854775807 < Z6.length + B2.length := by omega
                    have HTT : Hid (T = textB more L k ∧ T.length ≤ 1000 * k) := hP
                    clear hP HWN HLT HNT HAE hDm HC HI
                    go_wp2_with fail
                    refine (BK0 _).mono ?_
                    rintro e XA ⟨rfl, hXA⟩
                    replace hXA := hXA.symm
                    subst hXA
                    clear BK0
                    go_wp2_with fail
                    refine (DK _).mono ?_
                    rintro e XD ⟨rfl, kXD⟩
                    have kkD := kT.trans kXD
                    clear DK
                    go_wp2_with fail
                    refine (BK1 _).mono ?_
                    rintro e XA ⟨rfl, hXA⟩
                    replace hXA := hXA.symm
                    subst hXA
                    clear BK1
                    go_wp2_with fail
                    refine (BK2 _).mono ?_
                    rintro e XA ⟨rfl, hXA⟩
                    replace hXA := hXA.symm
                    subst hXA
                    clear BK2
                    by_cases hm3 : m3 = 0
                    · subst hm3
                      obtain ⟨Z8, s8, e8, l8⟩ := cat_ex Z7 [59]
                      obtain ⟨Z9, s9, e9, l9⟩ := cat_ex Z8 [98, 101, 103, 105, 110, 32, 58, 32, 120, 58]
                      obtain ⟨ZA, sA, eA, lA⟩ := cat_ex Z9 [10, 59, 59, 10]
                      obtain ⟨ZB, sB, eB, lB⟩ := cat_ex ZA [10]
                      obtain ⟨ZC, sC, eC, lC⟩ := cat_ex ZB B3
                      simp only [List.length_cons, List.length_nil] at l8 l9 lA lB
                      have t8 : ¬ 9223372036854775807 < Z7.length + 1 := by omega
                      have t9 : ¬ 9223372036854775807 < Z8.length + 10 := by omega
                      have tA : ¬ 9223372036854775807 < Z9.length + 4 := by omega
                      have tB : ¬ 9223372036854775807 < ZA.length + 1 := by omega
                      have tC : ¬ 9223372036854775807 < ZB.length + B3.length := by omega
                      have hfe : ZC = textB more L (k + 1) := by
                        rw [HNX.out, ← HTT.out.1, HCH.out, ← HWW.out, HRM.out, HAT.out, if_pos rfl, eC.out, eB.out, eA.out, e9.out, e8.out, e7.out, e6.out, e5.out, e4.out, e3.out, e2.out, e1.out]
                        simp
                      have fin : Hid (ZC = textB more L (k + 1) ∧ ZC.length ≤ 1000 * (k + 1)) := ⟨hfe, by
                        rw [hfe, HNX.out, List.length_append, ← HTT.out.1]
                        have := HCL.out
                        omega⟩
                      have kFin : Keeps (fun _ => False) w XD := kr.trans kkD
                      clear HTT HCH HWW HRM HAT HNX hfe
                      go_wp2_with fail
                      refine (BK3 _).mono ?_
                      rintro e XA ⟨rfl, hXA⟩
                      replace hXA := hXA.symm
                      subst hXA
                      clear BK3
                      go_wp2_with fail
                      go_roundw
                      · exact ⟨k + 1, ZC, by first | rfl | simp, by simp, by omega, kFin, fin⟩
                      · simp [intOf]; omega
                    · have hm3' : ((m3 : Int) == 0) = false := by simp; omega
                      obtain ⟨ZB, sB, eB, lB⟩ := cat_ex Z7 [10]
                      obtain ⟨ZC, sC, eC, lC⟩ := cat_ex ZB B3
                      simp only [List.length_cons, List.length_nil] at lB
                      have tB : ¬ 9223372036854775807 < Z7.length + 1 := by omega
                      have tC : ¬ 9223372036854775807 < ZB.length + B3.length := by omega
                      have hfe : ZC = textB more L (k + 1) := by
                        rw [HNX.out, ← HTT.out.1, HCH.out, ← HWW.out, HRM.out, HAT.out, if_neg hm3, eC.out, eB.out, e7.out, e6.out, e5.out, e4.out, e3.out, e2.out, e1.out]
                        simp
                      have fin : Hid (ZC = textB more L (k + 1) ∧ ZC.length ≤ 1000 * (k + 1)) := ⟨hfe, by
                        rw [hfe, HNX.out, List.length_append, ← HTT.out.1]
                        have := HCL.out
                        omega⟩
                      have kFin : Keeps (fun _ => False) w XD := kr.trans kkD
                      clear HTT HCH HWW HRM HAT HNX hfe
                      go_wp2_with fail
                      refine (BK3 _).mono ?_
                      rintro e XA ⟨rfl, hXA⟩
                      replace hXA := hXA.symm
                      subst hXA
                      clear BK3
                      go_wp2_with fail
                      go_roundw
                      · exact ⟨k + 1, ZC, by first | rfl | simp, by simp, by omega, kFin, fin⟩
                      · simp [intOf]; omega
                · have hae : aimE ⟨op, a, b, c, N⟩ L.length = false := by rw [HAE.out]; simp [hle]
                  have HWW : Hid (W = wideF more 0 (lineL ⟨op, a, b, c, N⟩ (numT ⟨op, a, b, c, N⟩ L.length))) := by
                    unfold Hid
                    rw [HNT.out, hae, if_neg (by decide), HLT.out]
                    exact HWE.out
                  obtain ⟨WW, hWWe⟩ : ∃ WW, WW = W := ⟨_, rfl⟩
                  rw [← hWWe] at HWW hWl ⊢
                  clear hWWe hae HWE DN
                  have kT := kW

                  have BK0 := BT k (by omega)
                  have BK1 := BT (k + 1) (by omega)
                  have BK2 := BT (k + 2) (by omega)
                  have BK3 := BT (k + 3) (by omega)
                  rw [show ((k + 1 : Nat) : Int) = (k : Int) + 1 by simp] at BK1
                  rw [show ((k + 2 : Nat) : Int) = (k : Int) + 2 by simp] at BK2
                  rw [show ((k + 3 : Nat) : Int) = (k : Int) + 3 by simp] at BK3
                  have lb0 := btw_len more k
                  have lb1 := btw_len more (k + 1)
                  have lb2 := btw_len more (k + 2)
                  have lb3 := btw_len more (k + 3)
                  have HAT : Hid (atL k = 97 :: 116 :: Lib.decDigits k) := rfl
                  have HRM : Hid (remT more.length k = if (k + more.length) % 3 = 0 then [59, 98, 101, 103, 105, 110, 32, 58, 32, 120, 58, 10, 59, 59, 10] else []) := rfl
                  generalize btw more k = B0 at *
                  generalize btw more (k + 1) = B1 at *
                  generalize btw more (k + 2) = B2 at *
                  generalize btw more (k + 3) = B3 at *
                  generalize Lib.decDigits k = DKK at *
                  have g3 : ((k : Int) + (more.length : Int)).tmod 3 = (((k + more.length) % 3 : Nat) : Int) := by rw [Int.tmod_eq_emod_of_nonneg (by omega)]; omega
                  generalize (k + more.length) % 3 = m3 at *
                  obtain ⟨Z1, s1, e1, l1⟩ := cat_ex T B0
                  obtain ⟨Z2, s2, e2, l2⟩ := cat_ex Z1 [97, 116]
                  obtain ⟨Z3, s3, e3, l3⟩ := cat_ex Z2 DKK
                  obtain ⟨Z4, s4, e4, l4⟩ := cat_ex Z3 [58]
                  obtain ⟨Z5, s5, e5, l5⟩ := cat_ex Z4 B1
                  obtain ⟨Z6, s6, e6, l6⟩ := cat_ex Z5 WW
                  obtain ⟨Z7, s7, e7, l7⟩ := cat_ex Z6 B2
                  simp only [List.length_cons, List.length_nil] at l2 l4
                  have t1 : ¬ 9223372036854775807 < T.length + B0.length := by omega
                  have t2 : ¬ 9223372036854775807 < Z1.length + 2 := by omega
                  have t3 : ¬ 9223372036854775807 < Z2.length + DKK.length := by omega
                  have t4 : ¬ 9223372036854775807 < Z3.length + 1 := by omega
                  have t5 : ¬ 9223372036854775807 < Z4.length + B1.length := by omega
                  have t6 : ¬ 9223372036854775807 < Z5.length + WW.length := by omega
                  have t7 : ¬ 9223372036854775807 < Z6.length + B2.length := by omega
                  have HTT : Hid (T = textB more L k ∧ T.length ≤ 1000 * k) := hP
                  clear hP HWN HLT HNT HAE hDm HC HI
                  go_wp2_with fail
                  refine (BK0 _).mono ?_
                  rintro e XA ⟨rfl, hXA⟩
                  replace hXA := hXA.symm
                  subst hXA
                  clear BK0
                  go_wp2_with fail
                  refine (DK _).mono ?_
                  rintro e XD ⟨rfl, kXD⟩
                  have kkD := kT.trans kXD
                  clear DK
                  go_wp2_with fail
                  refine (BK1 _).mono ?_
                  rintro e XA ⟨rfl, hXA⟩
                  replace hXA := hXA.symm
                  subst hXA
                  clear BK1
                  go_wp2_with fail
                  refine (BK2 _).mono ?_
                  rintro e XA ⟨rfl, hXA⟩
                  replace hXA := hXA.symm
                  subst hXA
                  clear BK2
                  by_cases hm3 : m3 = 0
                  · subst hm3
                    obtain ⟨Z8, s8, e8, l8⟩ := cat_ex Z7 [59]
                    obtain ⟨Z9, s9, e9, l9⟩ := cat_ex Z8 [98, 101, 103, 105, 110, 32, 58, 32, 120, 58]
                    obtain ⟨ZA, sA, eA, lA⟩ := cat_ex Z9 [10, 59, 59, 10]
                    obtain ⟨ZB, sB, eB, lB⟩ := cat_ex ZA [10]
                    obtain ⟨ZC, sC, eC, lC⟩ := cat_ex ZB B3
                    simp only [List.length_cons, List.length_nil] at l8 l9 lA lB
                    have t8 : ¬ 9223372036854775807 < Z7.length + 1 := by omega
                    have t9 : ¬ 9223372036854775807 < Z8.length + 10 := by omega
                    have tA : ¬ 9223372036854775807 < Z9.length + 4 := by omega
                    have tB : ¬ 9223372036854775807 < ZA.length + 1 := by omega
                    have tC : ¬ 9223372036854775807 < ZB.length + B3.length := by omega
                    have hfe : ZC = textB more L (k + 1) := by
                      rw [HNX.out, ← HTT.out.1, HCH.out, ← HWW.out, HRM.out, HAT.out, if_pos rfl, eC.out, eB.out, eA.out, e9.out, e8.out, e7.out, e6.out, e5.out, e4.out, e3.out, e2.out, e1.out]
                      simp
                    have fin : Hid (ZC = textB more L (k + 1) ∧ ZC.length ≤ 1000 * (k + 1)) := ⟨hfe, by
                      rw [hfe, HNX.out, List.length_append, ← HTT.out.1]
                      have := HCL.out
                      omega⟩
                    have kFin : Keeps (fun _ => False) w XD := kr.trans kkD
                    clear HTT HCH HWW HRM HAT HNX hfe
                    go_wp2_with fail
                    refine (BK3 _).mono ?_
                    rintro e XA ⟨rfl, hXA⟩
                    replace hXA := hXA.symm
                    subst hXA
                    clear BK3
                    go_wp2_with fail
                    go_roundw
                    · exact ⟨k + 1, ZC, by first | rfl | simp, by simp, by omega, kFin, fin⟩
                    · simp [intOf]; omega
                  · have hm3' : ((m3 : Int) == 0) = false := by simp; omega
                    obtain ⟨ZB, sB, eB, lB⟩ := cat_ex Z7 [10]
                    obtain ⟨ZC, sC, eC, lC⟩ := cat_ex ZB B3
                    simp only [List.length_cons, List.length_nil] at lB
                    have tB : ¬ 9223372036854775807 < Z7.length + 1 := by omega
                    have tC : ¬ 9223372036854775807 < ZB.length + B3.length := by omega
                    have hfe : ZC = textB more L (k + 1) := by
                      rw [HNX.out, ← HTT.out.1, HCH.out, ← HWW.out, HRM.out, HAT.out, if_neg hm3, eC.out, eB.out, e7.out, e6.out, e5.out, e4.out, e3.out, e2.out, e1.out]
                      simp
                    have fin : Hid (ZC = textB more L (k + 1) ∧ ZC.length ≤ 1000 * (k + 1)) := ⟨hfe, by
                      rw [hfe, HNX.out, List.length_append, ← HTT.out.1]
                      have := HCL.out
                      omega⟩
                    have kFin : Keeps (fun _ => False) w XD := kr.trans kkD
                    clear HTT HCH HWW HRM HAT HNX hfe
                    go_wp2_with fail
                    refine (BK3 _).mono ?_
                    rintro e XA ⟨rfl, hXA⟩
                    replace hXA := hXA.symm
                    subst hXA
                    clear BK3
                    go_wp2_with fail
                    go_roundw
                    · exact ⟨k + 1, ZC, by first | rfl | simp, by simp, by omega, kFin, fin⟩
                    · simp [intOf]; omega
        · obtain rfl : k = L.length := by omega
          have HIN : Hid (∀ X, Keeps (fun _ => False) w X → InsAt X (.slice a0 L.length c0) L) := HI
          clear HI
          obtain ⟨hT, hTl⟩ := hP.out
          have HT : Hid (T = textB more L L.length) := hT
          have DK := rdigits_any L.length (by omega)
          have hDk : (Lib.decDigits L.length).length ≤ 20 := by rw [Lib.decDigits_length]; exact Lib.nDigits_le20 _ (by omega)
          have HAT : Hid (atL L.length = 97 :: 116 :: Lib.decDigits L.length) := rfl
          generalize Lib.decDigits L.length = DKK at *
          obtain ⟨Z2, s2, e2, l2⟩ := cat_ex T [97, 116]
          obtain ⟨Z3, s3, e3, l3⟩ := cat_ex Z2 DKK
          obtain ⟨Z4, s4, e4, l4⟩ := cat_ex Z3 [58]
          simp only [List.length_cons, List.length_nil] at l2 l4
          have t2 : ¬ 9223372036854775807 < T.length + 2 := by omega
          have t3 : ¬ 9223372036854775807 < Z2.length + DKK.length := by omega
          have t4 : ¬ 9223372036854775807 < Z3.length + 1 := by omega
          have hZ : Z4 = chunksT more L.length 0 L := by
            rw [← textB_chunks, ← HT.out, HAT.out, e4.out, e3.out, e2.out]
            simp
          obtain ⟨nl, hrd⟩ := chunks_read more L (by omega) HFM.out
          rw [← hZ] at hrd
          have hZl : Z4.length ≤ 268435456 := by omega
          have HPA : Hid (∀ X, Keeps (fun _ => False) w X → Calls Tryz.prog 10 #[.string ⟨Z4.toArray⟩] X fun e w' => (∃ vc, e = .returned (.tuple #[vc, .int .i64 (nl : Int), .int .i64 0]) ∧ InsAt w' vc L) ∧ Keeps (fun _ => False) X w') := fun X kX => by
            have := aparse_any Z4 hZl X (HGP.out X kX).gl
            unfold PrPost at this
            rw [hrd] at this
            exact this.mono fun e w' ⟨⟨vc, q1, q2, q3⟩, q4⟩ => ⟨⟨vc, q1, q2.insAt q3 (by omega)⟩, q4⟩
          have HLB : Hid (∀ X, Keeps (fun _ => False) w X → Calls Tryz.prog 11 #[.string ⟨Z4.toArray⟩] X fun e w' => (∃ vl, e = .returned (.tuple #[vl, .int .i64 (nl : Int), .int .i64 0]) ∧ LabAt w' vl (labsT 0 (L.length + 1))) ∧ Keeps (fun _ => False) X w') := fun X kX => by
            have := labels_any Z4 hZl X (HGP.out X kX).gl
            unfold LbPost at this
            rw [hrd] at this
            exact this.mono fun e w' ⟨⟨vl, q1, q2⟩, q4⟩ => ⟨⟨vl, q1, lab_of_own q2⟩, q4⟩
          have HSM : Hid (∀ X u, Keeps (fun _ => False) w X → InsAt X u L → Calls Tryz.prog 13 #[.slice a0 L.length c0, u] X fun e w' => e = .returned (.bool true) ∧ Keeps (fun _ => False) X w') := fun X u kX hu => rsame_any _ u L (by omega) X (HIN.out X kX) hu
          have hll := labsT_len (L.length + 1) 0
          have HLP : Hid (∀ (hq : L.length < (labsT 0 (L.length + 1)).length), ((labsT 0 (L.length + 1))[L.length]'hq).2 = L.length) := fun hq => by rw [labsT_at]; simp
          generalize labsT 0 (L.length + 1) = M at *
          clear hZ hrd HT HAT hT hP HFM HW
          go_wp2_with fail
          refine (DK _).mono ?_
          rintro e X2 ⟨rfl, kX2⟩
          have kk2 := kr.trans kX2
          have PA := HPA.out X2 kk2
          clear DK HPA
          go_wp2_with fail
          refine PA.mono ?_
          rintro e X3 ⟨⟨vc, rfl, hvc⟩, kX3⟩
          have HVC : Hid (InsAt X3 vc L) := hvc
          have hvc' : Hid (InsAt X3 vc L) := hvc
          have kk3 := kk2.trans kX3
          have LB := HLB.out X3 kk3
          clear PA HLB hvc
          go_wp2_with fail
          refine LB.mono ?_
          rintro e X4 ⟨⟨vl, rfl, hvl⟩, kX4⟩
          have HVL : Hid (LabAt X4 vl M) := hvl
          have kk4 := kk3.trans kX4
          have SM := HSM.out X4 vc kk4 (HVC.out.keeps kX4)
          obtain ⟨la, lc, hvl', _⟩ := hvl.form
          clear LB HSM HVC
          rw [hll] at hvl'
          obtain ⟨va, vn, vcc, hvcs⟩ : ∃ a n c, vc = .slice a n c := by
            obtain ⟨⟨a, c, h, _⟩, _, _⟩ := hvc'.out
            exact ⟨a, _, c, h⟩
          subst hvcs
          have hvl2 := hvl'
          subst hvl2
          clear hvl
          go_wp2_with fail
          refine SM.mono ?_
          rintro e X5 ⟨rfl, kX5⟩
          have kk5 := kk4.trans kX5
          have KN := HKN.out X5 kk5
          obtain ⟨gl, ol, cl, hv, z1⟩ := (HVL.out.keeps kX5).at L.length (by omega)
          simp only [Value.slice.injEq] at hv
          obtain ⟨rfl, -, rfl⟩ := hv
          rw [HLP.out] at z1
          have hLi : (L.length : Int) < (L.length : Int) + 1 := by omega
          clear SM HKN HVL HLP
          go_wp2_with fail
          refine KN.mono ?_
          rintro e X6 ⟨rfl, kX6⟩
          have kk6 := kk5.trans kX6
          go_wp2_with fail
          go_ret
          exact ⟨rfl, kk6⟩
end Go.Proofs.YtlhmlajcgbnihaaGreatDoor
