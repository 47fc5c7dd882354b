
/- The law CheckPrograms. No statement of the seat is proved here. -/
import Derived.Test.YtljapgoeomedkaaDoorDcM
import Derived.Test.YtljapgoeomedkaaDoorChR
namespace Go.Proofs.YtljapgoeomedkaaDoor
open Go.RowKit Go.Shelf

noncomputable def modL (p : List I5) : List Int := if (verd p).2 = 0 then (List.range p.length).map (modeN p) else []
theorem modL_len (p : List I5) : (modL p).length ≤ 256 := by
  unfold modL
  split
  · rename_i h
    have := (verd_ok_len h).2
    simp; omega
  · simp
theorem mpost_mts {p : List I5} {w w' : World} {e : Ending} (h : MPost p w e w') : ∃ mv, e = .returned (.tuple #[mv, .int .i64 (verd p).2]) ∧ Keeps (fun _ => False) w w' ∧ Mts w' w.heap.size mv (modL p) := by
  obtain ⟨mv, he, hk, hy, hn⟩ := h
  refine ⟨mv, he, hk, ?_⟩
  unfold modL
  by_cases hv : (verd p).2 = 0
  · rw [if_pos hv]
    obtain ⟨g, rfl, hg, hB⟩ := hy hv
    have hl := (verd_ok_len hv).2
    exact ⟨⟨by simp, .inr ⟨g, p.length, _, by simp, hg, hB, by simp, by simp [maxLen]; omega, by simp [mds], by simp [mds]; rw [List.take_of_length_le (by simp)]; rfl⟩⟩, hk.size⟩
  · rw [if_neg hv, hn hv]
    exact ⟨⟨rfl, .inl ⟨rfl, rfl⟩⟩, hk.size⟩
theorem rmpost_num {p : List I5} {w w' : World} {e : Ending} (h : RmPost p w e w') : ∃ mv, e = .returned (.tuple #[mv, .int .i64 (verd p).2]) ∧ Keeps (fun _ => False) w w' ∧ NumSt w.heap.size w' mv (modL p) := by
  obtain ⟨mv, he, hk, hy, hn⟩ := h
  refine ⟨mv, he, hk, ?_⟩
  unfold modL
  by_cases hv : (verd p).2 = 0
  · rw [if_pos hv]; exact hy hv
  · rw [if_neg hv, hn hv]; exact ns_nil _ _
theorem Mts.num {w : World} {b : Nat} {v : Value} {L : List Int} (h : Mts w b v L) : NumAt w v L := h.st b (Nat.le_refl _) w (Keeps.refl _ _)
theorem spnP_len (p : List I5) : (spnP p).length ≤ 256 := by
  unfold spnP
  split
  · rename_i h
    have := (verd_ok_len h).2
    have := spnL_len p p.length
    omega
  · simp
theorem blkL_len (p : List I5) (b : Nat) (o : Int) : (castL (blkL p b o)).length ≤ p.length := blkK_len p b o p.length
theorem spn_small {p : List I5} {L : List Spn} (h : L.map Spn.pure = spnP p) : L.length ≤ 256 ∧ ∀ s ∈ L, s.e.length ≤ 256 ∧ s.a.length ≤ 256 ∧ ∀ x ∈ s.a, 0 ≤ x := by
  refine ⟨by have := congrArg List.length h; have := spnP_len p; simp at *; omega, fun s hs => ?_⟩
  have hm : s.pure ∈ spnP p := by rw [← h]; exact List.mem_map.2 ⟨s, hs, rfl⟩
  unfold spnP at hm
  split at hm
  · rename_i hv
    have hl := (verd_ok_len hv).2
    unfold spnL at hm
    obtain ⟨b, _, hb⟩ := List.mem_map.1 hm
    simp only [Spn.pure, Prod.mk.injEq] at hb
    obtain ⟨_, he, ha⟩ := hb
    have h1 := blkL_len p b 15
    have h2 := blkL_len p b 16
    refine ⟨by rw [← he]; omega, by rw [← ha]; omega, fun x hx => ?_⟩
    rw [← ha] at hx
    obtain ⟨y, _, rfl⟩ := List.mem_map.1 hx
    omega
  · simp at hm
theorem keeps_old {S : Nat → Prop} {w X Y : World} (k : Keeps (fun _ => False) w X) (k2 : Keeps S X Y) (h : ∀ q, S q → w.heap.size ≤ q) : Keeps (fun _ => False) w Y :=
  ⟨k2.os.trans k.os, k2.tape.trans k.tape, k2.output.trans k.output, Nat.le_trans k.size k2.size, fun q hq hs => (k2.block q (Nat.lt_of_lt_of_le hq k.size) fun e => by have := h q e; omega).trans (k.block q hq hs)⟩
/-- Where what spoilt writes lies. -/
theorem spt_where {m v : Value} {l : List Int} {L : List Spn} {w2 w4 : World} {b1 b3 : Nat} (hm : Mts w2 b1 m l) (hs : Sps w4 b3 v L) {q : Nat} (h : SpT m L q) : (b1 ≤ q ∧ q < w2.heap.size) ∨ (b3 ≤ q ∧ q < w4.heap.size) := by
  obtain ⟨x, hx, hq⟩ := h
  rcases List.mem_cons.1 hx with rfl | hx
  · exact .inl ⟨(own_block hm.own hq).2, (own_block hm.own hq).1⟩
  · exact .inr (hs.young x (List.mem_cons_of_mem _ hx) q hq)
end Go.Proofs.YtljapgoeomedkaaDoor
namespace Go.Proofs.YtljapgoeomedkaaDoor
open Go.RowKit Go.Shelf

set_option maxRecDepth 100000 in
set_option maxHeartbeats 20000000 in
theorem programs_law (FA : FolOk) (v : Value) (p : List I5) (w : World) (h : InsAt w v p) (hb : (p.length + 1) * 40 ≤ 140737488355328) (hG : Gb w) : Calls Tryd.prog 3 #[v] w fun e w' => e = .returned (.bool true) ∧ Keeps (fun _ => False) w w' := by
  have LA := lent_any v p w h hb
  have HH : Hid (∀ X, Keeps (fun _ => False) w X → InsAt X v p ∧ Gb X) := fun X k => ⟨h.keeps k, hG.keeps k⟩
  have NA := num_any
  obtain ⟨⟨av, cap, rfl, -⟩, hwf, hbig⟩ := h
  have HWF : Hid (∀ i ∈ p, i.wf) := hwf
  clear hG
  go_enter Tryd.func3, Tryd.ntmps3
  go_wp2_with fail
  refine LA.mono ?_
  rintro e w1 ⟨⟨g, c, rfl, hB, hc, hg⟩, k1⟩
  have IB := (hB.take p.length).insAt c (by simpa using hwf) (by simpa using hbig)
  rw [List.take_left] at IB
  have HI : Hid (∀ X, Keeps (fun _ => False) w1 X → InsAt X (.slice (some ⟨g, 0, none⟩) p.length c) p ∧ Gb X ∧ InsAt X (.slice av p.length cap) p ∧ InsB X g (p ++ [i7]) ∧ Keeps (fun _ => False) w X) := fun X k => ⟨IB.keeps k, (HH.out X (k1.trans k)).2, (HH.out X (k1.trans k)).1, hB.keeps k (fun f => f), k1.trans k⟩
  have lg : g < w1.heap.size := hB.lt
  clear LA IB hB hwf
  have M1 := modes_any _ p w1 (HI.out w1 (Keeps.refl _ _)).1 (HI.out w1 (Keeps.refl _ _)).2.1
  go_wp2_with fail
  refine M1.mono ?_
  rintro e w2 hp
  obtain ⟨m1, rfl, k2, A1⟩ := mpost_mts hp
  clear M1 hp
  have M2 := modes_any _ p w2 (HI.out w2 k2).1 (HI.out w2 k2).2.1
  go_wp2_with fail
  refine M2.mono ?_
  rintro e w3 hp
  obtain ⟨m2, rfl, k3, A2⟩ := mpost_mts hp
  clear M2 hp
  have K3 := k2.trans k3
  have S1 := spans_any FA _ p w3 (HI.out w3 K3).1 (HI.out w3 K3).2.1
  go_wp2_with fail
  refine S1.mono ?_
  rintro e w4 ⟨v1, L1, rfl, k4, B1, E1⟩
  clear S1
  have K4 := K3.trans k4
  have S2 := spans_any FA _ p w4 (HI.out w4 K4).1 (HI.out w4 K4).2.1
  go_wp2_with fail
  refine S2.mono ?_
  rintro e w5 ⟨v2, L2, rfl, k5, B2, E2⟩
  clear S2
  have K5 := K4.trans k5
  have P1 := plain_any _ p w5 (HI.out w5 K5).1 (HI.out w5 K5).2.1
  go_wp2_with fail
  refine P1.mono ?_
  rintro e w6 ⟨rfl, k6⟩
  clear P1
  have K6 := K5.trans k6
  have M3 := rmodes_any _ p w6 (HI.out w6 K6).2.2.1
  go_wp2_with fail
  refine M3.mono ?_
  rintro e w7 hp
  obtain ⟨m3, rfl, k7, A3⟩ := rmpost_num hp
  clear M3 hp
  have K7 := K6.trans k7
  have S3 := rspans_any _ p w7 (HI.out w7 K7).2.2.1
  go_wp2_with fail
  refine S3.mono ?_
  rintro e w8 ⟨v3, L3, rfl, k8, B3, E3⟩
  clear S3
  have K8 := K7.trans k8
  have P2 := rplain_any _ p w8 (HI.out w8 K8).2.2.1
  go_wp2_with fail
  refine P2.mono ?_
  rintro e w9 ⟨rfl, k9⟩
  clear P2
  have K9 := K8.trans k9
  have G1 := program_any _ p w9 (HI.out w9 K9).1 (HI.out w9 K9).2.1
  have z1 := k2.size
  have z2 := k3.size
  have z3 := k4.size
  have z4 := k5.size
  have z5 := k6.size
  have z6 := k7.size
  have z7 := k8.size
  have z0 := k1.size
  have HA : Hid (Mts w2 w1.heap.size m1 (modL p) ∧ Mts w3 w2.heap.size m2 (modL p) ∧ Sps w4 w3.heap.size v1 L1 ∧ Sps w5 w4.heap.size v2 L2 ∧ NumSt w6.heap.size w7 m3 (modL p) ∧ Sps w8 w7.heap.size v3 L3 ∧ L1.map Spn.pure = spnP p ∧ L2.map Spn.pure = spnP p ∧ L3.map Spn.pure = spnP p) := ⟨A1, A2, B1, B2, A3, B3, E1, E2, E3⟩
  have HK : Hid (Keeps (fun _ => False) w2 w9 ∧ Keeps (fun _ => False) w3 w9 ∧ Keeps (fun _ => False) w4 w9 ∧ Keeps (fun _ => False) w5 w9 ∧ Keeps (fun _ => False) w7 w9 ∧ Keeps (fun _ => False) w8 w9 ∧ Keeps (fun _ => False) w1 w9) := ⟨((((((k3.trans k4).trans k5).trans k6).trans k7).trans k8).trans k9), (((((k4.trans k5).trans k6).trans k7).trans k8).trans k9), ((((k5.trans k6).trans k7).trans k8).trans k9), (((k6.trans k7).trans k8).trans k9), (k8.trans k9), k9, K9⟩
  clear A1 A2 B1 B2 A3 B3 E1 E2 E3 K3 K4 K5 K6 K7 K8 K9 k2 k3 k4 k5 k6 k7 k8 k9
  generalize plainV p = pl at *
  generalize hva : (verd p).1 = ya at *
  generalize hvb : (verd p).2 = yb at *
  unfold wrV at G1
  go_wp2_with fail
  refine G1.mono ?_
  rintro e w10 ⟨rfl, k10⟩
  clear G1
  have G2 := rprogram_any _ p w10 (HI.out w10 (HK.out.2.2.2.2.2.2.trans k10)).2.2.1
  rw [hva, hvb] at G2
  unfold wrV at G2
  go_wp2_with fail
  refine G2.mono ?_
  rintro e w11 ⟨rfl, k11⟩
  clear G2
  have k11' := k10.trans k11
  clear k10 k11
  go_wp2_with fail
  refine (NA _ _).mono ?_
  rintro e w11' ⟨rfl, rfl⟩
  go_wp2_with fail
  refine (NA _ _).mono ?_
  rintro e w11 ⟨rfl, rfl⟩
  go_wp2_with fail
  refine (NA _ _).mono ?_
  rintro e w11' ⟨rfl, rfl⟩
  go_wp2_with fail
  have hml := modL_len p
  obtain ⟨y2, y3, y4, y5, y7, y8, y1⟩ := HK.out
  obtain ⟨A1, A2, B1, B2, A3, B3, E1, E2, E3⟩ := HA.out
  obtain ⟨l1, sm1⟩ := spn_small E1
  obtain ⟨l2, sm2⟩ := spn_small E2
  have X1 := samemodes_any _ _ _ (by omega) w11' (A1.keeps (y2.trans k11') (fun _ _ f => f)).num (A3 w11' ((y7.trans k11').mono fun _ _ f => f.elim))
  refine X1.mono ?_
  rintro e w12 ⟨rfl, k12⟩
  have k12' := k11'.trans k12
  clear X1 k12 k11'
  have X2 := samespans_any _ _ L1 L3 (by rw [E1, E3]) (by omega) (fun s hs => ⟨by have := (sm1 s hs).1; omega, by have := (sm1 s hs).2.1; omega⟩) _ _ w12 (B1.keeps (y4.trans k12')) (B3.keeps (y8.trans k12'))
  have HQ : Hid (L1.length ≤ 256 ∧ (∀ s ∈ L1, s.e.length ≤ 256 ∧ s.a.length ≤ 256 ∧ ∀ x ∈ s.a, 0 ≤ x) ∧ L2.length ≤ 256 ∧ (∀ s ∈ L2, s.e.length ≤ 256 ∧ s.a.length ≤ 256 ∧ ∀ x ∈ s.a, 0 ≤ x)) := ⟨l1, sm1, l2, sm2⟩
  clear y2 y3 y4 y5 y7 y8 y1 A1 A2 B1 B2 A3 B3 E1 E2 E3 l1 sm1 l2 sm2
  go_wp2_with fail
  refine X2.mono ?_
  rintro e w13 ⟨rfl, k13⟩
  have k13' := k12'.trans k13
  clear X2 k13 k12'
  have X3 := left_any _ p g c w13 (HI.out w13 (HK.out.2.2.2.2.2.2.trans k13')).2.2.1 (HI.out w13 (HK.out.2.2.2.2.2.2.trans k13')).2.2.2.1 hc hb
  go_wp2_with fail
  refine X3.mono ?_
  rintro e w14 ⟨rfl, k14⟩
  have k14' := k13'.trans k14
  clear X3 k14 k13'
  have X4 := spoilt_any m1 v1 (modL p) L1 w1.heap.size w3.heap.size w14 (HA.out.1.keeps (HK.out.1.trans k14') (fun _ _ f => f)) (HA.out.2.2.1.keeps (HK.out.2.2.1.trans k14')) (fun x hx q hq e => by
    have h1 := (own_block HA.out.1.own hq).1
    have h2 := (HA.out.2.2.1.young x hx q e).1
    omega) hml HQ.out.1 HQ.out.2.1
  go_wp2_with fail
  refine X4.mono ?_
  rintro e w15 ⟨rfl, k15⟩
  clear X4
  have wh : ∀ q, SpT m1 L1 q → (w1.heap.size ≤ q ∧ q < w2.heap.size) ∨ (w3.heap.size ≤ q ∧ q < w4.heap.size) := fun q hq => spt_where HA.out.1 HA.out.2.2.1 hq
  obtain ⟨y2, y3, y4, y5, y7, y8, y1⟩ := HK.out
  obtain ⟨A1, A2, B1, B2, A3, B3, E1, E2, E3⟩ := HA.out
  have Z2 : Mts w15 w2.heap.size m2 (modL p) := (A2.keeps (y3.trans k14') (fun _ _ f => f)).keeps k15 (fun q hq e => by
    have h1 := own_block A2.own hq
    have h2 := wh q e
    omega)
  have Z3 : ∀ X, Keeps (fun _ => False) w15 X → NumAt X m3 (modL p) := fun X kX => A3 X ((((y7.trans k14').mono fun _ _ f => f.elim).trans (k15.mono fun q _ e => by
    have h2 := wh q e
    show q < w6.heap.size
    omega)).trans (kX.mono fun _ _ f => f.elim))
  have Z4 : Sps w15 w4.heap.size v2 L2 := (B2.keeps (y5.trans k14')).keepsS k15 (fun x hx q hq e => by
    have h1 := B2.young x hx q hq
    have h2 := wh q e
    omega)
  have Z5 : Sps w15 w7.heap.size v3 L3 := (B3.keeps (y8.trans k14')).keepsS k15 (fun x hx q hq e => by
    have h1 := B3.young x hx q hq
    have h2 := wh q e
    omega)
  have Z6 : InsB w15 g (p ++ [i7]) := (HI.out w14 (y1.trans k14')).2.2.2.1.keeps k15 (fun e => by
    have h2 := wh g e
    omega)
  have Z7 : Keeps (fun _ => False) w w15 := keeps_old (HI.out w14 (y1.trans k14')).2.2.2.2 k15 (fun q e => by
    have h2 := wh q e
    omega)
  have X5 := samemodes_any _ _ _ (by omega) w15 Z2.num (Z3 w15 (Keeps.refl _ _))
  have HZ : Hid (Sps w15 w4.heap.size v2 L2 ∧ Sps w15 w7.heap.size v3 L3 ∧ InsB w15 g (p ++ [i7]) ∧ Keeps (fun _ => False) w w15 ∧ L2.map Spn.pure = L3.map Spn.pure) := ⟨Z4, Z5, Z6, Z7, by rw [E2, E3]⟩
  clear y2 y3 y4 y5 y7 y8 y1 A1 A2 B1 B2 A3 B3 E1 E2 E3 wh Z2 Z3 Z4 Z5 Z6 Z7 k15 k14' HA HK HI
  go_wp2_with fail
  refine X5.mono ?_
  rintro e w16 ⟨rfl, k16⟩
  clear X5
  have X6 := samespans_any _ _ L2 L3 HZ.out.2.2.2.2 (by have := HQ.out.2.2.1; omega) (fun s hs => ⟨by have := (HQ.out.2.2.2 s hs).1; omega, by have := (HQ.out.2.2.2 s hs).2.1; omega⟩) _ _ w16 (HZ.out.1.keeps k16) (HZ.out.2.1.keeps k16)
  go_wp2_with fail
  refine X6.mono ?_
  rintro e w17 ⟨rfl, k17⟩
  clear X6
  have B0 := (HZ.out.2.2.1.keeps k16 (fun f => f)).keeps k17 (fun f => f)
  have K17 := (HZ.out.2.2.2.1.trans k16).trans k17
  clear HZ HQ k16 k17 z0 z1 z2 z3 z4 z5 z6 z7 hva hvb
  go_wp2_with fail
  go_loopw [20] (fun m wr => ∃ (k : Nat) (P : List I5), m = .int .i64 k ∧ k ≤ p.length ∧ Hid (P.length = p.length ∧ (∀ i ∈ P, i.wf) ∧ InsB wr g (P ++ [i7]) ∧ Keeps (fun _ => False) w wr)) (fun m _ => p.length - (intOf m).toNat)
  case atStart => exact ⟨0, p, rfl, Nat.zero_le _, ⟨rfl, HWF.out, B0, K17⟩⟩
  case round =>
    clear B0 K17
    obtain ⟨k, P, rfl, hk, hh⟩ := hrel
    obtain ⟨hPl, hPw, hB, hK⟩ := hh.out
    have IB := (hB.take P.length).insAt c (by simpa using hPw) (by simp; omega)
    rw [List.take_left, hPl] at IB
    by_cases hkl : k < p.length
    · have hki : (k : Int) < p.length := by omega
      have hk64 : (k : Int) < 18446744073709551616 := by omega
      have hkP : k < P.length := by omega
      obtain ⟨⟨av', cap', hv, hc'⟩, -, -⟩ := IB
      rw [hPl] at hv
      cases hv
      obtain ⟨pg', po', hpe, d0, -, -, -, -⟩ := hc' k hkP
      cases hpe
      rw [Nat.zero_add] at d0
      by_cases ho : (P[k]).op = 15
      · rw [ho] at d0
        obtain ⟨W', r1, B', kk⟩ := hB.set (k := k) (by simp; omega) ⟨16, 0, 0, 0, k⟩
        have e1 : (P ++ [i7]).set k ⟨16, 0, 0, 0, k⟩ = P.set k ⟨16, 0, 0, 0, k⟩ ++ [i7] := by rw [List.set_append_left _ _ hkP]
        rw [e1] at B'
        have HR : Hid ((Instr.storeAt 50 (.pointer (some ⟨g, k * 5, none⟩)) (.agg #[.int .i64 16, .int .i64 0, .int .i64 0, .int .i64 0, .int .u64 (k : Int)])).run Tryd.prog wr = .ok () W') := r1
        have HX : Hid ((P.set k ⟨16, 0, 0, 0, k⟩).length = p.length ∧ (∀ i ∈ P.set k ⟨16, 0, 0, 0, k⟩, i.wf) ∧ InsB W' g (P.set k ⟨16, 0, 0, 0, k⟩ ++ [i7]) ∧ Keeps (fun _ => False) w W') := ⟨by simpa using hPl, fun i hi => by
          rcases List.mem_or_eq_of_mem_set hi with hi | rfl
          · exact hPw i hi
          · unfold I5.wf; dsimp only; omega, B', InsB.kept kk hK hg⟩
        clear hh hPw hB hK hc' r1 B' kk e1 ho
        go_wp2_with (refine wpList_store_run rfl 50 _ _ rfl rfl rfl HR.out ?_)
        go_roundw
        · exact ⟨k + 1, _, by simp, by omega, HX⟩
        · simp [intOf]; omega
      · have m2 : ((P[k]).op == 15) = false := by simp [ho]
        clear hPw hB hK hc' ho
        go_wp2_with fail
        go_roundw
        · exact ⟨k + 1, P, by simp, by omega, hh⟩
        · simp [intOf]; omega
    · have hki : ¬ (k : Int) < p.length := by omega
      obtain rfl : k = p.length := by omega
      have HP : Hid (∀ X, Keeps (fun _ => False) wr X → InsAt X (.slice (some ⟨g, 0, none⟩) p.length c) P ∧ Keeps (fun _ => False) w X) := fun X k => ⟨IB.keeps k, hK.trans k⟩
      have X7 := program_any _ P wr (HP.out wr (Keeps.refl _ _)).1 (HH.out wr hK).2
      generalize hva : (verd P).1 = ya at *
      generalize hvb : (verd P).2 = yb at *
      unfold wrV at X7
      have HPw : Hid (∀ i ∈ P, i.wf) := hPw
      clear hh hPw hB hK IB
      go_wp2_with fail
      refine X7.mono ?_
      rintro e w18 ⟨rfl, k18⟩
      clear X7
      obtain ⟨u, w19, r1, i1, g1⟩ := (Irs.nil w18).app _ P (HP.out w18 k18).1 (by simp; omega)
      rw [List.nil_append] at i1
      have k19 := Irs.kept g1 (Keeps.refl (fun _ => False) w18) (Irs.nil w18)
      have X8 := rprogram_any _ P w19 (i1.insAt HPw.out (by omega))
      rw [hva, hvb] at X8
      unfold wrV at X8
      have HA : Hid (_ = _) := r1
      have K19 := (HP.out w18 k18).2.trans k19
      clear r1 i1 g1 k19 hva hvb
      go_wp2_with (at_builtin; refine wpList_append_run rfl _ _ 22 rfl rfl rfl HA.out ?_)
      refine X8.mono ?_
      rintro e w20 ⟨rfl, k20⟩
      have K20 := K19.trans k20
      have X9 := known_any w20 (HH.out w20 K20).2
      clear X8 HA
      go_wp2_with fail
      refine X9.mono ?_
      rintro e w21 ⟨rfl, k21⟩
      go_wp2_with fail
      go_ret
      exact ⟨rfl, K20.trans k21⟩
end Go.Proofs.YtljapgoeomedkaaDoor
