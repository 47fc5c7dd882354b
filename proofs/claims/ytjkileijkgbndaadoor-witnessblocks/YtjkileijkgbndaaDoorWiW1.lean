
/- WitnessBlocks: the law's walk (package parleylaw15). No statement of the seat is proved here. -/
import Derived.Test.YtjkileijkgbndaaDoorWiW
import Derived.Deep.QuietTactic
import Derived.BigQuiet
namespace Go.Proofs.YtjkileijkgbndaaDoor
open Go.RowKit Go.Shelf

set_option maxRecDepth 100000 in
set_option maxHeartbeats 16000000 in
theorem blocks_law1 (v : Value) (L : List Ev) (a b : Int) (hcase : 0 ≤ a ∧ 0 ≤ b ∧ a < (partsL L).length ∧ b < (partsL L).length) (w : World) (hv : EvsAt w v L) (hg : Gv w) (h8 : 2 ≤ w.heap.size) : Calls Tryd.prog 3 #[v, .int .i64 a, .int .i64 b] w fun ex w' => ex = .returned (.bool true) ∧ Keeps (fun _ => False) w w' := by
  have HCS : Hid (0 ≤ a ∧ 0 ≤ b ∧ a < (partsL L).length ∧ b < (partsL L).length) := hcase
  clear hcase
  have LG := longW_any v L w hv
  have HG : Hid (∀ X, Keeps (fun _ => False) w X → Gv X ∧ 2 ≤ X.heap.size) := fun X k => ⟨hg.keeps k, Nat.le_trans h8 k.size⟩
  have HV : Hid (∀ X, Keeps (fun _ => False) w X → EvsAt X v L) := fun X k => hv.keeps k
  have HGB : Hid (∀ (S : Nat → Prop) X, Keeps S w X → (∀ q, q < w.heap.size → ¬ S q) → Gv X ∧ 2 ≤ X.heap.size) := fun S X k hs => ⟨hg.keepsB k (fun q hq => hs q (by omega)), Nat.le_trans h8 k.size⟩
  have LE := lentW_any v L w hv
  have hwf := hv.wf
  have hbig := hv.big
  obtain ⟨va, vcap, rfl, hvcap⟩ := hv.els.shape
  clear hv hg h8
  by_cases hlong : 600 < L.length
  · rw [decide_eq_true hlong] at LG
    have KN := knownW_any w (HG.out w (Keeps.refl _ _)).1 (HG.out w (Keeps.refl _ _)).2
    clear LE
    go_enter Tryd.func3, Tryd.ntmps3
    go_wp2_with fail
    refine LG.mono ?_
    rintro ex w1 ⟨rfl, rfl⟩
    go_wp2_with fail
    refine KN.mono ?_
    rintro ex w2 ⟨rfl, k2⟩
    clear KN LG
    go_wp2_with fail
    go_ret
    exact ⟨rfl, k2⟩
  · rw [decide_eq_false hlong] at LG
    have hL6 : L.length ≤ 600 := by omega
    go_enter Tryd.func3, Tryd.ntmps3
    go_wp2_with fail
    refine LG.mono ?_
    rintro ex w' ⟨rfl, hw'⟩
    obtain rfl : w = w' := hw'.symm
    clear LG
    go_wp2_with fail
    refine LE.mono ?_
    rintro ex w1 ⟨cb, cc, rfl, hcc, hOm, k1⟩
    clear LE
    have hC : EvsAt w1 (.slice cb L.length cc) L := by
      have h5 := (hOm.els ev_len).take L.length (by simp)
      rw [List.take_left' rfl] at h5
      exact ⟨h5, hwf, hbig⟩
    have HC : Hid (∀ X, Keeps (fun _ => False) w1 X → EvsAt X (.slice cb L.length cc) L ∧ ElsAt Ev.cl 6 X (.slice cb (L.length + 1) cc) (L ++ [mrkW]) ∧ Gv X ∧ 2 ≤ X.heap.size ∧ EvsAt X (.slice va L.length vcap) L) := fun X k => ⟨hC.keeps k, (hOm.els ev_len).keeps ev_ne k, (HG.out X (k1.trans k)).1, (HG.out X (k1.trans k)).2, HV.out X (k1.trans k)⟩
    clear hC hOm
    have WR := wrongW_any _ L w1 (HV.out w1 k1)
    go_wp2_with fail
    refine WR.mono ?_
    rintro ex w2 ⟨rfl, k2⟩
    clear WR
    by_cases hz : (checkL L).2 = 0
    · rw [hz]
      have HP := pinv_parts L
      have E2 := HC.out w2 k2
      have BL1 := blocks_any _ L (by omega) hz w2 E2.1 E2.2.2.1 E2.2.2.2.1
      go_wp2_with fail
      refine BL1.mono ?_
      rintro ex w3 ⟨lv, X, rfl, hX, hXp, k3⟩
      have K3 := k2.trans k3
      have E3 := HC.out w3 K3
      have BL2 := blocks_any _ L (by omega) hz w3 E3.1 E3.2.2.1 E3.2.2.2.1
      clear BL1
      go_wp2_with fail
      refine BL2.mono ?_
      rintro ex w4 ⟨mv, Y, rfl, hY, hYp, k4⟩
      have K4 := K3.trans k4
      have E4 := HC.out w4 K4
      have OR1 := worder_any _ L (by omega) hz w4 E4.1 E4.2.2.1 E4.2.2.2.1
      clear BL2
      go_wp2_with fail
      refine OR1.mono ?_
      rintro ex w5 ⟨ov, rfl, hO, k5⟩
      have K5 := K4.trans k5
      have E5 := HC.out w5 K5
      have OR2 := worder_any _ L (by omega) hz w5 E5.1 E5.2.2.1 E5.2.2.2.1
      clear OR1
      go_wp2_with fail
      refine OR2.mono ?_
      rintro ex w6 ⟨pv, rfl, hP6, k6⟩
      have K6 := K5.trans k6
      have E6 := HC.out w6 K6
      have AH := ahead_any _ L a b (by omega) hz w6 E6.1 E6.2.2.1 E6.2.2.2.1
      clear OR2
      obtain ⟨an, han⟩ : ∃ an, an = aheadB (partsL L) a b := ⟨_, rfl⟩
      rw [← han] at AH
      have HAN : Hid (an = aheadB (partsL L) a b) := han
      clear han
      obtain ⟨la, lc, rfl⟩ := hX.own.form
      obtain ⟨ma, mc, rfl⟩ := hY.own.form
      obtain ⟨oa, oc, rfl⟩ := hO.form
      obtain ⟨pa, pc, rfl⟩ := hP6.form
      go_wp2_with fail
      refine AH.mono ?_
      rintro ex w7 ⟨rfl, k7⟩
      have K7 := K6.trans k7
      have E7 := HC.out w7 K7
      have KP := keptW_any _ L cb cc hcc w7 E7.2.1 E7.2.2.2.2.els (by omega)
      clear AH
      go_wp2_with fail
      refine KP.mono ?_
      rintro ex w8 ⟨rfl, k8⟩
      have K8 := K7.trans k8
      have E8 := HC.out w8 K8
      have RB := rblocks_any _ L (by omega) w8 E8.2.2.2.2
      clear KP
      go_wp2_with fail
      refine RB.mono ?_
      rintro ex w9 ⟨wv, kv, Z, rfl, hZ, hZp, k9⟩
      have K9 := K8.trans k9
      have E9 := HC.out w9 K9
      have RO := rordD_any _ L (by omega) w9 E9.2.2.2.2
      clear RB
      obtain ⟨wa, wc, rfl⟩ := hZ.bl.own.form
      obtain ⟨ka, kc, rfl⟩ := hZ.lk.form
      go_wp2_with fail
      refine RO.mono ?_
      rintro ex w10 ⟨qv, rfl, hQ, k10⟩
      have K10 := K9.trans k10
      rw [← parts_begs hz] at hZp hQ
      obtain ⟨qa, qc, rfl⟩ := hQ.form
      clear RO
      have s2 := k2.size
      have s1 := k1.size
      have s3 := k3.size
      have s4 := k4.size
      have s5 := k5.size
      have s6 := k6.size
      have s7 := k7.size
      have s8 := k8.size
      have s9 := k9.size
      have c45 : Keeps (fun _ => False) w4 w10 := k5.trans (k6.trans (k7.trans (k8.trans (k9.trans k10))))
      have c56 : Keeps (fun _ => False) w5 w10 := k6.trans (k7.trans (k8.trans (k9.trans k10)))
      have HL : Hid (Lw w w4 L _ _ _ _ _ _ X Y Z w2.heap.size w3.heap.size w4.heap.size w5.heap.size w10) :=
        ⟨by omega, k1.trans K4, rfl, c45, ⟨hX.keeps (k4.trans c45) (fun _ _ _ f => f), hXp⟩, fun q hq => by
          rcases hq with hq | hq
          · exact (own_block hX.own.own hq).1
          · exact (hX.rws.young hq).1, ⟨hY.keeps c45 (fun _ _ _ f => f), hYp⟩, fun q hq => by
          rcases hq with hq | hq
          · exact (own_block hY.own.own hq).1
          · exact (hY.rws.young hq).1, hO.keeps c56 (fun _ _ f => f), fun q hq => (own_block hO.own hq).1, hP6.keeps (k7.trans (k8.trans (k9.trans k10))) (fun _ _ f => f), ⟨(hZ.bl.keeps k10 (fun _ _ _ f => f)).low (by omega), hZp⟩, hQ.low (by omega)⟩
      have hXl : X.length = (partsL L).length := by rw [← hXp]; simp
      have hZl : Z.length = (partsL L).length := by rw [← hZp]; simp
      have HBD : Hid (∀ (W : List Bx), W.map (·.p) = partsL L → ∀ x ∈ W, x.p.rs.length ≤ 60000 ∧ x.p.ws.length ≤ 60000) := fun W hW x hx => by
        have := HP.bd x.p (by show x.p ∈ partsL L; rw [← hW]; exact List.mem_map.2 ⟨x, hx, rfl⟩)
        omega
      have hpl : (partsL L).length ≤ 600 := Nat.le_trans HP.len (by omega)
      have HZ : Hid (∀ k (hk : k < Z.length), at0 (partsL L) k = (Z[k]).p) := fun k hk => by rw [← hZp]; simp [at0, hk]
      have KW := k1.trans K10
      clear hX hXp hY hYp hO hP6 hZ hZp hQ k1 k2 k3 k4 k5 k6 k7 k8 k9 k10 K3 K4 K5 K6 K7 K8 K9 K10 E2 E3 E4 E5 E6 E7 E8 E9 HP s1 s2 s3 s4 s5 s6 s7 s8 s9 c45 c56 hwf hbig HC HG HV hcc hvcap
      obtain ⟨N, hN⟩ : ∃ N, N = (partsL L).length := ⟨_, rfl⟩
      rw [← hN] at hXl hZl hpl
      have HN : Hid (N = (partsL L).length) := hN
      clear hN
      rw [hXl, hZl]
      obtain ⟨no, hno⟩ : ∃ no, no = (natI (ordK (partsL L) (partsL L).length)).length := ⟨_, rfl⟩
      have HNO : Hid (no = (natI (ordK (partsL L) (partsL L).length)).length ∧ no ≤ 60000) := ⟨hno, by
        rw [hno]; have := ordK_len (partsL L) (partsL L).length; have := HN.out; simp [natI]; omega⟩
      rw [← hno]
      rw [hXl, hZl, ← hno] at HL
      clear hno
      have HXN : Hid (X.length = N ∧ Z.length = N) := ⟨hXl, hZl⟩
      have hNi : (N : Int) ≤ 600 := by omega
      clear hXl hZl
      have HWZ : Hid (∀ k (hk : k < N), ∃ g off, wa = some ⟨g, off, none⟩ ∧ w10.cell? ⟨g, off + k * 9 + 1, none⟩ = some (.int .i64 (at0 (partsL L) k).kd) ∧ w10.cell? ⟨g, off + k * 9 + 2, none⟩ = some (.int .i64 (at0 (partsL L) k).fi) ∧ w10.cell? ⟨g, off + k * 9 + 3, none⟩ = some (.int .i64 (at0 (partsL L) k).la)) := fun k hk => by
        obtain ⟨g, off, hgo, q⟩ := (HL.out.wt.1.own.els cb_len).at k (by rw [HXN.out.2]; exact hk)
        rw [HZ.out k (by rw [HXN.out.2]; exact hk)]
        exact ⟨g, off, hgo, q 1 _ rfl, q 2 _ rfl, q 3 _ rfl⟩
      unfold aheadB at HAN
      rw [← HN.out] at HAN
      by_cases ha0 : 0 ≤ a
      · have ga0 : a ≥ 0 := ha0
        by_cases hb0 : 0 ≤ b
        · have gb0 : b ≥ 0 := hb0
          by_cases haN : a < N
          · by_cases hbN : b < N
            · obtain ⟨an', rfl⟩ : ∃ n : Nat, a = n := ⟨a.toNat, by omega⟩
              obtain ⟨bn, rfl⟩ : ∃ n : Nat, b = n := ⟨b.toNat, by omega⟩
              obtain ⟨gw, ow, rfl, c1, -, c3⟩ := HWZ.out an' (by omega)
              obtain ⟨g', o', hgo, -, d2, -⟩ := HWZ.out bn (by omega)
              simp only [Option.some.injEq, Addr.mk.injEq, and_true] at hgo
              obtain ⟨rfl, rfl⟩ := hgo
              have hA2 : an = decide ((at0 (partsL L) an').kd ≠ 5 ∧ (at0 (partsL L) an').la < (at0 (partsL L) bn).fi) := by
                rw [HAN.out]; simp only [Int.toNat_natCast]; congr 1; simp [haN, hbN]
              clear HAN HWZ HZ
              generalize (at0 (partsL L) an').kd = kd at *
              generalize (at0 (partsL L) an').la = lla at *
              generalize (at0 (partsL L) bn).fi = lfi at *
              by_cases h5 : kd = 5
              · subst h5
                obtain rfl : an = false := by rw [hA2]; simp
                clear hA2
                go_wp2_with fail
                go_quiet (fail)
                have HA1 : Hid (Lw w w4 L _ _ _ _ _ _ X Y Z w2.heap.size w3.heap.size w4.heap.size w5.heap.size (w10.drewN nq) ∧ Keeps (fun _ => False) w (w10.drewN nq)) := ⟨HL.out.keeps ((Keeps.refl _ _).drewN nq), KW.drewN nq⟩
                generalize w10.drewN nq = wA at *
                have SB1 := rsbl_any (.slice la N lc) _ X Z (HA1.out.1.l.2.trans HA1.out.1.wt.2.symm) (by rw [HXN.out.1]; omega) (HBD.out X HA1.out.1.l.2) wA HA1.out.1.l.1.ble HA1.out.1.wt.1.ble
                clear HL KW
                go_wp2_with fail
                refine SB1.mono ?_
                rintro ex wB ⟨rfl, kB⟩
                have HA2 : Hid (Lw w w4 L _ _ _ _ _ _ X Y Z w2.heap.size w3.heap.size w4.heap.size w5.heap.size wB ∧ Keeps (fun _ => False) w wB) := ⟨HA1.out.1.keeps kB, HA1.out.2.trans kB⟩
                have SI1 := rsin_any _ _ _ (by rw [← HNO.out.1]; have := HNO.out.2; omega) wB (HA2.out.1.o.els cic_len) (HA2.out.1.od.els cic_len)
                clear SB1 kB HA1
                go_wp2_with fail
                refine SI1.mono ?_
                rintro ex wC ⟨rfl, kC⟩
                have HA3 : Hid (Lw w w4 L _ _ _ _ _ _ X Y Z w2.heap.size w3.heap.size w4.heap.size w5.heap.size wC ∧ Keeps (fun _ => False) w wC) := ⟨HA2.out.1.keeps kC, HA2.out.2.trans kC⟩
                clear SI1 kC HA2
                go_wp2_with fail
                have HS0 : Hid (Keeps (fun q => w2.heap.size ≤ q ∧ q < w3.heap.size) wC wC ∧ (0 < N → ∃ g, la = some ⟨g, 0, none⟩ ∧ Spo wC wC w2.heap.size w3.heap.size g X 0)) := ⟨Keeps.refl _ _, fun h0 => by
                  obtain ⟨g, cap', cur, h1, h2, h3, h4⟩ := HA3.out.1.l.1.own.at (by rw [HXN.out.1]; exact h0)
                  simp only [Value.slice.injEq] at h1
                  obtain ⟨rfl, h1b, -⟩ := h1
                  exact ⟨g, rfl, Spo.startB HA3.out.1.l.1 HA3.out.1.lb HXN.out.1.symm (by rw [HXN.out.1]; exact h0)⟩⟩
                go_loopw [22] (fun u22 wr => ∃ (i : Nat), u22 = .int .i64 i ∧ i ≤ N ∧ Hid (Keeps (fun q => w2.heap.size ≤ q ∧ q < w3.heap.size) wC wr ∧ (0 < N → ∃ g, la = some ⟨g, 0, none⟩ ∧ Spo wC wr w2.heap.size w3.heap.size g X i))) (fun u22 _ => N - (intOf u22).toNat)
                case atStart => exact ⟨0, rfl, Nat.zero_le _, HS0⟩
                case round =>
                  clear HS0
                  obtain ⟨i, rfl, hi, hh⟩ := hrel
                  generalize wr = Wo at *
                  by_cases hlt : i < N
                  · have hii : (i : Int) < N := by omega
                    have hi0 : (0 : Int) ≤ i := by omega
                    have hwi : IntKind.i64.wrap ((i : Int) + 1) = (i : Int) + 1 := by rw [IntKind.wrap_i64]; omega
                    obtain ⟨g, rfl, hS⟩ := hh.out.2 (by omega)
                    have hiX : i < X.length := by rw [HXN.out.1]; exact hlt
                    have HXI : Hid (∀ W, Spo wC W w2.heap.size w3.heap.size g X i → W.cell? ⟨g, i * 9 + 7, none⟩ = some (X[i]).r.v ∧ W.cell? ⟨g, i * 9 + 8, none⟩ = some (X[i]).s.v ∧ RT W (X[i]).r (X[i]).p.rs.length ∧ RT W (X[i]).s (X[i]).p.ws.length) := fun W q => by
                      obtain ⟨cur, m1, m2, m3⟩ := q.main
                      obtain ⟨e1, e2⟩ := m3 i hiX (Nat.le_refl _)
                      exact ⟨by rw [cell_of_block m1]; exact e1, by rw [cell_of_block m1]; exact e2, (q.rows _ (List.getElem_mem hiX)).1, (q.rows _ (List.getElem_mem hiX)).2⟩
                    have HMX : Hid ((∀ q, (X[i]).r.v.ownBlock = some q → q ∈ ows X) ∧ (∀ q, (X[i]).s.v.ownBlock = some q → q ∈ ows X) ∧ (X[i]).p.rs.length ≤ 60000 ∧ (X[i]).p.ws.length ≤ 60000) := ⟨fun q hq => ows_mem (List.getElem_mem hiX) (.inl hq), fun q hq => ows_mem (List.getElem_mem hiX) (.inr hq), HBD.out X HA3.out.1.l.2 _ (List.getElem_mem hiX)⟩
                    generalize X[i]'hiX = xx at *
                    obtain ⟨p, ⟨ra, rn, rc⟩, ⟨sa, sn, sc⟩⟩ := xx
                    dsimp only at HXI HMX
                    generalize p.rs.length = nr at *
                    generalize p.ws.length = nw at *
                    obtain ⟨-, -, rt1, rt2⟩ := HXI.out Wo hS
                    obtain rfl : rn = nr := rt1.len
                    obtain rfl : sn = nw := rt2.len
                    have hb3 : rn ≤ 60000 ∧ sn ≤ 60000 := HMX.out.2.2
                    obtain ⟨hrn, hsn⟩ := hb3
                    have HSp : Hid (Spo wC Wo w2.heap.size w3.heap.size g X i) := hS
                    clear hS hh rt1 rt2
                    go_wp2_with fail
                    go_loopw [23] (fun u23 wr => ∃ (k : Nat), u23 = .int .i64 k ∧ k ≤ rn ∧ Hid (Spo wC wr w2.heap.size w3.heap.size g X i)) (fun u23 _ => rn - (intOf u23).toNat)
                    case atStart => exact ⟨0, rfl, Nat.zero_le _, HSp⟩
                    case round =>
                      clear HSp
                      obtain ⟨k, rfl, hk, hS⟩ := hrel
                      obtain ⟨c7, c8, rt1, rt2⟩ := HXI.out wr hS.out
                      dsimp only [Sl.v] at c7 c8
                      by_cases hkn : k < rn
                      · have hki : (k : Int) < rn := by omega
                        have hk0 : (0 : Int) ≤ k := by omega
                        have hwk : IntKind.i64.wrap ((k : Int) + 1) = (k : Int) + 1 := by rw [IntKind.wrap_i64]; omega
                        obtain ⟨q, cur, hra, hb, hsz⟩ := rt1.at' (by omega)
                        dsimp only at hra
                        subst hra
                        have hr := run_storeAt_mid (P := Tryd.prog) wr q (k * 3) 47 #[.int .u64 99, .int .u64 0, .bool false] (there_of hb (by simp; omega)) (by kernel_rfl) (by simp [Value.oneCell'])
                        have HR : Hid (_ = _) := hr
                        have HF : Hid (Spo wC (wr.setCells q (k * 3) [.int .u64 99, .int .u64 0, .bool false]) w2.heap.size w3.heap.size g X i) := hS.out.row (HMX.out.1 q rfl) _ _
                        generalize hW : wr.setCells q (k * 3) [.int .u64 99, .int .u64 0, .bool false] = W9 at *
                        have HR2 : Hid ((Instr.storeAt 47 (.pointer (some ⟨q, k * 3, none⟩)) (.agg #[.int .u64 99, .int .u64 0, .bool false])).run Tryd.prog wr = .ok () W9) := HR
                        clear hr HR hW hS rt1 rt2 c8 hb hsz
                        go_wp2_with (refine wpList_store_run rfl 47 _ _ rfl rfl rfl HR2.out ?_)
                        go_roundw
                        · exact ⟨k + 1, by simp, by omega, HF.out⟩
                        · simp [intOf]; omega
                      · obtain rfl : k = rn := by omega
                        have hkk : ¬ (k : Int) < (k : Int) := by omega
                        have HS1 : Hid (Spo wC wr w2.heap.size w3.heap.size g X i) := hS.out
                        generalize wr = W1 at *
                        clear hS rt1 rt2
                        go_wp2_with fail
                        go_loopw [24] (fun u24 wr => ∃ (k : Nat), u24 = .int .i64 k ∧ k ≤ sn ∧ Hid (Spo wC wr w2.heap.size w3.heap.size g X i)) (fun u24 _ => sn - (intOf u24).toNat)
                        case atStart => exact ⟨0, rfl, Nat.zero_le _, HS1⟩
                        case round =>
                          clear HS1
                          obtain ⟨j, rfl, hj, hS⟩ := hrel
                          obtain ⟨e7, e8, rt1, rt2⟩ := HXI.out wr hS.out
                          dsimp only [Sl.v] at e7 e8
                          by_cases hjn : j < sn
                          · have hji : (j : Int) < sn := by omega
                            have hj0 : (0 : Int) ≤ j := by omega
                            have hwj : IntKind.i64.wrap ((j : Int) + 1) = (j : Int) + 1 := by rw [IntKind.wrap_i64]; omega
                            obtain ⟨q, cur, hra, hb, hsz⟩ := rt2.at' (by omega)
                            dsimp only at hra
                            subst hra
                            have hr := run_storeAt_mid (P := Tryd.prog) wr q (j * 3) 47 #[.int .u64 99, .int .u64 0, .bool false] (there_of hb (by simp; omega)) (by kernel_rfl) (by simp [Value.oneCell'])
                            have HR : Hid (_ = _) := hr
                            have HF : Hid (Spo wC (wr.setCells q (j * 3) [.int .u64 99, .int .u64 0, .bool false]) w2.heap.size w3.heap.size g X i) := hS.out.row (HMX.out.2.1 q rfl) _ _
                            generalize hW : wr.setCells q (j * 3) [.int .u64 99, .int .u64 0, .bool false] = W9 at *
                            have HR2 : Hid ((Instr.storeAt 47 (.pointer (some ⟨q, j * 3, none⟩)) (.agg #[.int .u64 99, .int .u64 0, .bool false])).run Tryd.prog wr = .ok () W9) := HR
                            clear hr HR hW hS rt1 rt2 e7 hb hsz c7 c8
                            go_wp2_with (refine wpList_store_run rfl 47 _ _ rfl rfl rfl HR2.out ?_)
                            go_roundw
                            · exact ⟨j + 1, by simp, by omega, HF.out⟩
                            · simp [intOf]; omega
                          · obtain rfl : j = sn := by omega
                            have hjj : ¬ (j : Int) < (j : Int) := by omega
                            obtain ⟨cur, m1, m2, m3⟩ := hS.out.main
                            have hr := run_storeAt_mid (P := Tryd.prog) wr g (i * 9) 43 #[.int .i64 0, .int .i64 0, .int .i64 0, .int .i64 0, .int .u64 0, .bool false, .int .i64 0, .slice none 0 0, .slice none 0 0] (there_of m1 (by simp; omega)) (by kernel_rfl) (by simp [Value.oneCell'])
                            have HR : Hid (_ = _) := hr
                            have HF : Hid (Spo wC (wr.setCells g (i * 9) [.int .i64 0, .int .i64 0, .int .i64 0, .int .i64 0, .int .u64 0, .bool false, .int .i64 0, .slice none 0 0, .slice none 0 0]) w2.heap.size w3.heap.size g X (i + 1)) := hS.out.elem _ rfl
                            generalize hW : wr.setCells g (i * 9) [.int .i64 0, .int .i64 0, .int .i64 0, .int .i64 0, .int .u64 0, .bool false, .int .i64 0, .slice none 0 0, .slice none 0 0] = W9 at *
                            have HR2 : Hid ((Instr.storeAt 43 (.pointer (some ⟨g, i * 9, none⟩)) (.agg #[.int .i64 0, .int .i64 0, .int .i64 0, .int .i64 0, .int .u64 0, .bool false, .int .i64 0, .slice none 0 0, .slice none 0 0])).run Tryd.prog wr = .ok () W9) := HR
                            have HE : Hid (Keeps (fun q => w2.heap.size ≤ q ∧ q < w3.heap.size) wC W9 ∧ (0 < N → ∃ g', (some ⟨g, 0, none⟩ : Option Addr) = some ⟨g', 0, none⟩ ∧ Spo wC W9 w2.heap.size w3.heap.size g' X (i + 1))) := ⟨HF.out.kp, fun _ => ⟨g, rfl, HF.out⟩⟩
                            clear hr HR hW hS rt1 rt2 e7 m1 m2 m3 c7 c8 HF
                            go_wp2_with (refine wpList_store_run rfl 43 _ _ rfl rfl rfl HR2.out ?_)
                            go_roundw
                            · exact ⟨i + 1, by simp, by omega, HE.out⟩
                            · simp [intOf]; omega
                  · obtain rfl : i = N := by omega
                    have hii : ¬ (i : Int) < (i : Int) := by omega
                    have KD := hh.out.1
                    clear hh
                    have hbb := HA3.out.1.b
                    have HO0 : Hid (∃ M : List Int, M.length = no ∧ InR Wo w4.heap.size (.slice oa no oc) M) := ⟨_, HNO.out.1.symm, HA3.out.1.o.keeps KD (fun q hq e => by have := (own_block HA3.out.1.o.own hq).2; omega)⟩
                    go_wp2_with fail
                    go_loopw [25] (fun u25 wr => ∃ (k : Nat), u25 = .int .i64 k ∧ k ≤ no ∧ Hid (∃ M : List Int, M.length = no ∧ InR wr w4.heap.size (.slice oa no oc) M) ∧ Keeps (fun q => w4.heap.size ≤ q ∧ q < w5.heap.size) Wo wr) (fun u25 _ => no - (intOf u25).toNat)
                    case atStart => exact ⟨0, rfl, Nat.zero_le _, HO0, Keeps.refl _ _⟩
                    case round =>
                      clear HO0
                      obtain ⟨k, rfl, hk, hM, kM⟩ := hrel
                      obtain ⟨M, hMl, hI⟩ := hM.out
                      by_cases hkn : k < no
                      · have hki : (k : Int) < no := by omega
                        have hk0 : (0 : Int) ≤ k := by omega
                        have hn6 := HNO.out.2
                        have hwk : IntKind.i64.wrap ((k : Int) + 1) = (k : Int) + 1 := by rw [IntKind.wrap_i64]; omega
                        obtain ⟨go, gc, cur, hgo, hgb, hbk, hsz⟩ := hI.at (by omega)
                        simp only [Value.slice.injEq] at hgo
                        obtain ⟨rfl, -, -⟩ := hgo
                        have hkM : k < M.length := by omega
                        have hlt5 := HA3.out.1.ob go rfl
                        have HF : Hid (∃ M : List Int, M.length = no ∧ InR (wr.setCell ⟨go, k, none⟩ (.int .i64 (-5))) w4.heap.size (.slice (some ⟨go, 0, none⟩) no oc) M) := by
                          have := hI.set cic_len k 0 (-5) (.int .i64 (-5)) hkM (by decide) rfl
                          rw [Nat.mul_one, Nat.add_zero] at this
                          exact ⟨_, by simpa using hMl, this⟩
                        have kF : Keeps (fun q => w4.heap.size ≤ q ∧ q < w5.heap.size) Wo (wr.setCell ⟨go, k, none⟩ (.int .i64 (-5))) := kM.setCell (.inr ⟨hgb, hlt5⟩) _
                        have ck : ∃ z, wr.cell? ⟨go, k, none⟩ = some z := ⟨_, by rw [cell_of_block hbk, Array.getElem?_eq_getElem (by omega)]⟩
                        obtain ⟨z, ck⟩ := ck
                        have fk : wr.frozen? ⟨go, k, none⟩ = false := frozen_of_block hbk _
                        clear hM hI hbk hsz hMl hkM
                        go_wp2_with fail
                        go_roundw
                        · exact ⟨k + 1, by simp, by omega, HF.out, kF⟩
                        · simp [intOf]; omega
                      · obtain rfl : k = no := by omega
                        have hkk : ¬ (k : Int) < (k : Int) := by omega
                        clear hM hI hMl
                        have KE : Keeps (fun q => (w2.heap.size ≤ q ∧ q < w3.heap.size) ∨ (w4.heap.size ≤ q ∧ q < w5.heap.size)) wC wr := (KD.mono fun q _ e => .inl e).trans (kM.mono fun q _ e => .inr e)
                        have hbb2 := HA3.out.1.b
                        have HM1 := HA3.out.1.m.1.keepsX KE (fun q hq e => by
                          have h1 := HA3.out.1.mb q hq
                          have h2 : w3.heap.size ≤ q := by
                            rcases hq with hq | hq
                            · exact (own_block HA3.out.1.m.1.own.own hq).2
                            · exact (HA3.out.1.m.1.rws.young hq).2
                          omega)
                        have HW1 := HA3.out.1.wt.1.keeps KE (fun q h1 h2 e => by omega)
                        have HP1 := HA3.out.1.p.keeps KE (fun q hq e => by have := (own_block HA3.out.1.p.own hq).2; omega)
                        have HQ1 := HA3.out.1.od.keeps KE (fun q hq e => by have := (own_block HA3.out.1.od.own hq).2; omega)
                        have KF : Keeps (fun _ => False) w wr := HA3.out.2.young KE (fun q hq => by omega)
                        have SB2 := rsbl_any _ _ Y Z (HA3.out.1.m.2.trans HA3.out.1.wt.2.symm) (by rw [← List.length_map (f := (·.p)), HA3.out.1.m.2, ← HN.out]; omega) (HBD.out Y HA3.out.1.m.2) wr HM1.ble HW1.ble
                        have HPQ : Hid (∀ V, Keeps (fun _ => False) wr V → ElsAt ciC 1 V _ _ ∧ ElsAt ciC 1 V _ _) := fun V kv => ⟨(HP1.els cic_len).keeps cic_ne kv, (HQ1.els cic_len).keeps cic_ne kv⟩
                        have HGG : Hid (∀ V, Keeps (fun _ => False) w V → Gv V ∧ 2 ≤ V.heap.size) := fun V kv => HGB.out _ V kv (fun _ _ f => f)
                        generalize wr = W5 at *
                        clear KE HM1 HW1 HP1 HQ1 KD kM HA3 HGB
                        go_wp2_with fail
                        refine SB2.mono ?_
                        rintro ex W6 ⟨rfl, k6⟩
                        have SI2 := rsin_any _ _ _ (by rw [← HNO.out.1]; have := HNO.out.2; omega) W6 (HPQ.out W6 k6).1 (HPQ.out W6 k6).2
                        clear SB2
                        go_wp2_with fail
                        refine SI2.mono ?_
                        rintro ex W7 ⟨rfl, k7⟩
                        have K7 := (KF.trans k6).trans k7
                        have KN := knownW_any W7 (HGG.out W7 K7).1 (HGG.out W7 K7).2
                        clear SI2
                        go_wp2_with fail
                        refine KN.mono ?_
                        rintro ex W8 ⟨rfl, k8⟩
                        have K8 := K7.trans k8
                        clear KN
                        go_wp2_with fail
                        go_ret
                        exact ⟨rfl, K8⟩
              · have h5b : (kd == 5) = false := by rw [beq_eq_false_iff_ne]; exact h5
                have h5n : (kd != 5) = true := by rw [bne_iff_ne]; exact h5
                have hA3 : an = decide (lla < lfi) := by rw [hA2]; simp [h5]
                subst hA3
                clear hA2
                go_wp2_with fail
                go_quiet (fail)
                have HA1 : Hid (Lw w w4 L _ _ _ _ _ _ X Y Z w2.heap.size w3.heap.size w4.heap.size w5.heap.size (w10.drewN nq) ∧ Keeps (fun _ => False) w (w10.drewN nq)) := ⟨HL.out.keeps ((Keeps.refl _ _).drewN nq), KW.drewN nq⟩
                generalize w10.drewN nq = wA at *
                have SB1 := rsbl_any (.slice la N lc) _ X Z (HA1.out.1.l.2.trans HA1.out.1.wt.2.symm) (by rw [HXN.out.1]; omega) (HBD.out X HA1.out.1.l.2) wA HA1.out.1.l.1.ble HA1.out.1.wt.1.ble
                clear HL KW
                go_wp2_with fail
                refine SB1.mono ?_
                rintro ex wB ⟨rfl, kB⟩
                have HA2 : Hid (Lw w w4 L _ _ _ _ _ _ X Y Z w2.heap.size w3.heap.size w4.heap.size w5.heap.size wB ∧ Keeps (fun _ => False) w wB) := ⟨HA1.out.1.keeps kB, HA1.out.2.trans kB⟩
                have SI1 := rsin_any _ _ _ (by rw [← HNO.out.1]; have := HNO.out.2; omega) wB (HA2.out.1.o.els cic_len) (HA2.out.1.od.els cic_len)
                clear SB1 kB HA1
                go_wp2_with fail
                refine SI1.mono ?_
                rintro ex wC ⟨rfl, kC⟩
                have HA3 : Hid (Lw w w4 L _ _ _ _ _ _ X Y Z w2.heap.size w3.heap.size w4.heap.size w5.heap.size wC ∧ Keeps (fun _ => False) w wC) := ⟨HA2.out.1.keeps kC, HA2.out.2.trans kC⟩
                clear SI1 kC HA2
                go_wp2_with fail
                have HS0 : Hid (Keeps (fun q => w2.heap.size ≤ q ∧ q < w3.heap.size) wC wC ∧ (0 < N → ∃ g, la = some ⟨g, 0, none⟩ ∧ Spo wC wC w2.heap.size w3.heap.size g X 0)) := ⟨Keeps.refl _ _, fun h0 => by
                  obtain ⟨g, cap', cur, h1, h2, h3, h4⟩ := HA3.out.1.l.1.own.at (by rw [HXN.out.1]; exact h0)
                  simp only [Value.slice.injEq] at h1
                  obtain ⟨rfl, h1b, -⟩ := h1
                  exact ⟨g, rfl, Spo.startB HA3.out.1.l.1 HA3.out.1.lb HXN.out.1.symm (by rw [HXN.out.1]; exact h0)⟩⟩
                go_loopw [22] (fun u22 wr => ∃ (i : Nat), u22 = .int .i64 i ∧ i ≤ N ∧ Hid (Keeps (fun q => w2.heap.size ≤ q ∧ q < w3.heap.size) wC wr ∧ (0 < N → ∃ g, la = some ⟨g, 0, none⟩ ∧ Spo wC wr w2.heap.size w3.heap.size g X i))) (fun u22 _ => N - (intOf u22).toNat)
                case atStart => exact ⟨0, rfl, Nat.zero_le _, HS0⟩
                case round =>
                  clear HS0
                  obtain ⟨i, rfl, hi, hh⟩ := hrel
                  generalize wr = Wo at *
                  by_cases hlt : i < N
                  · have hii : (i : Int) < N := by omega
                    have hi0 : (0 : Int) ≤ i := by omega
                    have hwi : IntKind.i64.wrap ((i : Int) + 1) = (i : Int) + 1 := by rw [IntKind.wrap_i64]; omega
                    obtain ⟨g, rfl, hS⟩ := hh.out.2 (by omega)
                    have hiX : i < X.length := by rw [HXN.out.1]; exact hlt
                    have HXI : Hid (∀ W, Spo wC W w2.heap.size w3.heap.size g X i → W.cell? ⟨g, i * 9 + 7, none⟩ = some (X[i]).r.v ∧ W.cell? ⟨g, i * 9 + 8, none⟩ = some (X[i]).s.v ∧ RT W (X[i]).r (X[i]).p.rs.length ∧ RT W (X[i]).s (X[i]).p.ws.length) := fun W q => by
                      obtain ⟨cur, m1, m2, m3⟩ := q.main
                      obtain ⟨e1, e2⟩ := m3 i hiX (Nat.le_refl _)
                      exact ⟨by rw [cell_of_block m1]; exact e1, by rw [cell_of_block m1]; exact e2, (q.rows _ (List.getElem_mem hiX)).1, (q.rows _ (List.getElem_mem hiX)).2⟩
                    have HMX : Hid ((∀ q, (X[i]).r.v.ownBlock = some q → q ∈ ows X) ∧ (∀ q, (X[i]).s.v.ownBlock = some q → q ∈ ows X) ∧ (X[i]).p.rs.length ≤ 60000 ∧ (X[i]).p.ws.length ≤ 60000) := ⟨fun q hq => ows_mem (List.getElem_mem hiX) (.inl hq), fun q hq => ows_mem (List.getElem_mem hiX) (.inr hq), HBD.out X HA3.out.1.l.2 _ (List.getElem_mem hiX)⟩
                    generalize X[i]'hiX = xx at *
                    obtain ⟨p, ⟨ra, rn, rc⟩, ⟨sa, sn, sc⟩⟩ := xx
                    dsimp only at HXI HMX
                    generalize p.rs.length = nr at *
                    generalize p.ws.length = nw at *
                    obtain ⟨-, -, rt1, rt2⟩ := HXI.out Wo hS
                    obtain rfl : rn = nr := rt1.len
                    obtain rfl : sn = nw := rt2.len
                    have hb3 : rn ≤ 60000 ∧ sn ≤ 60000 := HMX.out.2.2
                    obtain ⟨hrn, hsn⟩ := hb3
                    have HSp : Hid (Spo wC Wo w2.heap.size w3.heap.size g X i) := hS
                    clear hS hh rt1 rt2
                    go_wp2_with fail
                    go_loopw [23] (fun u23 wr => ∃ (k : Nat), u23 = .int .i64 k ∧ k ≤ rn ∧ Hid (Spo wC wr w2.heap.size w3.heap.size g X i)) (fun u23 _ => rn - (intOf u23).toNat)
                    case atStart => exact ⟨0, rfl, Nat.zero_le _, HSp⟩
                    case round =>
                      clear HSp
                      obtain ⟨k, rfl, hk, hS⟩ := hrel
                      obtain ⟨c7, c8, rt1, rt2⟩ := HXI.out wr hS.out
                      dsimp only [Sl.v] at c7 c8
                      by_cases hkn : k < rn
                      · have hki : (k : Int) < rn := by omega
                        have hk0 : (0 : Int) ≤ k := by omega
                        have hwk : IntKind.i64.wrap ((k : Int) + 1) = (k : Int) + 1 := by rw [IntKind.wrap_i64]; omega
                        obtain ⟨q, cur, hra, hb, hsz⟩ := rt1.at' (by omega)
                        dsimp only at hra
                        subst hra
                        have hr := run_storeAt_mid (P := Tryd.prog) wr q (k * 3) 47 #[.int .u64 99, .int .u64 0, .bool false] (there_of hb (by simp; omega)) (by kernel_rfl) (by simp [Value.oneCell'])
                        have HR : Hid (_ = _) := hr
                        have HF : Hid (Spo wC (wr.setCells q (k * 3) [.int .u64 99, .int .u64 0, .bool false]) w2.heap.size w3.heap.size g X i) := hS.out.row (HMX.out.1 q rfl) _ _
                        generalize hW : wr.setCells q (k * 3) [.int .u64 99, .int .u64 0, .bool false] = W9 at *
                        have HR2 : Hid ((Instr.storeAt 47 (.pointer (some ⟨q, k * 3, none⟩)) (.agg #[.int .u64 99, .int .u64 0, .bool false])).run Tryd.prog wr = .ok () W9) := HR
                        clear hr HR hW hS rt1 rt2 c8 hb hsz
                        go_wp2_with (refine wpList_store_run rfl 47 _ _ rfl rfl rfl HR2.out ?_)
                        go_roundw
                        · exact ⟨k + 1, by simp, by omega, HF.out⟩
                        · simp [intOf]; omega
                      · obtain rfl : k = rn := by omega
                        have hkk : ¬ (k : Int) < (k : Int) := by omega
                        have HS1 : Hid (Spo wC wr w2.heap.size w3.heap.size g X i) := hS.out
                        generalize wr = W1 at *
                        clear hS rt1 rt2
                        go_wp2_with fail
                        go_loopw [24] (fun u24 wr => ∃ (k : Nat), u24 = .int .i64 k ∧ k ≤ sn ∧ Hid (Spo wC wr w2.heap.size w3.heap.size g X i)) (fun u24 _ => sn - (intOf u24).toNat)
                        case atStart => exact ⟨0, rfl, Nat.zero_le _, HS1⟩
                        case round =>
                          clear HS1
                          obtain ⟨j, rfl, hj, hS⟩ := hrel
                          obtain ⟨e7, e8, rt1, rt2⟩ := HXI.out wr hS.out
                          dsimp only [Sl.v] at e7 e8
                          by_cases hjn : j < sn
                          · have hji : (j : Int) < sn := by omega
                            have hj0 : (0 : Int) ≤ j := by omega
                            have hwj : IntKind.i64.wrap ((j : Int) + 1) = (j : Int) + 1 := by rw [IntKind.wrap_i64]; omega
                            obtain ⟨q, cur, hra, hb, hsz⟩ := rt2.at' (by omega)
                            dsimp only at hra
                            subst hra
                            have hr := run_storeAt_mid (P := Tryd.prog) wr q (j * 3) 47 #[.int .u64 99, .int .u64 0, .bool false] (there_of hb (by simp; omega)) (by kernel_rfl) (by simp [Value.oneCell'])
                            have HR : Hid (_ = _) := hr
                            have HF : Hid (Spo wC (wr.setCells q (j * 3) [.int .u64 99, .int .u64 0, .bool false]) w2.heap.size w3.heap.size g X i) := hS.out.row (HMX.out.2.1 q rfl) _ _
                            generalize hW : wr.setCells q (j * 3) [.int .u64 99, .int .u64 0, .bool false] = W9 at *
                            have HR2 : Hid ((Instr.storeAt 47 (.pointer (some ⟨q, j * 3, none⟩)) (.agg #[.int .u64 99, .int .u64 0, .bool false])).run Tryd.prog wr = .ok () W9) := HR
                            clear hr HR hW hS rt1 rt2 e7 hb hsz c7 c8
                            go_wp2_with (refine wpList_store_run rfl 47 _ _ rfl rfl rfl HR2.out ?_)
                            go_roundw
                            · exact ⟨j + 1, by simp, by omega, HF.out⟩
                            · simp [intOf]; omega
                          · obtain rfl : j = sn := by omega
                            have hjj : ¬ (j : Int) < (j : Int) := by omega
                            obtain ⟨cur, m1, m2, m3⟩ := hS.out.main
                            have hr := run_storeAt_mid (P := Tryd.prog) wr g (i * 9) 43 #[.int .i64 0, .int .i64 0, .int .i64 0, .int .i64 0, .int .u64 0, .bool false, .int .i64 0, .slice none 0 0, .slice none 0 0] (there_of m1 (by simp; omega)) (by kernel_rfl) (by simp [Value.oneCell'])
                            have HR : Hid (_ = _) := hr
                            have HF : Hid (Spo wC (wr.setCells g (i * 9) [.int .i64 0, .int .i64 0, .int .i64 0, .int .i64 0, .int .u64 0, .bool false, .int .i64 0, .slice none 0 0, .slice none 0 0]) w2.heap.size w3.heap.size g X (i + 1)) := hS.out.elem _ rfl
                            generalize hW : wr.setCells g (i * 9) [.int .i64 0, .int .i64 0, .int .i64 0, .int .i64 0, .int .u64 0, .bool false, .int .i64 0, .slice none 0 0, .slice none 0 0] = W9 at *
                            have HR2 : Hid ((Instr.storeAt 43 (.pointer (some ⟨g, i * 9, none⟩)) (.agg #[.int .i64 0, .int .i64 0, .int .i64 0, .int .i64 0, .int .u64 0, .bool false, .int .i64 0, .slice none 0 0, .slice none 0 0])).run Tryd.prog wr = .ok () W9) := HR
                            have HE : Hid (Keeps (fun q => w2.heap.size ≤ q ∧ q < w3.heap.size) wC W9 ∧ (0 < N → ∃ g', (some ⟨g, 0, none⟩ : Option Addr) = some ⟨g', 0, none⟩ ∧ Spo wC W9 w2.heap.size w3.heap.size g' X (i + 1))) := ⟨HF.out.kp, fun _ => ⟨g, rfl, HF.out⟩⟩
                            clear hr HR hW hS rt1 rt2 e7 m1 m2 m3 c7 c8 HF
                            go_wp2_with (refine wpList_store_run rfl 43 _ _ rfl rfl rfl HR2.out ?_)
                            go_roundw
                            · exact ⟨i + 1, by simp, by omega, HE.out⟩
                            · simp [intOf]; omega
                  · obtain rfl : i = N := by omega
                    have hii : ¬ (i : Int) < (i : Int) := by omega
                    have KD := hh.out.1
                    clear hh
                    have hbb := HA3.out.1.b
                    have HO0 : Hid (∃ M : List Int, M.length = no ∧ InR Wo w4.heap.size (.slice oa no oc) M) := ⟨_, HNO.out.1.symm, HA3.out.1.o.keeps KD (fun q hq e => by have := (own_block HA3.out.1.o.own hq).2; omega)⟩
                    go_wp2_with fail
                    go_loopw [25] (fun u25 wr => ∃ (k : Nat), u25 = .int .i64 k ∧ k ≤ no ∧ Hid (∃ M : List Int, M.length = no ∧ InR wr w4.heap.size (.slice oa no oc) M) ∧ Keeps (fun q => w4.heap.size ≤ q ∧ q < w5.heap.size) Wo wr) (fun u25 _ => no - (intOf u25).toNat)
                    case atStart => exact ⟨0, rfl, Nat.zero_le _, HO0, Keeps.refl _ _⟩
                    case round =>
                      clear HO0
                      obtain ⟨k, rfl, hk, hM, kM⟩ := hrel
                      obtain ⟨M, hMl, hI⟩ := hM.out
                      by_cases hkn : k < no
                      · have hki : (k : Int) < no := by omega
                        have hk0 : (0 : Int) ≤ k := by omega
                        have hn6 := HNO.out.2
                        have hwk : IntKind.i64.wrap ((k : Int) + 1) = (k : Int) + 1 := by rw [IntKind.wrap_i64]; omega
                        obtain ⟨go, gc, cur, hgo, hgb, hbk, hsz⟩ := hI.at (by omega)
                        simp only [Value.slice.injEq] at hgo
                        obtain ⟨rfl, -, -⟩ := hgo
                        have hkM : k < M.length := by omega
                        have hlt5 := HA3.out.1.ob go rfl
                        have HF : Hid (∃ M : List Int, M.length = no ∧ InR (wr.setCell ⟨go, k, none⟩ (.int .i64 (-5))) w4.heap.size (.slice (some ⟨go, 0, none⟩) no oc) M) := by
                          have := hI.set cic_len k 0 (-5) (.int .i64 (-5)) hkM (by decide) rfl
                          rw [Nat.mul_one, Nat.add_zero] at this
                          exact ⟨_, by simpa using hMl, this⟩
                        have kF : Keeps (fun q => w4.heap.size ≤ q ∧ q < w5.heap.size) Wo (wr.setCell ⟨go, k, none⟩ (.int .i64 (-5))) := kM.setCell (.inr ⟨hgb, hlt5⟩) _
                        have ck : ∃ z, wr.cell? ⟨go, k, none⟩ = some z := ⟨_, by rw [cell_of_block hbk, Array.getElem?_eq_getElem (by omega)]⟩
                        obtain ⟨z, ck⟩ := ck
                        have fk : wr.frozen? ⟨go, k, none⟩ = false := frozen_of_block hbk _
                        clear hM hI hbk hsz hMl hkM
                        go_wp2_with fail
                        go_roundw
                        · exact ⟨k + 1, by simp, by omega, HF.out, kF⟩
                        · simp [intOf]; omega
                      · obtain rfl : k = no := by omega
                        have hkk : ¬ (k : Int) < (k : Int) := by omega
                        clear hM hI hMl
                        have KE : Keeps (fun q => (w2.heap.size ≤ q ∧ q < w3.heap.size) ∨ (w4.heap.size ≤ q ∧ q < w5.heap.size)) wC wr := (KD.mono fun q _ e => .inl e).trans (kM.mono fun q _ e => .inr e)
                        have hbb2 := HA3.out.1.b
                        have HM1 := HA3.out.1.m.1.keepsX KE (fun q hq e => by
                          have h1 := HA3.out.1.mb q hq
                          have h2 : w3.heap.size ≤ q := by
                            rcases hq with hq | hq
                            · exact (own_block HA3.out.1.m.1.own.own hq).2
                            · exact (HA3.out.1.m.1.rws.young hq).2
                          omega)
                        have HW1 := HA3.out.1.wt.1.keeps KE (fun q h1 h2 e => by omega)
                        have HP1 := HA3.out.1.p.keeps KE (fun q hq e => by have := (own_block HA3.out.1.p.own hq).2; omega)
                        have HQ1 := HA3.out.1.od.keeps KE (fun q hq e => by have := (own_block HA3.out.1.od.own hq).2; omega)
                        have KF : Keeps (fun _ => False) w wr := HA3.out.2.young KE (fun q hq => by omega)
                        have SB2 := rsbl_any _ _ Y Z (HA3.out.1.m.2.trans HA3.out.1.wt.2.symm) (by rw [← List.length_map (f := (·.p)), HA3.out.1.m.2, ← HN.out]; omega) (HBD.out Y HA3.out.1.m.2) wr HM1.ble HW1.ble
                        have HPQ : Hid (∀ V, Keeps (fun _ => False) wr V → ElsAt ciC 1 V _ _ ∧ ElsAt ciC 1 V _ _) := fun V kv => ⟨(HP1.els cic_len).keeps cic_ne kv, (HQ1.els cic_len).keeps cic_ne kv⟩
                        have HGG : Hid (∀ V, Keeps (fun _ => False) w V → Gv V ∧ 2 ≤ V.heap.size) := fun V kv => HGB.out _ V kv (fun _ _ f => f)
                        generalize wr = W5 at *
                        clear KE HM1 HW1 HP1 HQ1 KD kM HA3 HGB
                        go_wp2_with fail
                        refine SB2.mono ?_
                        rintro ex W6 ⟨rfl, k6⟩
                        have SI2 := rsin_any _ _ _ (by rw [← HNO.out.1]; have := HNO.out.2; omega) W6 (HPQ.out W6 k6).1 (HPQ.out W6 k6).2
                        clear SB2
                        go_wp2_with fail
                        refine SI2.mono ?_
                        rintro ex W7 ⟨rfl, k7⟩
                        have K7 := (KF.trans k6).trans k7
                        have KN := knownW_any W7 (HGG.out W7 K7).1 (HGG.out W7 K7).2
                        clear SI2
                        go_wp2_with fail
                        refine KN.mono ?_
                        rintro ex W8 ⟨rfl, k8⟩
                        have K8 := K7.trans k8
                        clear KN
                        go_wp2_with fail
                        go_ret
                        exact ⟨rfl, K8⟩
            · exact absurd (HCS.out.2.2.2) (by rw [← HN.out]; exact hbN)
          · exact absurd (HCS.out.2.2.1) (by rw [← HN.out]; exact haN)
        · exact absurd HCS.out.2.1 hb0
      · exact absurd HCS.out.1 ha0
    · have E2 := HC.out w2 k2
      have B1 := blocks_no _ L hz w2 E2.1 E2.2.2.1 E2.2.2.2.1
      obtain ⟨cz, hcz⟩ : ∃ cz, cz = (checkL L).2 := ⟨_, rfl⟩
      have HZ2 : Hid (cz = (checkL L).2) := hcz
      rw [← hcz] at B1 ⊢
      have hzb : (cz == 0) = false := by rw [beq_eq_false_iff_ne, hcz]; exact hz
      have hzn : (cz != 0) = true := by rw [bne_iff_ne, hcz]; exact hz
      clear hcz
      go_wp2_with fail
      refine B1.mono ?_
      rintro ex w3 ⟨rfl, k3⟩
      have K3 := k2.trans k3
      have E3 := HC.out w3 K3
      have B2 := blocks_no _ L hz w3 E3.1 E3.2.2.1 E3.2.2.2.1
      rw [← HZ2.out] at B2
      clear B1
      go_wp2_with fail
      refine B2.mono ?_
      rintro ex w4 ⟨rfl, k4⟩
      have K4 := K3.trans k4
      have E4 := HC.out w4 K4
      have O1 := order_no _ L hz w4 E4.1 E4.2.2.1 E4.2.2.2.1
      rw [← HZ2.out] at O1
      clear B2
      go_wp2_with fail
      refine O1.mono ?_
      rintro ex w5 ⟨rfl, k5⟩
      have K5 := K4.trans k5
      have E5 := HC.out w5 K5
      have O2 := order_no _ L hz w5 E5.1 E5.2.2.1 E5.2.2.2.1
      rw [← HZ2.out] at O2
      clear O1
      go_wp2_with fail
      refine O2.mono ?_
      rintro ex w6 ⟨rfl, k6⟩
      have K6 := K5.trans k6
      have E6 := HC.out w6 K6
      have AH := ahead_no _ L a b hz w6 E6.1 E6.2.2.1 E6.2.2.2.1
      clear O2
      go_wp2_with fail
      refine AH.mono ?_
      rintro ex w7 ⟨rfl, k7⟩
      have K7 := K6.trans k7
      have E7 := HC.out w7 K7
      have KP := keptW_any _ L cb cc hcc w7 E7.2.1 E7.2.2.2.2.els (by omega)
      clear AH
      go_wp2_with fail
      refine KP.mono ?_
      rintro ex w8 ⟨rfl, k8⟩
      have K8 := K7.trans k8
      have E8 := HC.out w8 K8
      have KN := knownW_any w8 E8.2.2.1 E8.2.2.2.1
      clear KP
      go_wp2_with fail
      refine KN.mono ?_
      rintro ex w9 ⟨rfl, k9⟩
      have K9 := (k1.trans K8).trans k9
      clear KN
      go_wp2_with fail
      go_ret
      exact ⟨rfl, K9⟩
end Go.Proofs.YtjkileijkgbndaaDoor
