
/- The walk of the document's Insert (layer 22). No statement of the seat is proved here. -/
import Derived.Test.YtjgibkofenkehaaSrC
import Derived.Test.YtjgibkofenkehaaSrAM
import Derived.Test.YtjgibkofenkehaaSkO
namespace Go.Proofs.Ytjgibkofenkehaa
open Go.RowKit

theorem hang_comm (a k : Int) : uw (uw a + k) = uw (a + k) := by unfold uw; simp only [IntKind.wrap_u64]; omega
theorem hang_next (a : Int) (k : Nat) : uw (uw (uw a + k) + 1) = uw (uw a + ((k + 1 : Nat) : Int)) := by unfold uw; simp only [IntKind.wrap_u64]; omega
/-- What stands in the loop of the document's Insert. -/
structure Ri (w : World) (b g c q : Nat) (node : Int) (la : List Lk) (cl tl : List Int) (wd nn : Int) (m : Nat) (fin : Int × Wd) (X : World) (k : Nat) (e : Int) (s' : Wd) : Prop where
  hs : Hs 30 w b g c X s'
  lo : Lo X b g q (recO cl tl wd nn)
  st : (e = 0 ∧ fin = hangL node ((la.take m).drop k) (uw (uw (node + 2) + k)) s' ∧ Rm s' (2 * (m - k))) ∨ (e ≠ 0 ∧ fin = (e, s'))
set_option maxRecDepth 100000 in
set_option maxHeartbeats 4000000 in
theorem rins_any (b g c : Nat) (s : Wd) (room at_ x level : Int) (hro : isW room) (hat : isW at_) (hx : isW x) (rms : Rm s 131200) (w : World) (h : WdAt 30 w b g c s) :
    Calls Try.prog 33 #[.pointer (some ⟨b, 0, none⟩), .int .u64 room, .int .u64 at_, .int .u64 x, .int .i64 level] w fun e w' => e = .returned (.tuple #[.bool (s.ins room at_ x level).1.1, .int .i64 (s.ins room at_ x level).1.2]) ∧ Hs 30 w b g c w' (s.ins room at_ x level).2 := by
  have oks := h.ok
  have HS := hid (Hs.start h)
  clear h
  obtain ⟨⟨⟨la, e⟩, s1⟩, eq1⟩ : ∃ r, s.search (pLt x) at_ = r := ⟨_, rfl⟩
  obtain ⟨oks1, h8, hla, _⟩ := SrOk.of oks eq1
  have rms1 : Rm s1 110 := (rms : Rm s (110 + 131090)).search oks eq1
  by_cases he : e = 0
  · subst he
    cases hv : haveB la x with
    | true =>
      have hs : s.ins room at_ x level = ((false, 0), s1) := by
        unfold Wd.ins
        rw [eq1]
        dsimp only
        rw [if_pos (.inr hv)]
      rw [hs]
      have HE : Hid (s.search (pP false x) at_ = ((la, 0), s1)) := eq1
      clear eq1 hs
      go_enter Try.func33, Try.ntmps33
      go_wp2_with fail
      refine (rsearch_r HE hat (rms.le (by omega)) HS.out.wd).mono ?_
      rintro e_ w2 ⟨cl, tl, wd, nn, rfl, hse, h2⟩
      have HH := hid (HS.out.trans h2)
      have HSE := hid hse
      clear HS h2 HE hse
      have hrn := rec_new HH.out cl tl wd nn
      obtain ⟨X, hX⟩ : ∃ X, X = (w2.alloc (recO z8 z8 0 0)).setRow w2.heap.size (rcs cl tl wd nn) := ⟨_, rfl⟩
      have hX' : (w2.alloc (.cells #[.int .u64 0, .int .u64 0, .int .u64 0, .int .u64 0, .int .u64 0, .int .u64 0, .int .u64 0, .int .u64 0, .int .u64 0, .int .u64 0, .int .u64 0, .int .u64 0, .int .u64 0, .int .u64 0, .int .u64 0, .int .u64 0, .int .u64 0, .int .i64 0] 109)).setRow w2.heap.size (rcs cl tl wd nn) = X := hX.symm
      rw [← hX] at hrn
      have HRN := hid hrn
      clear hX hrn
      go_wp2_with (first | (refine wpList_store_row rfl 109 _ _ rfl w2.heap.size (rcs cl tl wd nn) rfl rfl 109 (rcs z8 z8 0 0) (alloc_block w2 _) (by rw [size_sea, rcs_size HSE.out.c8 HSE.out.t8]) (by rw [rcs_size rfl rfl, rcs_size HSE.out.c8 HSE.out.t8]) (rcs_one _ _ _ _) ?_; rw [hX']) | (refine wpList_load_rowG rfl 109 _ rfl w2.heap.size rfl 109 (rcs cl tl wd nn) (0, 0) _ HRN.out.2.at_ Try.underlying109 rfl (by rw [size_sea, rcs_size HSE.out.c8 HSE.out.t8]) ?_))
      refine (there_any h8 HSE.out x _).mono ?_
      rintro e_ w3 ⟨rfl, k3⟩
      have H3 := hid (And.intro (HRN.out.1.new k3) (HRN.out.2.after HRN.out.1.wd.ltb k3))
      clear HH k3 HRN hX'
      rw [hv]
      go_wp2_with fail
      go_ret2
      exact ⟨rfl, H3.out.1⟩
    | false =>
      have hgo := hgt_of level
      have hgw := hgt_w level
      obtain ⟨hl, hhl⟩ : ∃ z, hgt level = z := ⟨_, rfl⟩
      rw [hhl] at hgo hgw
      obtain ⟨mx, hmx⟩ : ∃ z, (if 8 < level then (8 : Int) else level) = z := ⟨_, rfl⟩
      have hmn : (if 1 < mx then mx else (1 : Int)) = hl := by
        rw [← hhl, ← hmx]
        unfold hgt
        omega
      have hcv : IntKind.u64.wrap hl = hl := uw_id hgw
      have hc2 : IntKind.u64.wrap (hl + 2) = uw (2 + hl) := by rw [Int.add_comm]; rfl
      have hmay : mayN (uw (2 + hl)) := by unfold mayN uw; simp only [IntKind.wrap_u64]; omega
      obtain ⟨⟨⟨node, f⟩, s2⟩, eq2⟩ : ∃ r, s1.take room (uw (2 + hl)) = r := ⟨_, rfl⟩
      have rms2 : Rm s2 106 := rms1.take eq2
      have oks2 : s2.Ok ∧ isW node := by have q := oks1.take room (uw (2 + hl)); rw [eq2] at q; exact q
      have HE2 : Hid (_ = _) := eq2
      obtain ⟨m, hmm⟩ : ∃ m : Nat, hl = (m : Int) := ⟨hl.toNat, by omega⟩
      have pre : s.ins room at_ x level = (if f ≠ 0 then ((false, f), s2) else match s2.write node x hl with
        | (f2, s3) => if f2 ≠ 0 then ((false, f2), s3) else match hangL node (la.take m) (uw (node + 2)) s3 with
          | (f3, s4) => ((decide (f3 = 0), f3), s4)) := by
        unfold Wd.ins
        rw [eq1]
        dsimp only
        rw [if_neg (by simp [hv]), hhl, eq2]
        have : hl.toNat = m := by omega
        rw [this]
      have HE : Hid (s.search (pP false x) at_ = ((la, 0), s1)) := eq1
      clear eq1 eq2
      subst hmm
      by_cases hf : f = 0
      · subst hf
        obtain ⟨⟨f2, s3⟩, eq3⟩ : ∃ r, s2.put node x = r := ⟨_, rfl⟩
        have rms3 : Rm s3 105 := rms2.put eq3
        have HE3 : Hid (_ = _) := eq3
        by_cases hf2 : f2 = 0
        · subst hf2
          obtain ⟨⟨f4, s4⟩, eq4⟩ : ∃ r, s3.put (uw (node + 1)) (m : Int) = r := ⟨_, rfl⟩
          have rms4 : Rm s4 104 := rms3.put eq4
          have HE4 : Hid (_ = _) := eq4
          have hwr : s2.write node x (m : Int) = (f4, s4) := by
            unfold Wd.write
            rw [eq3]
            dsimp only
            rw [if_neg (by simp), eq4]
          rw [if_neg (by simp), hwr] at pre
          dsimp only at pre
          by_cases hf4 : f4 = 0
          · subst hf4
            rw [if_neg (by simp)] at pre
            obtain ⟨fin, hfin⟩ : ∃ r, hangL node (la.take m) (uw (node + 2)) s4 = r := ⟨_, rfl⟩
            rw [hfin] at pre
            have hs : s.ins room at_ x level = ((decide (fin.1 = 0), fin.1), fin.2) := pre
            rw [hs]
            have HFIN := hid hfin
            clear hs pre eq3 eq4 hfin
            go_enter Try.func33, Try.ntmps33
            go_wp2_with fail
            refine (rsearch_r HE hat (rms.le (by omega)) HS.out.wd).mono ?_
            rintro e_ w2 ⟨cl, tl, wd, nn, rfl, hse, h2⟩
            have HH := hid (HS.out.trans h2)
            have HSE := hid hse
            clear HS h2 HE hse
            have hrn := rec_new HH.out cl tl wd nn
            obtain ⟨X, hX⟩ : ∃ X, X = (w2.alloc (recO z8 z8 0 0)).setRow w2.heap.size (rcs cl tl wd nn) := ⟨_, rfl⟩
            have hX' : (w2.alloc (.cells #[.int .u64 0, .int .u64 0, .int .u64 0, .int .u64 0, .int .u64 0, .int .u64 0, .int .u64 0, .int .u64 0, .int .u64 0, .int .u64 0, .int .u64 0, .int .u64 0, .int .u64 0, .int .u64 0, .int .u64 0, .int .u64 0, .int .u64 0, .int .i64 0] 109)).setRow w2.heap.size (rcs cl tl wd nn) = X := hX.symm
            rw [← hX] at hrn
            have HRN := hid hrn
            clear hX hrn
            go_wp2_with (first | (refine wpList_store_row rfl 109 _ _ rfl w2.heap.size (rcs cl tl wd nn) rfl rfl 109 (rcs z8 z8 0 0) (alloc_block w2 _) (by rw [size_sea, rcs_size HSE.out.c8 HSE.out.t8]) (by rw [rcs_size rfl rfl, rcs_size HSE.out.c8 HSE.out.t8]) (rcs_one _ _ _ _) ?_; rw [hX']) | (refine wpList_load_rowG rfl 109 _ rfl w2.heap.size rfl 109 (rcs cl tl wd nn) (0, 0) _ HRN.out.2.at_ Try.underlying109 rfl (by rw [size_sea, rcs_size HSE.out.c8 HSE.out.t8]) ?_))
            refine (there_any h8 HSE.out x _).mono ?_
            rintro e_ w3 ⟨rfl, k3⟩
            have H3 := hid (And.intro (HRN.out.1.new k3) (HRN.out.2.after HRN.out.1.wd.ltb k3))
            clear HH k3 HRN hX'
            rw [hv]
            go_wp2_with fail
            refine (rtake_r HE2 hro hmay (rms1.le (by omega)) H3.out.1.wd).mono ?_
            rintro e_ w4 ⟨rfl, h4⟩
            have H4 := hid (And.intro (H3.out.1.trans h4) (H3.out.2.hs h4))
            clear H3 h4 HE2
            go_wp2_with fail
            refine (wput_r HE3 oks2.2 hx (rms2.le (by omega)) H4.out.1.wd).mono ?_
            rintro e_ w5 ⟨rfl, h5⟩
            have H5 := hid (And.intro (H4.out.1.trans h5) (H4.out.2.hs h5))
            clear H4 h5 HE3
            go_wp2_with fail
            refine (wput_r HE4 (uw_isW _) hgw (rms3.le (by omega)) H5.out.1.wd).mono ?_
            rintro e_ w6 ⟨rfl, h6⟩
            have H6 := hid (And.intro (H5.out.1.trans h6) (H5.out.2.hs h6))
            clear H5 h6 HE4
            have HR : Hid (Ri w b g c w2.heap.size node la cl tl wd nn m fin w6 0 0 s4) := by
              refine hid ⟨H6.out.1, H6.out.2, .inl ⟨rfl, ?_, rms4.le (by omega)⟩⟩
              rw [List.drop_zero, ← HFIN.out]
              have : uw (uw (node + 2) + ((0 : Nat) : Int)) = uw (node + 2) := by rw [hang_comm]; simp
              rw [this]
            clear H6
            go_wp2_with fail
            go_loopw [13, 16] (fun ev kv wr => ∃ (k : Nat) (e : Int) (s' : Wd), k ≤ m ∧ kv = .int .i64 (k : Int) ∧ ev = .int .i64 e ∧ Hid (Ri w b g c w2.heap.size node la cl tl wd nn m fin wr k e s')) (fun _ kv _ => m - (intOf kv).toNat)
            case atStart => exact ⟨0, 0, s4, by omega, rfl, rfl, HR⟩
            case round =>
              obtain ⟨k, e, s', hk, rfl, rfl, HY⟩ := hrel
              clear HR
              by_cases hkm : k < m
              · have hki : (k : Int) < (m : Int) := by omega
                by_cases he : e = 0
                · subst he
                  have hk8 : k < 8 := by omega
                  have hwk : IntKind.u64.wrap (k : Int) = (k : Int) := by rw [IntKind.wrap_u64]; omega
                  have hwk1 : IntKind.i64.wrap ((k : Int) + 1) = (k : Int) + 1 := by rw [IntKind.wrap_i64]; omega
                  obtain ⟨hfn, hrm⟩ : fin = hangL node ((la.take m).drop k) (uw (uw (node + 2) + k)) s' ∧ Rm s' (2 * (m - k)) := by
                    rcases HY.out.st with q | q
                    · exact q.2
                    · exact absurd rfl q.1
                  have c0 := rec_c HY.out.lo.at_ HSE.out.c8 HSE.out.t8 hk8
                  have t0 := rec_t HY.out.lo.at_ HSE.out.c8 HSE.out.t8 hk8
                  rw [HSE.out.cl rfl, oat_cL h8 hk8] at c0
                  rw [HSE.out.tl rfl, oat_tL h8 hk8] at t0
                  obtain ⟨⟨l1, l2, l3⟩, hlk⟩ : ∃ l, lk la k = l := ⟨_, rfl⟩
                  have HLK : Hid (Lk.Ok ⟨l1, l2, l3⟩) := hid (hlk ▸ lk_ok hla k)
                  have HLKE := hid hlk
                  rw [hlk] at c0 t0
                  dsimp only at c0 t0
                  have hdr : (la.take m).drop k = ⟨l1, l2, l3⟩ :: (la.take m).drop (k + 1) := by
                    have hkl : k < (la.take m).length := by rw [List.length_take]; omega
                    rw [List.drop_eq_getElem_cons hkl]
                    have : (la.take m)[k] = ⟨l1, l2, l3⟩ := by
                      rw [List.getElem_take, ← hlk]
                      unfold lk
                      rw [List.getElem?_eq_getElem (by omega)]
                      rfl
                    rw [this]
                  rw [hdr] at hfn
                  obtain ⟨⟨f5, s5⟩, eq5⟩ : ∃ r, s'.put (uw (uw (node + 2) + k)) l2 = r := ⟨_, rfl⟩
                  have rms5 : Rm s5 1 := (hrm.le (by omega) : Rm s' 2).put eq5
                  have HE5 : Hid (_ = _) := eq5
                  have HRM1 : Hid (Rm s' 1) := hid (hrm.le (by omega))
                  unfold hangL at hfn
                  dsimp only at hfn
                  rw [eq5] at hfn
                  dsimp only at hfn
                  by_cases hf5 : f5 = 0
                  · subst hf5
                    obtain ⟨⟨f6, s6⟩, eq6⟩ : ∃ r, s5.put l1 (uw (node + 1)) = r := ⟨_, rfl⟩
                    have HE6 : Hid (_ = _) := eq6
                    rw [if_neg (by simp), eq6] at hfn
                    dsimp only at hfn
                    have HST : Hid ((f6 = 0 ∧ fin = hangL node ((la.take m).drop (k + 1)) (uw (uw (node + 2) + ((k + 1 : Nat) : Int))) s6 ∧ Rm s6 (2 * (m - (k + 1)))) ∨ (f6 ≠ 0 ∧ fin = (f6, s6))) := by
                      by_cases hf6 : f6 = 0
                      · refine hid (.inl ⟨hf6, ?_, ?_⟩)
                        · rw [if_neg (by simp [hf6])] at hfn
                          rw [hfn, hang_next]
                        · have q1 := put_len s' (uw (uw (node + 2) + k)) l2
                          have q2 := put_len s5 l1 (uw (node + 1))
                          rw [eq5] at q1
                          rw [eq6] at q2
                          have q1' : s5.L.length = s'.L.length + 1 := q1
                          have q2' : s6.L.length = s5.L.length + 1 := q2
                          unfold Rm at hrm ⊢
                          omega
                      · rw [if_pos hf6] at hfn
                        exact hid (.inr ⟨hf6, hfn⟩)
                    clear eq5 eq6 hfn hrm hdr hlk
                    go_wp2_with fail
                    refine (wput_r HE5 (uw_isW _) HLK.out.2.1 HRM1.out HY.out.hs.wd).mono ?_
                    rintro e_ w7 ⟨rfl, h7⟩
                    have H7 := hid (And.intro (HY.out.hs.trans h7) (HY.out.lo.hs h7))
                    clear HY h7 HE5 c0 t0
                    have c0 := rec_c H7.out.2.at_ HSE.out.c8 HSE.out.t8 hk8
                    rw [HSE.out.cl rfl, oat_cL h8 hk8] at c0
                    rw [HLKE.out] at c0
                    dsimp only at c0
                    go_wp2_with fail
                    refine (wput_r HE6 HLK.out.1 (uw_isW _) rms5 H7.out.1.wd).mono ?_
                    rintro e_ w8 ⟨rfl, h8'⟩
                    have H8 : Hid (Ri w b g c w2.heap.size node la cl tl wd nn m fin w8 (k + 1) f6 s6) := hid ⟨H7.out.1.trans h8', H7.out.2.hs h8', HST.out⟩
                    clear H7 h8' HE6 c0
                    go_wp2_with fail
                    go_roundw
                    case rel => exact ⟨k + 1, f6, s6, by omega, by simp, rfl, H8⟩
                    case measure => simp [intOf]; omega
                  · rw [if_pos hf5] at hfn
                    have HST : Hid (f5 ≠ 0 ∧ fin = (f5, s5)) := hid ⟨hf5, hfn⟩
                    have hf5b : (f5 == 0) = false := by simpa using hf5
                    clear eq5 hfn hrm hdr hlk
                    go_wp2_with fail
                    refine (wput_r HE5 (uw_isW _) HLK.out.2.1 HRM1.out HY.out.hs.wd).mono ?_
                    rintro e_ w7 ⟨rfl, h7⟩
                    have H8 : Hid (Ri w b g c w2.heap.size node la cl tl wd nn m fin w7 (k + 1) f5 s5) := hid ⟨HY.out.hs.trans h7, HY.out.lo.hs h7, .inr HST.out⟩
                    clear HY h7 HE5 c0 t0
                    go_wp2_with fail
                    go_roundw
                    case rel => exact ⟨k + 1, f5, s5, by omega, by simp, rfl, H8⟩
                    case measure => simp [intOf]; omega
                · have heb : (e == 0) = false := by simpa using he
                  have HFN : Hid (fin = (e, s')) := by
                    rcases HY.out.st with q | q
                    · exact absurd q.1 he
                    · exact hid q.2
                  go_wp2_with fail
                  go_ret2
                  rw [HFN.out]
                  exact ⟨by simp [he], HY.out.hs⟩
              · have hkm' : k = m := by omega
                have HFN : Hid (fin = (e, s')) := by
                  rcases HY.out.st with q | q
                  · obtain ⟨q1, q2, _⟩ := q
                    rw [q2, hkm', List.drop_eq_nil_of_le (by rw [List.length_take]; omega), q1]
                    exact hid rfl
                  · exact hid q.2
                have hki : ¬ (k : Int) < (m : Int) := by omega
                clear hkm'
                go_wp2_with fail
                go_ret2
                rw [HFN.out]
                exact ⟨by by_cases hq : e = 0 <;> simp [hq], HY.out.hs⟩
          · rw [if_pos hf4] at pre
            have hf4b : (f4 == 0) = false := by simpa using hf4
            rw [pre]
            clear pre eq3 eq4
            go_enter Try.func33, Try.ntmps33
            go_wp2_with fail
            refine (rsearch_r HE hat (rms.le (by omega)) HS.out.wd).mono ?_
            rintro e_ w2 ⟨cl, tl, wd, nn, rfl, hse, h2⟩
            have HH := hid (HS.out.trans h2)
            have HSE := hid hse
            clear HS h2 HE hse
            have hrn := rec_new HH.out cl tl wd nn
            obtain ⟨X, hX⟩ : ∃ X, X = (w2.alloc (recO z8 z8 0 0)).setRow w2.heap.size (rcs cl tl wd nn) := ⟨_, rfl⟩
            have hX' : (w2.alloc (.cells #[.int .u64 0, .int .u64 0, .int .u64 0, .int .u64 0, .int .u64 0, .int .u64 0, .int .u64 0, .int .u64 0, .int .u64 0, .int .u64 0, .int .u64 0, .int .u64 0, .int .u64 0, .int .u64 0, .int .u64 0, .int .u64 0, .int .u64 0, .int .i64 0] 109)).setRow w2.heap.size (rcs cl tl wd nn) = X := hX.symm
            rw [← hX] at hrn
            have HRN := hid hrn
            clear hX hrn
            go_wp2_with (first | (refine wpList_store_row rfl 109 _ _ rfl w2.heap.size (rcs cl tl wd nn) rfl rfl 109 (rcs z8 z8 0 0) (alloc_block w2 _) (by rw [size_sea, rcs_size HSE.out.c8 HSE.out.t8]) (by rw [rcs_size rfl rfl, rcs_size HSE.out.c8 HSE.out.t8]) (rcs_one _ _ _ _) ?_; rw [hX']) | (refine wpList_load_rowG rfl 109 _ rfl w2.heap.size rfl 109 (rcs cl tl wd nn) (0, 0) _ HRN.out.2.at_ Try.underlying109 rfl (by rw [size_sea, rcs_size HSE.out.c8 HSE.out.t8]) ?_))
            refine (there_any h8 HSE.out x _).mono ?_
            rintro e_ w3 ⟨rfl, k3⟩
            have H3 := hid (And.intro (HRN.out.1.new k3) (HRN.out.2.after HRN.out.1.wd.ltb k3))
            clear HH k3 HRN hX'
            rw [hv]
            go_wp2_with fail
            refine (rtake_r HE2 hro hmay (rms1.le (by omega)) H3.out.1.wd).mono ?_
            rintro e_ w4 ⟨rfl, h4⟩
            have H4 := hid (And.intro (H3.out.1.trans h4) (H3.out.2.hs h4))
            clear H3 h4 HE2
            go_wp2_with fail
            refine (wput_r HE3 oks2.2 hx (rms2.le (by omega)) H4.out.1.wd).mono ?_
            rintro e_ w5 ⟨rfl, h5⟩
            have H5 := hid (And.intro (H4.out.1.trans h5) (H4.out.2.hs h5))
            clear H4 h5 HE3
            go_wp2_with fail
            refine (wput_r HE4 (uw_isW _) hgw (rms3.le (by omega)) H5.out.1.wd).mono ?_
            rintro e_ w6 ⟨rfl, h6⟩
            have H6 := hid (And.intro (H5.out.1.trans h6) (H5.out.2.hs h6))
            clear H5 h6 HE4
            go_wp2_with fail
            go_loopw [13, 16] (fun ev kv wr => kv = .int .i64 0 ∧ ev = .int .i64 f4 ∧ Hid (Hs 30 w b g c wr s4)) (fun _ _ _ => 0)
            case atStart => exact ⟨rfl, rfl, hid H6.out.1⟩
            case round =>
              obtain ⟨rfl, rfl, hr⟩ := hrel
              have hm0 : (0 : Int) < (m : Int) := by omega
              clear H6
              go_wp2_with fail
              go_ret2
              exact ⟨rfl, hr.out⟩
        · have hwr : s2.write node x (m : Int) = (f2, s3) := by
            unfold Wd.write
            rw [eq3]
            dsimp only
            rw [if_pos hf2]
          rw [if_neg (by simp), hwr] at pre
          dsimp only at pre
          rw [if_pos hf2] at pre
          have hf2b : (f2 == 0) = false := by simpa using hf2
          rw [pre]
          clear pre eq3
          go_enter Try.func33, Try.ntmps33
          go_wp2_with fail
          refine (rsearch_r HE hat (rms.le (by omega)) HS.out.wd).mono ?_
          rintro e_ w2 ⟨cl, tl, wd, nn, rfl, hse, h2⟩
          have HH := hid (HS.out.trans h2)
          have HSE := hid hse
          clear HS h2 HE hse
          have hrn := rec_new HH.out cl tl wd nn
          obtain ⟨X, hX⟩ : ∃ X, X = (w2.alloc (recO z8 z8 0 0)).setRow w2.heap.size (rcs cl tl wd nn) := ⟨_, rfl⟩
          have hX' : (w2.alloc (.cells #[.int .u64 0, .int .u64 0, .int .u64 0, .int .u64 0, .int .u64 0, .int .u64 0, .int .u64 0, .int .u64 0, .int .u64 0, .int .u64 0, .int .u64 0, .int .u64 0, .int .u64 0, .int .u64 0, .int .u64 0, .int .u64 0, .int .u64 0, .int .i64 0] 109)).setRow w2.heap.size (rcs cl tl wd nn) = X := hX.symm
          rw [← hX] at hrn
          have HRN := hid hrn
          clear hX hrn
          go_wp2_with (first | (refine wpList_store_row rfl 109 _ _ rfl w2.heap.size (rcs cl tl wd nn) rfl rfl 109 (rcs z8 z8 0 0) (alloc_block w2 _) (by rw [size_sea, rcs_size HSE.out.c8 HSE.out.t8]) (by rw [rcs_size rfl rfl, rcs_size HSE.out.c8 HSE.out.t8]) (rcs_one _ _ _ _) ?_; rw [hX']) | (refine wpList_load_rowG rfl 109 _ rfl w2.heap.size rfl 109 (rcs cl tl wd nn) (0, 0) _ HRN.out.2.at_ Try.underlying109 rfl (by rw [size_sea, rcs_size HSE.out.c8 HSE.out.t8]) ?_))
          refine (there_any h8 HSE.out x _).mono ?_
          rintro e_ w3 ⟨rfl, k3⟩
          have H3 := hid (And.intro (HRN.out.1.new k3) (HRN.out.2.after HRN.out.1.wd.ltb k3))
          clear HH k3 HRN hX'
          rw [hv]
          go_wp2_with fail
          refine (rtake_r HE2 hro hmay (rms1.le (by omega)) H3.out.1.wd).mono ?_
          rintro e_ w4 ⟨rfl, h4⟩
          have H4 := hid (And.intro (H3.out.1.trans h4) (H3.out.2.hs h4))
          clear H3 h4 HE2
          go_wp2_with fail
          refine (wput_r HE3 oks2.2 hx (rms2.le (by omega)) H4.out.1.wd).mono ?_
          rintro e_ w5 ⟨rfl, h5⟩
          have H5 := hid (And.intro (H4.out.1.trans h5) (H4.out.2.hs h5))
          clear H4 h5 HE3
          go_wp2_with fail
          go_loopw [13, 16] (fun ev kv wr => kv = .int .i64 0 ∧ ev = .int .i64 f2 ∧ Hid (Hs 30 w b g c wr s3)) (fun _ _ _ => 0)
          case atStart => exact ⟨rfl, rfl, hid H5.out.1⟩
          case round =>
            obtain ⟨rfl, rfl, hr⟩ := hrel
            have hm0 : (0 : Int) < (m : Int) := by omega
            clear H5
            go_wp2_with fail
            go_ret2
            exact ⟨rfl, hr.out⟩
      · rw [if_pos hf] at pre
        have hfb : (f == 0) = false := by simpa using hf
        rw [pre]
        clear pre
        go_enter Try.func33, Try.ntmps33
        go_wp2_with fail
        refine (rsearch_r HE hat (rms.le (by omega)) HS.out.wd).mono ?_
        rintro e_ w2 ⟨cl, tl, wd, nn, rfl, hse, h2⟩
        have HH := hid (HS.out.trans h2)
        have HSE := hid hse
        clear HS h2 HE hse
        have hrn := rec_new HH.out cl tl wd nn
        obtain ⟨X, hX⟩ : ∃ X, X = (w2.alloc (recO z8 z8 0 0)).setRow w2.heap.size (rcs cl tl wd nn) := ⟨_, rfl⟩
        have hX' : (w2.alloc (.cells #[.int .u64 0, .int .u64 0, .int .u64 0, .int .u64 0, .int .u64 0, .int .u64 0, .int .u64 0, .int .u64 0, .int .u64 0, .int .u64 0, .int .u64 0, .int .u64 0, .int .u64 0, .int .u64 0, .int .u64 0, .int .u64 0, .int .u64 0, .int .i64 0] 109)).setRow w2.heap.size (rcs cl tl wd nn) = X := hX.symm
        rw [← hX] at hrn
        have HRN := hid hrn
        clear hX hrn
        go_wp2_with (first | (refine wpList_store_row rfl 109 _ _ rfl w2.heap.size (rcs cl tl wd nn) rfl rfl 109 (rcs z8 z8 0 0) (alloc_block w2 _) (by rw [size_sea, rcs_size HSE.out.c8 HSE.out.t8]) (by rw [rcs_size rfl rfl, rcs_size HSE.out.c8 HSE.out.t8]) (rcs_one _ _ _ _) ?_; rw [hX']) | (refine wpList_load_rowG rfl 109 _ rfl w2.heap.size rfl 109 (rcs cl tl wd nn) (0, 0) _ HRN.out.2.at_ Try.underlying109 rfl (by rw [size_sea, rcs_size HSE.out.c8 HSE.out.t8]) ?_))
        refine (there_any h8 HSE.out x _).mono ?_
        rintro e_ w3 ⟨rfl, k3⟩
        have H3 := hid (And.intro (HRN.out.1.new k3) (HRN.out.2.after HRN.out.1.wd.ltb k3))
        clear HH k3 HRN hX'
        rw [hv]
        go_wp2_with fail
        refine (rtake_r HE2 hro hmay (rms1.le (by omega)) H3.out.1.wd).mono ?_
        rintro e_ w4 ⟨rfl, h4⟩
        have H4 := hid (And.intro (H3.out.1.trans h4) (H3.out.2.hs h4))
        clear H3 h4 HE2
        go_wp2_with fail
        go_loopw [13, 16] (fun ev kv wr => kv = .int .i64 0 ∧ ev = .int .i64 f ∧ Hid (Hs 30 w b g c wr s2)) (fun _ _ _ => 0)
        case atStart => exact ⟨rfl, rfl, hid H4.out.1⟩
        case round =>
          obtain ⟨rfl, rfl, hr⟩ := hrel
          have hm0 : (0 : Int) < (m : Int) := by omega
          clear H4
          go_wp2_with fail
          go_ret2
          exact ⟨rfl, hr.out⟩
  · have hs : s.ins room at_ x level = ((false, e), s1) := by
      unfold Wd.ins
      rw [eq1]
      dsimp only
      rw [if_pos (.inl he)]
    rw [hs]
    have HE : Hid (s.search (pP false x) at_ = ((la, e), s1)) := eq1
    clear eq1 hs
    go_enter Try.func33, Try.ntmps33
    go_wp2_with fail
    refine (rsearch_r HE hat (rms.le (by omega)) HS.out.wd).mono ?_
    rintro e_ w2 ⟨cl, tl, wd, nn, rfl, hse, h2⟩
    have HH := hid (HS.out.trans h2)
    have HSE := hid hse
    clear HS h2 HE hse
    have hrn := rec_new HH.out cl tl wd nn
    obtain ⟨X, hX⟩ : ∃ X, X = (w2.alloc (recO z8 z8 0 0)).setRow w2.heap.size (rcs cl tl wd nn) := ⟨_, rfl⟩
    have hX' : (w2.alloc (.cells #[.int .u64 0, .int .u64 0, .int .u64 0, .int .u64 0, .int .u64 0, .int .u64 0, .int .u64 0, .int .u64 0, .int .u64 0, .int .u64 0, .int .u64 0, .int .u64 0, .int .u64 0, .int .u64 0, .int .u64 0, .int .u64 0, .int .u64 0, .int .i64 0] 109)).setRow w2.heap.size (rcs cl tl wd nn) = X := hX.symm
    rw [← hX] at hrn
    have HRN := hid hrn
    clear hX hrn
    go_wp2_with (first | (refine wpList_store_row rfl 109 _ _ rfl w2.heap.size (rcs cl tl wd nn) rfl rfl 109 (rcs z8 z8 0 0) (alloc_block w2 _) (by rw [size_sea, rcs_size HSE.out.c8 HSE.out.t8]) (by rw [rcs_size rfl rfl, rcs_size HSE.out.c8 HSE.out.t8]) (rcs_one _ _ _ _) ?_; rw [hX']))
    go_ret2
    exact ⟨rfl, HRN.out.1⟩
end Go.Proofs.Ytjgibkofenkehaa
