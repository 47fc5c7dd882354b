
/- The walk of the document's Remove (layer 22). No statement of the seat is proved here. -/
import Derived.Test.YtjgibkofenkehaaSrF
import Derived.Test.YtjgibkofenkehaaSrAM
namespace Go.Proofs.Ytjgibkofenkehaa
open Go.RowKit

/-- What stands in the loop of the document's Remove. -/
structure Ru (w : World) (b g c q : Nat) (nd : Int) (la : List Lk) (cl tl : List Int) (wd nn : Int) (m : Nat) (fin : Int × Wd) (X : World) (k : Nat) (s' : Wd) : Prop where
  hs : Hs 30 w b g c X s'
  lo : Lo X b g q (recO cl tl wd nn)
  eq : fin = unhangL ((la.take m).drop k) (uw (uw (nd + 2) + k)) s'
  rm : Rm s' (2 * (m - k) + 4)
set_option maxRecDepth 100000 in
set_option maxHeartbeats 4000000 in
theorem rrem_any (b g c : Nat) (s : Wd) (room at_ x : Int) (hat : isW at_) (rms : Rm s 131200) (w : World) (h : WdAt 30 w b g c s) :
    Calls Try.prog 34 #[.pointer (some ⟨b, 0, none⟩), .int .u64 room, .int .u64 at_, .int .u64 x] w fun e w' => e = .returned (.tuple #[.bool (s.rem room at_ x).1.1, .int .i64 (s.rem room at_ x).1.2]) ∧ Hs 30 w b g c w' (s.rem room at_ x).2 := by
  have oks := h.ok
  have HS := hid (Hs.start h)
  clear h
  obtain ⟨⟨⟨la, e⟩, s1⟩, eq1⟩ : ∃ r, s.search (pLt x) at_ = r := ⟨_, rfl⟩
  obtain ⟨oks1, h8, hla, _⟩ := SrOk.of oks eq1
  have rms1 : Rm s1 110 := (rms : Rm s (110 + 131090)).search oks eq1
  by_cases he : e = 0
  · subst he
    cases hv : haveB la x with
    | false =>
      have hs : s.rem room at_ x = ((false, 0), s1) := by
        unfold Wd.rem
        rw [eq1]
        dsimp only
        rw [if_pos (.inr hv)]
      rw [hs]
      have HE : Hid (s.search (pP false x) at_ = ((la, 0), s1)) := eq1
      clear eq1 hs
      go_enter Try.func34, Try.ntmps34
      go_wp2_with fail
      refine (rsearch_r HE hat (rms.le (by omega)) HS.out.wd).mono ?_
      rintro e_ w2 ⟨cl, tl, wd, nn, rfl, hse, h2⟩
      have HH := hid (HS.out.trans h2)
      have HSE := hid hse
      clear HS h2 HE hse
      have hrn := rec_new HH.out cl tl wd nn
      obtain ⟨X, hX⟩ : ∃ X, X = (w2.alloc (recO z8 z8 0 0)).setRow w2.heap.size (rcs cl tl wd nn) := ⟨_, rfl⟩
      have hX' : (w2.alloc (.cells #[.int .u64 0, .int .u64 0, .int .u64 0, .int .u64 0, .int .u64 0, .int .u64 0, .int .u64 0, .int .u64 0, .int .u64 0, .int .u64 0, .int .u64 0, .int .u64 0, .int .u64 0, .int .u64 0, .int .u64 0, .int .u64 0, .int .u64 0, .int .i64 0] 109)).setRow w2.heap.size (rcs cl tl wd nn) = X := hX.symm
      rw [← hX] at hrn
      have HRN := hid hrn
      clear hX hrn
      go_wp2_with (first | (refine wpList_store_row rfl 109 _ _ rfl w2.heap.size (rcs cl tl wd nn) rfl rfl 109 (rcs z8 z8 0 0) (alloc_block w2 _) (by rw [size_sea, rcs_size HSE.out.c8 HSE.out.t8]) (by rw [rcs_size rfl rfl, rcs_size HSE.out.c8 HSE.out.t8]) (rcs_one _ _ _ _) ?_; rw [hX']) | (refine wpList_load_rowG rfl 109 _ rfl w2.heap.size rfl 109 (rcs cl tl wd nn) (0, 0) _ HRN.out.2.at_ Try.underlying109 rfl (by rw [size_sea, rcs_size HSE.out.c8 HSE.out.t8]) ?_))
      refine (there_any h8 HSE.out x _).mono ?_
      rintro e_ w3 ⟨rfl, k3⟩
      have H3 := hid (And.intro (HRN.out.1.new k3) (HRN.out.2.after HRN.out.1.wd.ltb k3))
      clear HH k3 HRN hX'
      rw [hv]
      go_wp2_with fail
      go_ret2
      exact ⟨rfl, H3.out.1⟩
    | true =>
      obtain ⟨⟨l1, l2, l3⟩, hl0⟩ : ∃ l, lk la 0 = l := ⟨_, rfl⟩
      obtain ⟨nd, hnd⟩ : ∃ z, uw (l2 - 1) = z := ⟨_, rfl⟩
      have hndw : isW nd := hnd ▸ uw_isW _
      have hnd' : IntKind.u64.wrap (l2 - 1) = nd := hnd
      obtain ⟨⟨⟨n, f⟩, s2⟩, eq2⟩ : ∃ r, s1.get (uw (nd + 1)) = r := ⟨_, rfl⟩
      have rms2 : Rm s2 109 := rms1.get eq2
      have hnw : isW n := get_isW eq2 oks1
      have HE2 : Hid (_ = _) := eq2
      have pre : s.rem room at_ x = (match s1.levelOf nd with
        | ((n, f), s2) => if f ≠ 0 then ((false, f), s2) else match unhangL (la.take n.toNat) (uw (nd + 2)) s2 with
          | (f2, s3) => if f2 ≠ 0 then ((false, f2), s3) else match s3.give room nd (uw (2 + n)) with
            | (f3, s4) => ((decide (f3 = 0), f3), s4)) := by
        unfold Wd.rem
        rw [eq1]
        dsimp only
        rw [if_neg (by simp [hv]), hl0]
        unfold Lk.nd
        dsimp only
        rw [hnd]
      have HE : Hid (s.search (pP false x) at_ = ((la, 0), s1)) := eq1
      have hlk := hid hl0
      clear eq1 hl0
      by_cases hf : f = 0
      · subst hf
        by_cases hn1 : n < 1
        · have hs : s.rem room at_ x = ((false, 320), s2) := by
            have q : s1.levelOf nd = ((0, 320), s2) := by unfold Wd.levelOf; rw [eq2]; simp [hn1]
            rw [pre, q]
            rfl
          rw [hs]
          clear hs pre eq2
          go_enter Try.func34, Try.ntmps34
          go_wp2_with fail
          refine (rsearch_r HE hat (rms.le (by omega)) HS.out.wd).mono ?_
          rintro e_ w2 ⟨cl, tl, wd, nn, rfl, hse, h2⟩
          have HH := hid (HS.out.trans h2)
          have HSE := hid hse
          clear HS h2 HE hse
          have hrn := rec_new HH.out cl tl wd nn
          obtain ⟨X, hX⟩ : ∃ X, X = (w2.alloc (recO z8 z8 0 0)).setRow w2.heap.size (rcs cl tl wd nn) := ⟨_, rfl⟩
          have hX' : (w2.alloc (.cells #[.int .u64 0, .int .u64 0, .int .u64 0, .int .u64 0, .int .u64 0, .int .u64 0, .int .u64 0, .int .u64 0, .int .u64 0, .int .u64 0, .int .u64 0, .int .u64 0, .int .u64 0, .int .u64 0, .int .u64 0, .int .u64 0, .int .u64 0, .int .i64 0] 109)).setRow w2.heap.size (rcs cl tl wd nn) = X := hX.symm
          rw [← hX] at hrn
          have HRN := hid hrn
          clear hX hrn
          go_wp2_with (first | (refine wpList_store_row rfl 109 _ _ rfl w2.heap.size (rcs cl tl wd nn) rfl rfl 109 (rcs z8 z8 0 0) (alloc_block w2 _) (by rw [size_sea, rcs_size HSE.out.c8 HSE.out.t8]) (by rw [rcs_size rfl rfl, rcs_size HSE.out.c8 HSE.out.t8]) (rcs_one _ _ _ _) ?_; rw [hX']) | (refine wpList_load_rowG rfl 109 _ rfl w2.heap.size rfl 109 (rcs cl tl wd nn) (0, 0) _ HRN.out.2.at_ Try.underlying109 rfl (by rw [size_sea, rcs_size HSE.out.c8 HSE.out.t8]) ?_))
          refine (there_any h8 HSE.out x _).mono ?_
          rintro e_ w3 ⟨rfl, k3⟩
          have H3 := hid (And.intro (HRN.out.1.new k3) (HRN.out.2.after HRN.out.1.wd.ltb k3))
          clear HH k3 HRN hX'
          rw [hv]
          have tt0 := rec_t H3.out.2.at_ HSE.out.c8 HSE.out.t8 (i := 0) (by omega)
          rw [HSE.out.tl rfl, oat_tL h8 (by omega), hlk.out] at tt0
          simp only [Nat.add_zero] at tt0
          go_wp2_with fail
          refine (wget_r HE2 (uw_isW _) (rms1.le (by omega)) H3.out.1.wd).mono ?_
          rintro e_ w4 ⟨rfl, h4⟩
          have H4 := hid (And.intro (H3.out.1.trans h4) (H3.out.2.hs h4))
          clear H3 h4 HE2 tt0
          go_wp2_with fail
          go_ret2
          exact ⟨rfl, H4.out.1⟩
        · have hn1' : 1 ≤ n := by omega
          by_cases hn8 : 8 < n
          · have hs : s.rem room at_ x = ((false, 320), s2) := by
              have q : s1.levelOf nd = ((0, 320), s2) := by unfold Wd.levelOf; rw [eq2]; simp [hn8]
              rw [pre, q]
              rfl
            rw [hs]
            clear hs pre eq2
            go_enter Try.func34, Try.ntmps34
            go_wp2_with fail
            refine (rsearch_r HE hat (rms.le (by omega)) HS.out.wd).mono ?_
            rintro e_ w2 ⟨cl, tl, wd, nn, rfl, hse, h2⟩
            have HH := hid (HS.out.trans h2)
            have HSE := hid hse
            clear HS h2 HE hse
            have hrn := rec_new HH.out cl tl wd nn
            obtain ⟨X, hX⟩ : ∃ X, X = (w2.alloc (recO z8 z8 0 0)).setRow w2.heap.size (rcs cl tl wd nn) := ⟨_, rfl⟩
            have hX' : (w2.alloc (.cells #[.int .u64 0, .int .u64 0, .int .u64 0, .int .u64 0, .int .u64 0, .int .u64 0, .int .u64 0, .int .u64 0, .int .u64 0, .int .u64 0, .int .u64 0, .int .u64 0, .int .u64 0, .int .u64 0, .int .u64 0, .int .u64 0, .int .u64 0, .int .i64 0] 109)).setRow w2.heap.size (rcs cl tl wd nn) = X := hX.symm
            rw [← hX] at hrn
            have HRN := hid hrn
            clear hX hrn
            go_wp2_with (first | (refine wpList_store_row rfl 109 _ _ rfl w2.heap.size (rcs cl tl wd nn) rfl rfl 109 (rcs z8 z8 0 0) (alloc_block w2 _) (by rw [size_sea, rcs_size HSE.out.c8 HSE.out.t8]) (by rw [rcs_size rfl rfl, rcs_size HSE.out.c8 HSE.out.t8]) (rcs_one _ _ _ _) ?_; rw [hX']) | (refine wpList_load_rowG rfl 109 _ rfl w2.heap.size rfl 109 (rcs cl tl wd nn) (0, 0) _ HRN.out.2.at_ Try.underlying109 rfl (by rw [size_sea, rcs_size HSE.out.c8 HSE.out.t8]) ?_))
            refine (there_any h8 HSE.out x _).mono ?_
            rintro e_ w3 ⟨rfl, k3⟩
            have H3 := hid (And.intro (HRN.out.1.new k3) (HRN.out.2.after HRN.out.1.wd.ltb k3))
            clear HH k3 HRN hX'
            rw [hv]
            have tt0 := rec_t H3.out.2.at_ HSE.out.c8 HSE.out.t8 (i := 0) (by omega)
            rw [HSE.out.tl rfl, oat_tL h8 (by omega), hlk.out] at tt0
            simp only [Nat.add_zero] at tt0
            go_wp2_with fail
            refine (wget_r HE2 (uw_isW _) (rms1.le (by omega)) H3.out.1.wd).mono ?_
            rintro e_ w4 ⟨rfl, h4⟩
            have H4 := hid (And.intro (H3.out.1.trans h4) (H3.out.2.hs h4))
            clear H3 h4 HE2 tt0
            go_wp2_with fail
            go_ret2
            exact ⟨rfl, H4.out.1⟩
          · have hn8' : n ≤ 8 := by omega
            obtain ⟨m, rfl⟩ : ∃ m : Nat, n = (m : Int) := ⟨n.toNat, by omega⟩
            have q : s1.levelOf nd = (((m : Int), 0), s2) := by unfold Wd.levelOf; rw [eq2]; simp [hn1, hn8]
            rw [q] at pre
            dsimp only at pre
            rw [if_neg (by simp), Int.toNat_natCast] at pre
            obtain ⟨fin, hfin⟩ : ∃ r, unhangL (la.take m) (uw (nd + 2)) s2 = r := ⟨_, rfl⟩
            rw [hfin] at pre
            have hc2 : IntKind.u64.wrap ((m : Int) + 2) = uw (2 + (m : Int)) := by rw [Int.add_comm]; rfl
            have hmay : mayN (uw (2 + (m : Int))) := by unfold mayN uw; simp only [IntKind.wrap_u64]; omega
            have HFIN := hid hfin
            have HPR : Hid (s.rem room at_ x = (if fin.1 ≠ 0 then ((false, fin.1), fin.2) else match fin.2.give room nd (uw (2 + (m : Int))) with
              | (f3, s4) => ((decide (f3 = 0), f3), s4))) := hid pre
            clear pre eq2 hfin q
            go_enter Try.func34, Try.ntmps34
            go_wp2_with fail
            refine (rsearch_r HE hat (rms.le (by omega)) HS.out.wd).mono ?_
            rintro e_ w2 ⟨cl, tl, wd, nn, rfl, hse, h2⟩
            have HH := hid (HS.out.trans h2)
            have HSE := hid hse
            clear HS h2 HE hse
            have hrn := rec_new HH.out cl tl wd nn
            obtain ⟨X, hX⟩ : ∃ X, X = (w2.alloc (recO z8 z8 0 0)).setRow w2.heap.size (rcs cl tl wd nn) := ⟨_, rfl⟩
            have hX' : (w2.alloc (.cells #[.int .u64 0, .int .u64 0, .int .u64 0, .int .u64 0, .int .u64 0, .int .u64 0, .int .u64 0, .int .u64 0, .int .u64 0, .int .u64 0, .int .u64 0, .int .u64 0, .int .u64 0, .int .u64 0, .int .u64 0, .int .u64 0, .int .u64 0, .int .i64 0] 109)).setRow w2.heap.size (rcs cl tl wd nn) = X := hX.symm
            rw [← hX] at hrn
            have HRN := hid hrn
            clear hX hrn
            go_wp2_with (first | (refine wpList_store_row rfl 109 _ _ rfl w2.heap.size (rcs cl tl wd nn) rfl rfl 109 (rcs z8 z8 0 0) (alloc_block w2 _) (by rw [size_sea, rcs_size HSE.out.c8 HSE.out.t8]) (by rw [rcs_size rfl rfl, rcs_size HSE.out.c8 HSE.out.t8]) (rcs_one _ _ _ _) ?_; rw [hX']) | (refine wpList_load_rowG rfl 109 _ rfl w2.heap.size rfl 109 (rcs cl tl wd nn) (0, 0) _ HRN.out.2.at_ Try.underlying109 rfl (by rw [size_sea, rcs_size HSE.out.c8 HSE.out.t8]) ?_))
            refine (there_any h8 HSE.out x _).mono ?_
            rintro e_ w3 ⟨rfl, k3⟩
            have H3 := hid (And.intro (HRN.out.1.new k3) (HRN.out.2.after HRN.out.1.wd.ltb k3))
            clear HH k3 HRN hX'
            rw [hv]
            have tt0 := rec_t H3.out.2.at_ HSE.out.c8 HSE.out.t8 (i := 0) (by omega)
            rw [HSE.out.tl rfl, oat_tL h8 (by omega), hlk.out] at tt0
            simp only [Nat.add_zero] at tt0
            go_wp2_with fail
            refine (wget_r HE2 (uw_isW _) (rms1.le (by omega)) H3.out.1.wd).mono ?_
            rintro e_ w4 ⟨rfl, h4⟩
            have H4 := hid (And.intro (H3.out.1.trans h4) (H3.out.2.hs h4))
            clear H3 h4 HE2 tt0
            have HR : Hid (Ru w b g c w2.heap.size nd la cl tl wd nn m fin w4 0 s2) := by
              refine hid ⟨H4.out.1, H4.out.2, ?_, rms2.le (by omega)⟩
              rw [List.drop_zero, ← HFIN.out]
              have : uw (uw (nd + 2) + ((0 : Nat) : Int)) = uw (nd + 2) := by rw [hang_comm]; simp
              rw [this]
            clear H4
            go_wp2_with fail
            go_loopw [14] (fun kv wr => ∃ (k : Nat) (s' : Wd), k ≤ m ∧ kv = .int .u64 (k : Int) ∧ Hid (Ru w b g c w2.heap.size nd la cl tl wd nn m fin wr k s')) (fun kv _ => m - (intOf kv).toNat)
            case atStart => exact ⟨0, s2, by omega, rfl, HR⟩
            case round =>
              obtain ⟨k, s', hk, rfl, HY⟩ := hrel
              clear HR
              by_cases hkm : k < m
              · have hki : (k : Int) < (m : Int) := by omega
                have hk8 : k < 8 := by omega
                have hwk1 : IntKind.u64.wrap ((k : Int) + 1) = (k : Int) + 1 := by rw [IntKind.wrap_u64]; omega
                have hfn := HY.out.eq
                have hrm := HY.out.rm
                obtain ⟨⟨k1, k2, k3⟩, hlk2⟩ : ∃ l, lk la k = l := ⟨_, rfl⟩
                have HLK : Hid (Lk.Ok ⟨k1, k2, k3⟩) := hid (hlk2 ▸ lk_ok hla k)
                have HLKE := hid hlk2
                have hdr : (la.take m).drop k = ⟨k1, k2, k3⟩ :: (la.take m).drop (k + 1) := by
                  have hkl : k < (la.take m).length := by rw [List.length_take]; omega
                  rw [List.drop_eq_getElem_cons hkl]
                  have : (la.take m)[k] = ⟨k1, k2, k3⟩ := by
                    rw [List.getElem_take, ← hlk2]
                    unfold lk
                    rw [List.getElem?_eq_getElem (by omega)]
                    rfl
                  rw [this]
                rw [hdr] at hfn
                obtain ⟨⟨⟨y, f5⟩, s5⟩, eq5⟩ : ∃ r, s'.get (uw (uw (nd + 2) + k)) = r := ⟨_, rfl⟩
                have rms5 : Rm s5 1 := (hrm.le (by omega) : Rm s' 2).get eq5
                have hyw : isW y := get_isW eq5 HY.out.hs.wd.ok
                have HE5 : Hid (_ = _) := eq5
                have HRM1 : Hid (Rm s' 1) := hid (hrm.le (by omega))
                unfold unhangL at hfn
                dsimp only at hfn
                rw [eq5] at hfn
                dsimp only at hfn
                by_cases hf5 : f5 = 0
                · subst hf5
                  obtain ⟨⟨f6, s6⟩, eq6⟩ : ∃ r, s5.put k1 y = r := ⟨_, rfl⟩
                  have HE6 : Hid (_ = _) := eq6
                  rw [if_neg (by simp), eq6] at hfn
                  dsimp only at hfn
                  by_cases hf6 : f6 = 0
                  · subst hf6
                    rw [if_neg (by simp), hang_next] at hfn
                    have HRM6 : Hid (Rm s6 (2 * (m - (k + 1)) + 4)) := by
                      have q1 := get_len s' (uw (uw (nd + 2) + k))
                      have q2 := put_len s5 k1 y
                      rw [eq5] at q1
                      rw [eq6] at q2
                      have q1' : s5.L.length = s'.L.length + 1 := q1
                      have q2' : s6.L.length = s5.L.length + 1 := q2
                      unfold Rm at hrm ⊢
                      refine hid ?_
                      omega
                    have HFN := hid hfn
                    clear eq5 eq6 hfn hrm hdr hlk2
                    go_wp2_with fail
                    refine (wget_r HE5 (uw_isW _) HRM1.out HY.out.hs.wd).mono ?_
                    rintro e_ w7 ⟨rfl, h7⟩
                    have H7 := hid (And.intro (HY.out.hs.trans h7) (HY.out.lo.hs h7))
                    clear HY h7 HE5
                    have c0 := rec_c H7.out.2.at_ HSE.out.c8 HSE.out.t8 hk8
                    rw [HSE.out.cl rfl, oat_cL h8 hk8, HLKE.out] at c0
                    dsimp only at c0
                    go_wp2_with fail
                    refine (wput_r HE6 HLK.out.1 hyw rms5 H7.out.1.wd).mono ?_
                    rintro e_ w8 ⟨rfl, h8'⟩
                    have H8 : Hid (Ru w b g c w2.heap.size nd la cl tl wd nn m fin w8 (k + 1) s6) := hid ⟨H7.out.1.trans h8', H7.out.2.hs h8', HFN.out, HRM6.out⟩
                    clear H7 h8' HE6 c0
                    go_wp2_with fail
                    go_roundw
                    case rel => exact ⟨k + 1, s6, by omega, by simp, H8⟩
                    case measure => simp [intOf]; omega
                  · rw [if_pos hf6] at hfn
                    have HFN : Hid (s.rem room at_ x = ((false, f6), s6)) := by
                      have q := HPR.out
                      rw [hfn] at q
                      dsimp only at q
                      rw [if_pos hf6] at q
                      exact hid q
                    clear eq5 eq6 hfn hrm hdr hlk2
                    go_wp2_with fail
                    refine (wget_r HE5 (uw_isW _) HRM1.out HY.out.hs.wd).mono ?_
                    rintro e_ w7 ⟨rfl, h7⟩
                    have H7 := hid (And.intro (HY.out.hs.trans h7) (HY.out.lo.hs h7))
                    clear HY h7 HE5
                    have c0 := rec_c H7.out.2.at_ HSE.out.c8 HSE.out.t8 hk8
                    rw [HSE.out.cl rfl, oat_cL h8 hk8, HLKE.out] at c0
                    dsimp only at c0
                    go_wp2_with fail
                    refine (wput_r HE6 HLK.out.1 hyw rms5 H7.out.1.wd).mono ?_
                    rintro e_ w8 ⟨rfl, h8'⟩
                    have H8 := hid (H7.out.1.trans h8')
                    clear H7 h8' HE6 c0
                    go_wp2_with fail
                    go_ret2
                    rw [HFN.out]
                    exact ⟨rfl, H8.out⟩
                · rw [if_pos hf5] at hfn
                  have HFN : Hid (s.rem room at_ x = ((false, f5), s5)) := by
                    have q := HPR.out
                    rw [hfn] at q
                    dsimp only at q
                    rw [if_pos hf5] at q
                    exact hid q
                  clear eq5 hfn hrm hdr hlk2
                  go_wp2_with fail
                  refine (wget_r HE5 (uw_isW _) HRM1.out HY.out.hs.wd).mono ?_
                  rintro e_ w7 ⟨rfl, h7⟩
                  have H7 := hid (HY.out.hs.trans h7)
                  clear HY h7 HE5
                  go_wp2_with fail
                  go_ret2
                  rw [HFN.out]
                  exact ⟨rfl, H7.out⟩
              · have hkm' : k = m := by omega
                obtain ⟨⟨f3, s4⟩, eq4⟩ : ∃ r, s'.give room nd (uw (2 + (m : Int))) = r := ⟨_, rfl⟩
                have HE4 : Hid (_ = _) := eq4
                have HFN : Hid (s.rem room at_ x = ((decide (f3 = 0), f3), s4)) := by
                  have q := HPR.out
                  rw [HY.out.eq, hkm', List.drop_eq_nil_of_le (by rw [List.length_take]; omega)] at q
                  unfold unhangL at q
                  dsimp only at q
                  rw [if_neg (by simp), eq4] at q
                  exact hid q
                have hki : ¬ (k : Int) < (m : Int) := by omega
                have HRM1 : Hid (Rm s' 3) := hid (HY.out.rm.le (by omega))
                clear hkm' eq4
                go_wp2_with fail
                refine (rgive_r HE4 hndw hmay HRM1.out HY.out.hs.wd).mono ?_
                rintro e_ w7 ⟨rfl, h7⟩
                have H7 := hid (HY.out.hs.trans h7)
                clear HY h7 HE4
                go_wp2_with fail
                go_ret2
                rw [HFN.out]
                exact ⟨by by_cases hq : f3 = 0 <;> simp [hq], H7.out⟩
      · have hs : s.rem room at_ x = ((false, f), s2) := by
          have q : s1.levelOf nd = ((0, f), s2) := by unfold Wd.levelOf; rw [eq2]; simp [hf]
          rw [pre, q]
          dsimp only
          rw [if_pos hf]
        rw [hs]
        clear hs pre eq2
        go_enter Try.func34, Try.ntmps34
        go_wp2_with fail
        refine (rsearch_r HE hat (rms.le (by omega)) HS.out.wd).mono ?_
        rintro e_ w2 ⟨cl, tl, wd, nn, rfl, hse, h2⟩
        have HH := hid (HS.out.trans h2)
        have HSE := hid hse
        clear HS h2 HE hse
        have hrn := rec_new HH.out cl tl wd nn
        obtain ⟨X, hX⟩ : ∃ X, X = (w2.alloc (recO z8 z8 0 0)).setRow w2.heap.size (rcs cl tl wd nn) := ⟨_, rfl⟩
        have hX' : (w2.alloc (.cells #[.int .u64 0, .int .u64 0, .int .u64 0, .int .u64 0, .int .u64 0, .int .u64 0, .int .u64 0, .int .u64 0, .int .u64 0, .int .u64 0, .int .u64 0, .int .u64 0, .int .u64 0, .int .u64 0, .int .u64 0, .int .u64 0, .int .u64 0, .int .i64 0] 109)).setRow w2.heap.size (rcs cl tl wd nn) = X := hX.symm
        rw [← hX] at hrn
        have HRN := hid hrn
        clear hX hrn
        go_wp2_with (first | (refine wpList_store_row rfl 109 _ _ rfl w2.heap.size (rcs cl tl wd nn) rfl rfl 109 (rcs z8 z8 0 0) (alloc_block w2 _) (by rw [size_sea, rcs_size HSE.out.c8 HSE.out.t8]) (by rw [rcs_size rfl rfl, rcs_size HSE.out.c8 HSE.out.t8]) (rcs_one _ _ _ _) ?_; rw [hX']) | (refine wpList_load_rowG rfl 109 _ rfl w2.heap.size rfl 109 (rcs cl tl wd nn) (0, 0) _ HRN.out.2.at_ Try.underlying109 rfl (by rw [size_sea, rcs_size HSE.out.c8 HSE.out.t8]) ?_))
        refine (there_any h8 HSE.out x _).mono ?_
        rintro e_ w3 ⟨rfl, k3⟩
        have H3 := hid (And.intro (HRN.out.1.new k3) (HRN.out.2.after HRN.out.1.wd.ltb k3))
        clear HH k3 HRN hX'
        rw [hv]
        have tt0 := rec_t H3.out.2.at_ HSE.out.c8 HSE.out.t8 (i := 0) (by omega)
        rw [HSE.out.tl rfl, oat_tL h8 (by omega), hlk.out] at tt0
        simp only [Nat.add_zero] at tt0
        go_wp2_with fail
        refine (wget_r HE2 (uw_isW _) (rms1.le (by omega)) H3.out.1.wd).mono ?_
        rintro e_ w4 ⟨rfl, h4⟩
        have H4 := hid (And.intro (H3.out.1.trans h4) (H3.out.2.hs h4))
        clear H3 h4 HE2 tt0
        go_wp2_with fail
        go_ret2
        exact ⟨rfl, H4.out.1⟩
  · have hs : s.rem room at_ x = ((false, e), s1) := by
      unfold Wd.rem
      rw [eq1]
      dsimp only
      rw [if_pos (.inl he)]
    rw [hs]
    have HE : Hid (s.search (pP false x) at_ = ((la, e), s1)) := eq1
    clear eq1 hs
    go_enter Try.func34, Try.ntmps34
    go_wp2_with fail
    refine (rsearch_r HE hat (rms.le (by omega)) HS.out.wd).mono ?_
    rintro e_ w2 ⟨cl, tl, wd, nn, rfl, hse, h2⟩
    have HH := hid (HS.out.trans h2)
    have HSE := hid hse
    clear HS h2 HE hse
    have hrn := rec_new HH.out cl tl wd nn
    obtain ⟨X, hX⟩ : ∃ X, X = (w2.alloc (recO z8 z8 0 0)).setRow w2.heap.size (rcs cl tl wd nn) := ⟨_, rfl⟩
    have hX' : (w2.alloc (.cells #[.int .u64 0, .int .u64 0, .int .u64 0, .int .u64 0, .int .u64 0, .int .u64 0, .int .u64 0, .int .u64 0, .int .u64 0, .int .u64 0, .int .u64 0, .int .u64 0, .int .u64 0, .int .u64 0, .int .u64 0, .int .u64 0, .int .u64 0, .int .i64 0] 109)).setRow w2.heap.size (rcs cl tl wd nn) = X := hX.symm
    rw [← hX] at hrn
    have HRN := hid hrn
    clear hX hrn
    go_wp2_with (first | (refine wpList_store_row rfl 109 _ _ rfl w2.heap.size (rcs cl tl wd nn) rfl rfl 109 (rcs z8 z8 0 0) (alloc_block w2 _) (by rw [size_sea, rcs_size HSE.out.c8 HSE.out.t8]) (by rw [rcs_size rfl rfl, rcs_size HSE.out.c8 HSE.out.t8]) (rcs_one _ _ _ _) ?_; rw [hX']))
    go_ret2
    exact ⟨rfl, HRN.out.1⟩
end Go.Proofs.Ytjgibkofenkehaa
