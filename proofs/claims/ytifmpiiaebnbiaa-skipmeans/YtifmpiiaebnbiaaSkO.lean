
/- The walk of Insert (layer 22). No statement of the seat is proved here. -/
import Derived.Test.YtifmpiiaebnbiaaSkK
import Derived.Test.YtifmpiiaebnbiaaSkL
import Derived.Test.YtifmpiiaebnbiaaSkM
import Derived.Test.YtifmpiiaebnbiaaSkNb
import Derived.Test.YtifmpiiaebnbiaaSkDe
namespace Go.Proofs.Ytifmpiiaebnbiaa
open Go.RowKit

theorem arr8 : Try.prog.arrayLen 90 = 8 := by kernel_rfl
theorem hgt_of (level : Int) : 1 ≤ hgt level ∧ hgt level ≤ 8 := by unfold hgt; omega
theorem hgt_w (level : Int) : isW (hgt level) := by have := hgt_of level; unfold isW; omega
set_option maxRecDepth 100000 in
set_option maxHeartbeats 2000000 in
theorem ins_any (b g c : Nat) (s : Wd) (room at_ x level : Int) (hro : isW room) (hat : isW at_) (hx : isW x) (rms : Rm s 131200) (w : World) (h : WdAt 27 w b g c s) :
    Calls Try.prog 20 #[.iface 23 (.pointer (some ⟨b, 0, none⟩)), .int .u64 room, .int .u64 at_, .int .u64 x, .int .i64 level] w fun e w' => e = .returned (.tuple #[.bool (s.ins room at_ x level).1.1, .int .i64 (s.ins room at_ x level).1.2]) ∧ Hs 27 w b g c w' (s.ins room at_ x level).2 := by
  have oks := h.ok
  have HH := hid (Hs.start h)
  clear h
  obtain ⟨⟨⟨la, e⟩, s1⟩, eq1⟩ : ∃ r, s.search (pLt x) at_ = r := ⟨_, rfl⟩
  obtain ⟨oks1, h8, hla, _⟩ := SrOk.of oks eq1
  have rms1 : Rm s1 110 := (rms : Rm s (110 + 131090)).search oks eq1
  by_cases he : e = 0
  · subst he
    cases hv : haveB la x with
    | true =>
      have hs : s.ins room at_ x level = ((false, 0), s1) := by
        unfold Wd.ins
        rw [eq1]
        dsimp only
        rw [if_pos (.inr hv)]
      rw [hs]
      have HE : Hid (_ = _) := eq1
      clear eq1 hs
      go_enter Try.func20, Try.ntmps20
      go_wp2_with fail
      refine (below_any x _).mono ?_
      rintro e_ w1 ⟨rfl, hw1⟩
      have HK : Hid (Hs 27 w b g c w1 s ∧ Lo w1 b g w.heap.size (.cells #[.int .u64 x] 32 (0, 0))) := by rw [hw1]; exact hid ⟨HH.out.new (keeps_new w _), Lo.new HH.out.wd _⟩
      clear HH hw1
      go_wp2_with fail
      refine (search_r (pas_lt w.heap.size x) HE hat (rms.le (by omega)) HK.out.1.wd HK.out.2).mono ?_
      rintro e_ w2 ⟨rfl, h2⟩
      have HH := hid (HK.out.1.trans h2)
      clear HK h2 HE
      go_wp2_with (first | (refine wpList_store_row rfl 90 _ _ rfl w2.heap.size (lcs la) rfl rfl 90 (lcs zeros) (alloc_block w2 _) (by rw [size_las, lcs_size, h8]) (by rw [lcs_size, lcs_size, h8]; rfl) (lcs_one _) ?_) | (refine wpList_load_rowG rfl 90 _ rfl w2.heap.size rfl 90 (lcs la) (0, 0) _ (las_new HH.out la).2.at_ Try.underlying90 rfl (by rw [size_las, lcs_size, h8]) ?_))
      refine (have_any la h8 x _).mono ?_
      rintro e_ w3 ⟨rfl, k3⟩
      have H3 := hid ((las_new HH.out la).1.new k3)
      clear HH k3
      rw [hv]
      go_wp2_with fail
      go_ret2
      exact ⟨rfl, H3.out⟩
    | false =>
      have hgo := hgt_of level
      have hgw := hgt_w level
      obtain ⟨hl, hhl⟩ : ∃ z, hgt level = z := ⟨_, rfl⟩
      rw [hhl] at hgo hgw
      obtain ⟨mx, hmx⟩ : ∃ z, (if level < 1 then (1 : Int) else level) = z := ⟨_, rfl⟩
      have hmn : (if 8 < mx then (8 : Int) else mx) = hl := by
        rw [← hhl, ← hmx]
        unfold hgt
        omega
      have hcv : IntKind.u64.wrap hl = hl := uw_id hgw
      obtain ⟨⟨⟨node, f⟩, s2⟩, eq2⟩ : ∃ r, s1.take room (uw (2 + hl)) = r := ⟨_, rfl⟩
      have rms2 : Rm s2 106 := rms1.take eq2
      have oks2 : s2.Ok ∧ isW node := by have q := oks1.take room (uw (2 + hl)); rw [eq2] at q; exact q
      have HE2 : Hid (_ = _) := eq2
      have pre : s.ins room at_ x level = (if f ≠ 0 then ((false, f), s2) else match s2.write node x hl with
        | (f2, s3) => if f2 ≠ 0 then ((false, f2), s3) else match hangL node (la.take hl.toNat) (uw (node + 2)) s3 with
          | (f3, s4) => ((decide (f3 = 0), f3), s4)) := by
        unfold Wd.ins
        rw [eq1]
        dsimp only
        rw [if_neg (by simp [hv]), hhl, eq2]
      have HE : Hid (_ = _) := eq1
      clear eq1 eq2
      by_cases hf : f = 0
      · subst hf
        obtain ⟨⟨f2, s3⟩, eq3⟩ : ∃ r, s2.write node x hl = r := ⟨_, rfl⟩
        have rms3 : Rm s3 104 := rms2.write eq3
        have HE3 : Hid (_ = _) := eq3
        by_cases hf2 : f2 = 0
        · subst hf2
          obtain ⟨⟨f3, s4⟩, eq4⟩ : ∃ r, hangL node (la.take hl.toNat) (uw (node + 2)) s3 = r := ⟨_, rfl⟩
          have hl8 : hl.toNat ≤ 8 := by omega
          have HE4 : Hid (_ = _) := eq4
          by_cases hf3 : f3 = 0
          · subst hf3
            have hs : s.ins room at_ x level = ((true, 0), s4) := by
              rw [pre, if_neg (by simp), eq3]
              dsimp only
              rw [if_neg (by simp), eq4]
              rfl
            rw [hs]
            clear hs pre eq3 eq4
            go_enter Try.func20, Try.ntmps20
            go_wp2_with fail
            refine (below_any x _).mono ?_
            rintro e_ w1 ⟨rfl, hw1⟩
            have HK : Hid (Hs 27 w b g c w1 s ∧ Lo w1 b g w.heap.size (.cells #[.int .u64 x] 32 (0, 0))) := by rw [hw1]; exact hid ⟨HH.out.new (keeps_new w _), Lo.new HH.out.wd _⟩
            clear HH hw1
            go_wp2_with fail
            refine (search_r (pas_lt w.heap.size x) HE hat (rms.le (by omega)) HK.out.1.wd HK.out.2).mono ?_
            rintro e_ w2 ⟨rfl, h2⟩
            have HH := hid (HK.out.1.trans h2)
            clear HK h2 HE
            go_wp2_with (first | (refine wpList_store_row rfl 90 _ _ rfl w2.heap.size (lcs la) rfl rfl 90 (lcs zeros) (alloc_block w2 _) (by rw [size_las, lcs_size, h8]) (by rw [lcs_size, lcs_size, h8]; rfl) (lcs_one _) ?_) | (refine wpList_load_rowG rfl 90 _ rfl w2.heap.size rfl 90 (lcs la) (0, 0) _ (las_new HH.out la).2.at_ Try.underlying90 rfl (by rw [size_las, lcs_size, h8]) ?_))
            refine (have_any la h8 x _).mono ?_
            rintro e_ w3 ⟨rfl, k3⟩
            have H3 := hid (And.intro ((las_new HH.out la).1.new k3) ((las_new HH.out la).2.after (las_new HH.out la).1.wd.ltb k3))
            clear HH k3
            rw [hv]
            go_wp2_with fail
            refine (cellsOf_any hl _).mono ?_
            rintro e_ w_ ⟨rfl, hw_⟩
            subst w_
            go_wp2_with fail
            refine (take_r HE2 hro (rms1.le (by omega)) H3.out.1.wd).mono ?_
            rintro e_ w4 ⟨rfl, h4⟩
            have H4 := hid (And.intro (H3.out.1.trans h4) (H3.out.2.hs h4))
            clear H3 h4 HE2
            go_wp2_with fail
            refine (write_r HE3 oks2.2 hx hgw (rms2.le (by omega)) H4.out.1.wd).mono ?_
            rintro e_ w5 ⟨rfl, h5⟩
            have H5 := hid (And.intro (H4.out.1.trans h5) (H4.out.2.hs h5))
            clear H4 h5 HE3
            have hal := arr8
            have hh0 : 0 ≤ hl := by omega
            have hh8 : hl ≤ 8 := hgo.2
            go_wp2_with fail
            refine (hang_r HE4 h8 hla hl8 (rms3.le (by omega)) H5.out.1.wd H5.out.2).mono ?_
            rintro e_ w6 ⟨rfl, h6⟩
            have H6 := hid (H5.out.1.trans h6)
            clear H5 h6 HE4
            go_wp2_with fail
            go_ret2
            exact ⟨rfl, H6.out⟩
          · have hs : s.ins room at_ x level = ((false, f3), s4) := by
              rw [pre, if_neg (by simp), eq3]
              dsimp only
              rw [if_neg (by simp), eq4]
              simp [hf3]
            rw [hs]
            have hb3 : (f3 == 0) = false := by simpa using hf3
            clear hs pre eq3 eq4
            go_enter Try.func20, Try.ntmps20
            go_wp2_with fail
            refine (below_any x _).mono ?_
            rintro e_ w1 ⟨rfl, hw1⟩
            have HK : Hid (Hs 27 w b g c w1 s ∧ Lo w1 b g w.heap.size (.cells #[.int .u64 x] 32 (0, 0))) := by rw [hw1]; exact hid ⟨HH.out.new (keeps_new w _), Lo.new HH.out.wd _⟩
            clear HH hw1
            go_wp2_with fail
            refine (search_r (pas_lt w.heap.size x) HE hat (rms.le (by omega)) HK.out.1.wd HK.out.2).mono ?_
            rintro e_ w2 ⟨rfl, h2⟩
            have HH := hid (HK.out.1.trans h2)
            clear HK h2 HE
            go_wp2_with (first | (refine wpList_store_row rfl 90 _ _ rfl w2.heap.size (lcs la) rfl rfl 90 (lcs zeros) (alloc_block w2 _) (by rw [size_las, lcs_size, h8]) (by rw [lcs_size, lcs_size, h8]; rfl) (lcs_one _) ?_) | (refine wpList_load_rowG rfl 90 _ rfl w2.heap.size rfl 90 (lcs la) (0, 0) _ (las_new HH.out la).2.at_ Try.underlying90 rfl (by rw [size_las, lcs_size, h8]) ?_))
            refine (have_any la h8 x _).mono ?_
            rintro e_ w3 ⟨rfl, k3⟩
            have H3 := hid (And.intro ((las_new HH.out la).1.new k3) ((las_new HH.out la).2.after (las_new HH.out la).1.wd.ltb k3))
            clear HH k3
            rw [hv]
            go_wp2_with fail
            refine (cellsOf_any hl _).mono ?_
            rintro e_ w_ ⟨rfl, hw_⟩
            subst w_
            go_wp2_with fail
            refine (take_r HE2 hro (rms1.le (by omega)) H3.out.1.wd).mono ?_
            rintro e_ w4 ⟨rfl, h4⟩
            have H4 := hid (And.intro (H3.out.1.trans h4) (H3.out.2.hs h4))
            clear H3 h4 HE2
            go_wp2_with fail
            refine (write_r HE3 oks2.2 hx hgw (rms2.le (by omega)) H4.out.1.wd).mono ?_
            rintro e_ w5 ⟨rfl, h5⟩
            have H5 := hid (And.intro (H4.out.1.trans h5) (H4.out.2.hs h5))
            clear H4 h5 HE3
            have hal := arr8
            have hh0 : 0 ≤ hl := by omega
            have hh8 : hl ≤ 8 := hgo.2
            go_wp2_with fail
            refine (hang_r HE4 h8 hla hl8 (rms3.le (by omega)) H5.out.1.wd H5.out.2).mono ?_
            rintro e_ w6 ⟨rfl, h6⟩
            have H6 := hid (H5.out.1.trans h6)
            clear H5 h6 HE4
            go_wp2_with fail
            go_ret2
            exact ⟨rfl, H6.out⟩
        · have hs : s.ins room at_ x level = ((false, f2), s3) := by
            rw [pre, if_neg (by simp), eq3]
            dsimp only
            rw [if_pos hf2]
          rw [hs]
          have hb2 : (f2 == 0) = false := by simpa using hf2
          clear hs pre eq3
          go_enter Try.func20, Try.ntmps20
          go_wp2_with fail
          refine (below_any x _).mono ?_
          rintro e_ w1 ⟨rfl, hw1⟩
          have HK : Hid (Hs 27 w b g c w1 s ∧ Lo w1 b g w.heap.size (.cells #[.int .u64 x] 32 (0, 0))) := by rw [hw1]; exact hid ⟨HH.out.new (keeps_new w _), Lo.new HH.out.wd _⟩
          clear HH hw1
          go_wp2_with fail
          refine (search_r (pas_lt w.heap.size x) HE hat (rms.le (by omega)) HK.out.1.wd HK.out.2).mono ?_
          rintro e_ w2 ⟨rfl, h2⟩
          have HH := hid (HK.out.1.trans h2)
          clear HK h2 HE
          go_wp2_with (first | (refine wpList_store_row rfl 90 _ _ rfl w2.heap.size (lcs la) rfl rfl 90 (lcs zeros) (alloc_block w2 _) (by rw [size_las, lcs_size, h8]) (by rw [lcs_size, lcs_size, h8]; rfl) (lcs_one _) ?_) | (refine wpList_load_rowG rfl 90 _ rfl w2.heap.size rfl 90 (lcs la) (0, 0) _ (las_new HH.out la).2.at_ Try.underlying90 rfl (by rw [size_las, lcs_size, h8]) ?_))
          refine (have_any la h8 x _).mono ?_
          rintro e_ w3 ⟨rfl, k3⟩
          have H3 := hid (And.intro ((las_new HH.out la).1.new k3) ((las_new HH.out la).2.after (las_new HH.out la).1.wd.ltb k3))
          clear HH k3
          rw [hv]
          go_wp2_with fail
          refine (cellsOf_any hl _).mono ?_
          rintro e_ w_ ⟨rfl, hw_⟩
          subst w_
          go_wp2_with fail
          refine (take_r HE2 hro (rms1.le (by omega)) H3.out.1.wd).mono ?_
          rintro e_ w4 ⟨rfl, h4⟩
          have H4 := hid (And.intro (H3.out.1.trans h4) (H3.out.2.hs h4))
          clear H3 h4 HE2
          go_wp2_with fail
          refine (write_r HE3 oks2.2 hx hgw (rms2.le (by omega)) H4.out.1.wd).mono ?_
          rintro e_ w5 ⟨rfl, h5⟩
          have H5 := hid (And.intro (H4.out.1.trans h5) (H4.out.2.hs h5))
          clear H4 h5 HE3
          go_wp2_with fail
          go_ret2
          exact ⟨rfl, H5.out.1⟩
      · have hs : s.ins room at_ x level = ((false, f), s2) := by
          rw [pre, if_pos hf]
        rw [hs]
        have hb1 : (f == 0) = false := by simpa using hf
        clear hs pre
        go_enter Try.func20, Try.ntmps20
        go_wp2_with fail
        refine (below_any x _).mono ?_
        rintro e_ w1 ⟨rfl, hw1⟩
        have HK : Hid (Hs 27 w b g c w1 s ∧ Lo w1 b g w.heap.size (.cells #[.int .u64 x] 32 (0, 0))) := by rw [hw1]; exact hid ⟨HH.out.new (keeps_new w _), Lo.new HH.out.wd _⟩
        clear HH hw1
        go_wp2_with fail
        refine (search_r (pas_lt w.heap.size x) HE hat (rms.le (by omega)) HK.out.1.wd HK.out.2).mono ?_
        rintro e_ w2 ⟨rfl, h2⟩
        have HH := hid (HK.out.1.trans h2)
        clear HK h2 HE
        go_wp2_with (first | (refine wpList_store_row rfl 90 _ _ rfl w2.heap.size (lcs la) rfl rfl 90 (lcs zeros) (alloc_block w2 _) (by rw [size_las, lcs_size, h8]) (by rw [lcs_size, lcs_size, h8]; rfl) (lcs_one _) ?_) | (refine wpList_load_rowG rfl 90 _ rfl w2.heap.size rfl 90 (lcs la) (0, 0) _ (las_new HH.out la).2.at_ Try.underlying90 rfl (by rw [size_las, lcs_size, h8]) ?_))
        refine (have_any la h8 x _).mono ?_
        rintro e_ w3 ⟨rfl, k3⟩
        have H3 := hid (And.intro ((las_new HH.out la).1.new k3) ((las_new HH.out la).2.after (las_new HH.out la).1.wd.ltb k3))
        clear HH k3
        rw [hv]
        go_wp2_with fail
        refine (cellsOf_any hl _).mono ?_
        rintro e_ w_ ⟨rfl, hw_⟩
        subst w_
        go_wp2_with fail
        refine (take_r HE2 hro (rms1.le (by omega)) H3.out.1.wd).mono ?_
        rintro e_ w4 ⟨rfl, h4⟩
        have H4 := hid (And.intro (H3.out.1.trans h4) (H3.out.2.hs h4))
        clear H3 h4 HE2
        go_wp2_with fail
        go_ret2
        exact ⟨rfl, H4.out.1⟩
  · have hs : s.ins room at_ x level = ((false, e), s1) := by
      unfold Wd.ins
      rw [eq1]
      dsimp only
      rw [if_pos (.inl he)]
    rw [hs]
    have HE : Hid (_ = _) := eq1
    clear eq1 hs
    go_enter Try.func20, Try.ntmps20
    go_wp2_with fail
    refine (below_any x _).mono ?_
    rintro e_ w1 ⟨rfl, hw1⟩
    have HK : Hid (Hs 27 w b g c w1 s ∧ Lo w1 b g w.heap.size (.cells #[.int .u64 x] 32 (0, 0))) := by rw [hw1]; exact hid ⟨HH.out.new (keeps_new w _), Lo.new HH.out.wd _⟩
    clear HH hw1
    go_wp2_with fail
    refine (search_r (pas_lt w.heap.size x) HE hat (rms.le (by omega)) HK.out.1.wd HK.out.2).mono ?_
    rintro e_ w2 ⟨rfl, h2⟩
    have HH := hid (HK.out.1.trans h2)
    clear HK h2 HE
    go_wp2_with (first | (refine wpList_store_row rfl 90 _ _ rfl w2.heap.size (lcs la) rfl rfl 90 (lcs zeros) (alloc_block w2 _) (by rw [size_las, lcs_size, h8]) (by rw [lcs_size, lcs_size, h8]; rfl) (lcs_one _) ?_))
    go_ret2
    exact ⟨rfl, (las_new HH.out la).1⟩
theorem ins_r {b g c : Nat} {s : Wd} {room at_ x level : Int} {b1 : Bool} {e1 : Int} {s1 : Wd} (heq : Hid (s.ins room at_ x level = ((b1, e1), s1))) (hro : isW room) (hat : isW at_) (hx : isW x) (rms : Rm s 131200) {w : World} (h : WdAt 27 w b g c s) :
    Calls Try.prog 20 #[.iface 23 (.pointer (some ⟨b, 0, none⟩)), .int .u64 room, .int .u64 at_, .int .u64 x, .int .i64 level] w fun e w' => e = .returned (.tuple #[.bool b1, .int .i64 e1]) ∧ Hs 27 w b g c w' s1 := by
  have q := ins_any b g c s room at_ x level hro hat hx rms w h
  rw [heq.out] at q
  exact q
end Go.Proofs.Ytifmpiiaebnbiaa
