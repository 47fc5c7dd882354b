
/- The walk of Remove (layer 22). No statement of the seat is proved here. -/
import Derived.Test.YtifmpiiaebnbiaaSkO
import Derived.Test.YtifmpiiaebnbiaaSkL
import Derived.Test.YtifmpiiaebnbiaaSkM
import Derived.Test.YtifmpiiaebnbiaaSkNb
import Derived.Test.YtifmpiiaebnbiaaSkDe
namespace Go.Proofs.Ytifmpiiaebnbiaa
open Go.RowKit

theorem unhang_len : ∀ (la : List Lk) (o : Int) (s : Wd), (unhangL la o s).2.L.length ≤ s.L.length + 2 * la.length
  | [], o, s => Nat.le_refl _
  | l :: la, o, s => by
    obtain ⟨⟨⟨x, e⟩, s1⟩, eq1⟩ : ∃ r, s.get o = r := ⟨_, rfl⟩
    obtain ⟨⟨f, s2⟩, eq2⟩ : ∃ r, s1.put l.c x = r := ⟨_, rfl⟩
    have h1 := get_len s o
    have h2 := put_len s1 l.c x
    rw [eq1] at h1
    rw [eq2] at h2
    have h1' : s1.L.length = s.L.length + 1 := h1
    have h2' : s2.L.length = s1.L.length + 1 := h2
    have ih := unhang_len la (uw (o + 1)) s2
    unfold unhangL
    rw [eq1]
    dsimp only
    simp only [List.length_cons]
    split
    · show s1.L.length ≤ _; omega
    · rw [eq2]
      dsimp only
      split
      · show s2.L.length ≤ _; omega
      · omega
theorem hang_len (node : Int) : ∀ (la : List Lk) (o : Int) (s : Wd), (hangL node la o s).2.L.length ≤ s.L.length + 2 * la.length
  | [], o, s => Nat.le_refl _
  | l :: la, o, s => by
    obtain ⟨⟨e, s1⟩, eq1⟩ : ∃ r, s.put o l.t = r := ⟨_, rfl⟩
    obtain ⟨⟨f, s2⟩, eq2⟩ : ∃ r, s1.put l.c (uw (node + 1)) = r := ⟨_, rfl⟩
    have h1 := put_len s o l.t
    have h2 := put_len s1 l.c (uw (node + 1))
    rw [eq1] at h1
    rw [eq2] at h2
    have h1' : s1.L.length = s.L.length + 1 := h1
    have h2' : s2.L.length = s1.L.length + 1 := h2
    have ih := hang_len node la (uw (o + 1)) s2
    unfold hangL
    rw [eq1]
    dsimp only
    simp only [List.length_cons]
    split
    · show s1.L.length ≤ _; omega
    · rw [eq2]
      dsimp only
      split
      · show s2.L.length ≤ _; omega
      · omega
set_option maxRecDepth 100000 in
set_option maxHeartbeats 2000000 in
theorem rem_any (b g c : Nat) (s : Wd) (room at_ x : Int) (hat : isW at_) (rms : Rm s 131200) (w : World) (h : WdAt 27 w b g c s) :
    Calls Try.prog 22 #[.iface 23 (.pointer (some ⟨b, 0, none⟩)), .int .u64 room, .int .u64 at_, .int .u64 x] w fun e w' => e = .returned (.tuple #[.bool (s.rem room at_ x).1.1, .int .i64 (s.rem room at_ x).1.2]) ∧ Hs 27 w b g c w' (s.rem room at_ x).2 := by
  have oks := h.ok
  have HH := hid (Hs.start h)
  clear h
  obtain ⟨⟨⟨la, e⟩, s1⟩, eq1⟩ : ∃ r, s.search (pLt x) at_ = r := ⟨_, rfl⟩
  obtain ⟨oks1, h8, hla, _⟩ := SrOk.of oks eq1
  have rms1 : Rm s1 110 := (rms : Rm s (110 + 131090)).search oks eq1
  by_cases he : e = 0
  · subst he
    cases hv : haveB la x with
    | false =>
      have hs : s.rem room at_ x = ((false, 0), s1) := by
        unfold Wd.rem
        rw [eq1]
        dsimp only
        rw [if_pos (.inr hv)]
      rw [hs]
      have HE : Hid (_ = _) := eq1
      clear eq1 hs
      go_enter Try.func22, Try.ntmps22
      go_wp2_with fail
      refine (below_any x _).mono ?_
      rintro e_ w1 ⟨rfl, hw1⟩
      have HK : Hid (Hs 27 w b g c w1 s ∧ Lo w1 b g w.heap.size (.cells #[.int .u64 x] 32 (0, 0))) := by rw [hw1]; exact hid ⟨HH.out.new (keeps_new w _), Lo.new HH.out.wd _⟩
      clear HH hw1
      go_wp2_with fail
      refine (search_r (pas_lt w.heap.size x) HE hat (rms.le (by omega)) HK.out.1.wd HK.out.2).mono ?_
      rintro e_ w2 ⟨rfl, h2⟩
      have HH := hid (HK.out.1.trans h2)
      clear HK h2 HE
      go_wp2_with (first | (refine wpList_store_row rfl 90 _ _ rfl w2.heap.size (lcs la) rfl rfl 90 (lcs zeros) (alloc_block w2 _) (by rw [size_las, lcs_size, h8]) (by rw [lcs_size, lcs_size, h8]; rfl) (lcs_one _) ?_) | (refine wpList_load_rowG rfl 90 _ rfl w2.heap.size rfl 90 (lcs la) (0, 0) _ (las_new HH.out la).2.at_ Try.underlying90 rfl (by rw [size_las, lcs_size, h8]) ?_))
      refine (have_any la h8 x _).mono ?_
      rintro e_ w3 ⟨rfl, k3⟩
      have H3 := hid ((las_new HH.out la).1.new k3)
      clear HH k3
      rw [hv]
      go_wp2_with fail
      go_ret2
      exact ⟨rfl, H3.out⟩
    | true =>
      obtain ⟨⟨l1, l2, l3⟩, hl0⟩ : ∃ l, lk la 0 = l := ⟨_, rfl⟩
      obtain ⟨nd, hnd⟩ : ∃ z, uw (l2 - 1) = z := ⟨_, rfl⟩
      have hndw : isW nd := hnd ▸ uw_isW _
      obtain ⟨⟨⟨n, f⟩, s2⟩, eq2⟩ : ∃ r, s1.levelOf nd = r := ⟨_, rfl⟩
      have rms2 : Rm s2 109 := rms1.levelOf oks1 eq2
      obtain ⟨oks2, hnw, _, hn18⟩ := levelOf_ok oks1 eq2
      have HE2 : Hid (_ = _) := eq2
      have pre : s.rem room at_ x = (if f ≠ 0 then ((false, f), s2) else match unhangL (la.take n.toNat) (uw (nd + 2)) s2 with
        | (f2, s3) => if f2 ≠ 0 then ((false, f2), s3) else match s3.give room nd (uw (2 + n)) with
          | (f3, s4) => ((decide (f3 = 0), f3), s4)) := by
        unfold Wd.rem
        rw [eq1]
        dsimp only
        rw [if_neg (by simp [hv]), hl0]
        unfold Lk.nd
        dsimp only
        rw [hnd, eq2]
      have HE : Hid (_ = _) := eq1
      have hlk := hid hl0
      clear eq1 eq2 hl0
      by_cases hf : f = 0
      · subst hf
        replace hn18 := hn18 rfl
        have hl8 : n.toNat ≤ 8 := by omega
        obtain ⟨⟨f2, s3⟩, eq3⟩ : ∃ r, unhangL (la.take n.toNat) (uw (nd + 2)) s2 = r := ⟨_, rfl⟩
        have rms3 : Rm s3 90 := by
          have q := unhang_len (la.take n.toNat) (uw (nd + 2)) s2
          rw [eq3] at q
          have q2 : s3.L.length ≤ s2.L.length + 2 * (la.take n.toNat).length := q
          rw [List.length_take] at q2
          unfold Rm at rms2 ⊢
          omega
        have HE3 : Hid (_ = _) := eq3
        by_cases hf2 : f2 = 0
        · subst hf2
          obtain ⟨⟨f3, s4⟩, eq4⟩ : ∃ r, s3.give room nd (uw (2 + n)) = r := ⟨_, rfl⟩
          have HE4 : Hid (_ = _) := eq4
          by_cases hf3 : f3 = 0
          · subst hf3
            have hs : s.rem room at_ x = ((true, 0), s4) := by
              rw [pre, if_neg (by simp), eq3]
              dsimp only
              rw [if_neg (by simp), eq4]
              rfl
            rw [hs]
            clear hs pre eq3 eq4
            go_enter Try.func22, Try.ntmps22
            go_wp2_with fail
            refine (below_any x _).mono ?_
            rintro e_ w1 ⟨rfl, hw1⟩
            have HK : Hid (Hs 27 w b g c w1 s ∧ Lo w1 b g w.heap.size (.cells #[.int .u64 x] 32 (0, 0))) := by rw [hw1]; exact hid ⟨HH.out.new (keeps_new w _), Lo.new HH.out.wd _⟩
            clear HH hw1
            go_wp2_with fail
            refine (search_r (pas_lt w.heap.size x) HE hat (rms.le (by omega)) HK.out.1.wd HK.out.2).mono ?_
            rintro e_ w2 ⟨rfl, h2⟩
            have HH := hid (HK.out.1.trans h2)
            clear HK h2 HE
            go_wp2_with (first | (refine wpList_store_row rfl 90 _ _ rfl w2.heap.size (lcs la) rfl rfl 90 (lcs zeros) (alloc_block w2 _) (by rw [size_las, lcs_size, h8]) (by rw [lcs_size, lcs_size, h8]; rfl) (lcs_one _) ?_) | (refine wpList_load_rowG rfl 90 _ rfl w2.heap.size rfl 90 (lcs la) (0, 0) _ (las_new HH.out la).2.at_ Try.underlying90 rfl (by rw [size_las, lcs_size, h8]) ?_))
            refine (have_any la h8 x _).mono ?_
            rintro e_ w3 ⟨rfl, k3⟩
            have H3 := hid (And.intro ((las_new HH.out la).1.new k3) ((las_new HH.out la).2.after (las_new HH.out la).1.wd.ltb k3))
            clear HH k3
            rw [hv]
            have c0 := las_c0 H3.out.2.at_ h8 (i := 0) (by omega)
            have c1 := las_c1 H3.out.2.at_ h8 (i := 0) (by omega)
            have c2 := las_c2 H3.out.2.at_ h8 (i := 0) (by omega)
            rw [hlk.out] at c0 c1 c2
            simp only [Nat.zero_mul, Nat.zero_add] at c0 c1 c2
            go_wp2_with fail
            refine (node_any ⟨l1, l2, l3⟩ _).mono ?_
            rintro e_ w4 ⟨rfl, k4⟩
            have H4 := hid (And.intro (H3.out.1.new k4) (H3.out.2.after H3.out.1.wd.ltb k4))
            clear H3 k4 c0 c1 c2
            unfold Lk.nd
            dsimp only
            rw [hnd]
            go_wp2_with fail
            refine (levelOf_r HE2 (rms1.le (by omega)) H4.out.1.wd).mono ?_
            rintro e_ w5 ⟨rfl, h5⟩
            have H5 := hid (And.intro (H4.out.1.trans h5) (H4.out.2.hs h5))
            clear H4 h5 HE2
            have hal := arr8
            have hh0 : 0 ≤ n := by omega
            have hh8 : n ≤ 8 := hn18.2
            go_wp2_with fail
            refine (unhang_r HE3 h8 hla hl8 (rms2.le (by omega)) H5.out.1.wd H5.out.2).mono ?_
            rintro e_ w6 ⟨rfl, h6⟩
            have H6 := hid (H5.out.1.trans h6)
            clear H5 h6 HE3
            go_wp2_with fail
            refine (cellsOf_any n _).mono ?_
            rintro e_ w_ ⟨rfl, hw_⟩
            subst w_
            go_wp2_with fail
            refine (give_r HE4 hndw (rms3.le (by omega)) H6.out.wd).mono ?_
            rintro e_ w7 ⟨rfl, h7⟩
            have H7 := hid (H6.out.trans h7)
            clear H6 h7 HE4
            go_wp2_with fail
            go_ret2
            exact ⟨rfl, H7.out⟩
          · have hs : s.rem room at_ x = ((false, f3), s4) := by
              rw [pre, if_neg (by simp), eq3]
              dsimp only
              rw [if_neg (by simp), eq4]
              simp [hf3]
            rw [hs]
            have hb3 : (f3 == 0) = false := by simpa using hf3
            clear hs pre eq3 eq4
            go_enter Try.func22, Try.ntmps22
            go_wp2_with fail
            refine (below_any x _).mono ?_
            rintro e_ w1 ⟨rfl, hw1⟩
            have HK : Hid (Hs 27 w b g c w1 s ∧ Lo w1 b g w.heap.size (.cells #[.int .u64 x] 32 (0, 0))) := by rw [hw1]; exact hid ⟨HH.out.new (keeps_new w _), Lo.new HH.out.wd _⟩
            clear HH hw1
            go_wp2_with fail
            refine (search_r (pas_lt w.heap.size x) HE hat (rms.le (by omega)) HK.out.1.wd HK.out.2).mono ?_
            rintro e_ w2 ⟨rfl, h2⟩
            have HH := hid (HK.out.1.trans h2)
            clear HK h2 HE
            go_wp2_with (first | (refine wpList_store_row rfl 90 _ _ rfl w2.heap.size (lcs la) rfl rfl 90 (lcs zeros) (alloc_block w2 _) (by rw [size_las, lcs_size, h8]) (by rw [lcs_size, lcs_size, h8]; rfl) (lcs_one _) ?_) | (refine wpList_load_rowG rfl 90 _ rfl w2.heap.size rfl 90 (lcs la) (0, 0) _ (las_new HH.out la).2.at_ Try.underlying90 rfl (by rw [size_las, lcs_size, h8]) ?_))
            refine (have_any la h8 x _).mono ?_
            rintro e_ w3 ⟨rfl, k3⟩
            have H3 := hid (And.intro ((las_new HH.out la).1.new k3) ((las_new HH.out la).2.after (las_new HH.out la).1.wd.ltb k3))
            clear HH k3
            rw [hv]
            have c0 := las_c0 H3.out.2.at_ h8 (i := 0) (by omega)
            have c1 := las_c1 H3.out.2.at_ h8 (i := 0) (by omega)
            have c2 := las_c2 H3.out.2.at_ h8 (i := 0) (by omega)
            rw [hlk.out] at c0 c1 c2
            simp only [Nat.zero_mul, Nat.zero_add] at c0 c1 c2
            go_wp2_with fail
            refine (node_any ⟨l1, l2, l3⟩ _).mono ?_
            rintro e_ w4 ⟨rfl, k4⟩
            have H4 := hid (And.intro (H3.out.1.new k4) (H3.out.2.after H3.out.1.wd.ltb k4))
            clear H3 k4 c0 c1 c2
            unfold Lk.nd
            dsimp only
            rw [hnd]
            go_wp2_with fail
            refine (levelOf_r HE2 (rms1.le (by omega)) H4.out.1.wd).mono ?_
            rintro e_ w5 ⟨rfl, h5⟩
            have H5 := hid (And.intro (H4.out.1.trans h5) (H4.out.2.hs h5))
            clear H4 h5 HE2
            have hal := arr8
            have hh0 : 0 ≤ n := by omega
            have hh8 : n ≤ 8 := hn18.2
            go_wp2_with fail
            refine (unhang_r HE3 h8 hla hl8 (rms2.le (by omega)) H5.out.1.wd H5.out.2).mono ?_
            rintro e_ w6 ⟨rfl, h6⟩
            have H6 := hid (H5.out.1.trans h6)
            clear H5 h6 HE3
            go_wp2_with fail
            refine (cellsOf_any n _).mono ?_
            rintro e_ w_ ⟨rfl, hw_⟩
            subst w_
            go_wp2_with fail
            refine (give_r HE4 hndw (rms3.le (by omega)) H6.out.wd).mono ?_
            rintro e_ w7 ⟨rfl, h7⟩
            have H7 := hid (H6.out.trans h7)
            clear H6 h7 HE4
            go_wp2_with fail
            go_ret2
            exact ⟨rfl, H7.out⟩
        · have hs : s.rem room at_ x = ((false, f2), s3) := by
            rw [pre, if_neg (by simp), eq3]
            dsimp only
            rw [if_pos hf2]
          rw [hs]
          have hb2 : (f2 == 0) = false := by simpa using hf2
          clear hs pre eq3
          go_enter Try.func22, Try.ntmps22
          go_wp2_with fail
          refine (below_any x _).mono ?_
          rintro e_ w1 ⟨rfl, hw1⟩
          have HK : Hid (Hs 27 w b g c w1 s ∧ Lo w1 b g w.heap.size (.cells #[.int .u64 x] 32 (0, 0))) := by rw [hw1]; exact hid ⟨HH.out.new (keeps_new w _), Lo.new HH.out.wd _⟩
          clear HH hw1
          go_wp2_with fail
          refine (search_r (pas_lt w.heap.size x) HE hat (rms.le (by omega)) HK.out.1.wd HK.out.2).mono ?_
          rintro e_ w2 ⟨rfl, h2⟩
          have HH := hid (HK.out.1.trans h2)
          clear HK h2 HE
          go_wp2_with (first | (refine wpList_store_row rfl 90 _ _ rfl w2.heap.size (lcs la) rfl rfl 90 (lcs zeros) (alloc_block w2 _) (by rw [size_las, lcs_size, h8]) (by rw [lcs_size, lcs_size, h8]; rfl) (lcs_one _) ?_) | (refine wpList_load_rowG rfl 90 _ rfl w2.heap.size rfl 90 (lcs la) (0, 0) _ (las_new HH.out la).2.at_ Try.underlying90 rfl (by rw [size_las, lcs_size, h8]) ?_))
          refine (have_any la h8 x _).mono ?_
          rintro e_ w3 ⟨rfl, k3⟩
          have H3 := hid (And.intro ((las_new HH.out la).1.new k3) ((las_new HH.out la).2.after (las_new HH.out la).1.wd.ltb k3))
          clear HH k3
          rw [hv]
          have c0 := las_c0 H3.out.2.at_ h8 (i := 0) (by omega)
          have c1 := las_c1 H3.out.2.at_ h8 (i := 0) (by omega)
          have c2 := las_c2 H3.out.2.at_ h8 (i := 0) (by omega)
          rw [hlk.out] at c0 c1 c2
          simp only [Nat.zero_mul, Nat.zero_add] at c0 c1 c2
          go_wp2_with fail
          refine (node_any ⟨l1, l2, l3⟩ _).mono ?_
          rintro e_ w4 ⟨rfl, k4⟩
          have H4 := hid (And.intro (H3.out.1.new k4) (H3.out.2.after H3.out.1.wd.ltb k4))
          clear H3 k4 c0 c1 c2
          unfold Lk.nd
          dsimp only
          rw [hnd]
          go_wp2_with fail
          refine (levelOf_r HE2 (rms1.le (by omega)) H4.out.1.wd).mono ?_
          rintro e_ w5 ⟨rfl, h5⟩
          have H5 := hid (And.intro (H4.out.1.trans h5) (H4.out.2.hs h5))
          clear H4 h5 HE2
          have hal := arr8
          have hh0 : 0 ≤ n := by omega
          have hh8 : n ≤ 8 := hn18.2
          go_wp2_with fail
          refine (unhang_r HE3 h8 hla hl8 (rms2.le (by omega)) H5.out.1.wd H5.out.2).mono ?_
          rintro e_ w6 ⟨rfl, h6⟩
          have H6 := hid (H5.out.1.trans h6)
          clear H5 h6 HE3
          go_wp2_with fail
          go_ret2
          exact ⟨rfl, H6.out⟩
      · have hs : s.rem room at_ x = ((false, f), s2) := by
          rw [pre, if_pos hf]
        rw [hs]
        have hb1 : (f == 0) = false := by simpa using hf
        clear hs pre
        go_enter Try.func22, Try.ntmps22
        go_wp2_with fail
        refine (below_any x _).mono ?_
        rintro e_ w1 ⟨rfl, hw1⟩
        have HK : Hid (Hs 27 w b g c w1 s ∧ Lo w1 b g w.heap.size (.cells #[.int .u64 x] 32 (0, 0))) := by rw [hw1]; exact hid ⟨HH.out.new (keeps_new w _), Lo.new HH.out.wd _⟩
        clear HH hw1
        go_wp2_with fail
        refine (search_r (pas_lt w.heap.size x) HE hat (rms.le (by omega)) HK.out.1.wd HK.out.2).mono ?_
        rintro e_ w2 ⟨rfl, h2⟩
        have HH := hid (HK.out.1.trans h2)
        clear HK h2 HE
        go_wp2_with (first | (refine wpList_store_row rfl 90 _ _ rfl w2.heap.size (lcs la) rfl rfl 90 (lcs zeros) (alloc_block w2 _) (by rw [size_las, lcs_size, h8]) (by rw [lcs_size, lcs_size, h8]; rfl) (lcs_one _) ?_) | (refine wpList_load_rowG rfl 90 _ rfl w2.heap.size rfl 90 (lcs la) (0, 0) _ (las_new HH.out la).2.at_ Try.underlying90 rfl (by rw [size_las, lcs_size, h8]) ?_))
        refine (have_any la h8 x _).mono ?_
        rintro e_ w3 ⟨rfl, k3⟩
        have H3 := hid (And.intro ((las_new HH.out la).1.new k3) ((las_new HH.out la).2.after (las_new HH.out la).1.wd.ltb k3))
        clear HH k3
        rw [hv]
        have c0 := las_c0 H3.out.2.at_ h8 (i := 0) (by omega)
        have c1 := las_c1 H3.out.2.at_ h8 (i := 0) (by omega)
        have c2 := las_c2 H3.out.2.at_ h8 (i := 0) (by omega)
        rw [hlk.out] at c0 c1 c2
        simp only [Nat.zero_mul, Nat.zero_add] at c0 c1 c2
        go_wp2_with fail
        refine (node_any ⟨l1, l2, l3⟩ _).mono ?_
        rintro e_ w4 ⟨rfl, k4⟩
        have H4 := hid (And.intro (H3.out.1.new k4) (H3.out.2.after H3.out.1.wd.ltb k4))
        clear H3 k4 c0 c1 c2
        unfold Lk.nd
        dsimp only
        rw [hnd]
        go_wp2_with fail
        refine (levelOf_r HE2 (rms1.le (by omega)) H4.out.1.wd).mono ?_
        rintro e_ w5 ⟨rfl, h5⟩
        have H5 := hid (And.intro (H4.out.1.trans h5) (H4.out.2.hs h5))
        clear H4 h5 HE2
        go_wp2_with fail
        go_ret2
        exact ⟨rfl, H5.out.1⟩
  · have hs : s.rem room at_ x = ((false, e), s1) := by
      unfold Wd.rem
      rw [eq1]
      dsimp only
      rw [if_pos (.inl he)]
    rw [hs]
    have HE : Hid (_ = _) := eq1
    clear eq1 hs
    go_enter Try.func22, Try.ntmps22
    go_wp2_with fail
    refine (below_any x _).mono ?_
    rintro e_ w1 ⟨rfl, hw1⟩
    have HK : Hid (Hs 27 w b g c w1 s ∧ Lo w1 b g w.heap.size (.cells #[.int .u64 x] 32 (0, 0))) := by rw [hw1]; exact hid ⟨HH.out.new (keeps_new w _), Lo.new HH.out.wd _⟩
    clear HH hw1
    go_wp2_with fail
    refine (search_r (pas_lt w.heap.size x) HE hat (rms.le (by omega)) HK.out.1.wd HK.out.2).mono ?_
    rintro e_ w2 ⟨rfl, h2⟩
    have HH := hid (HK.out.1.trans h2)
    clear HK h2 HE
    go_wp2_with (first | (refine wpList_store_row rfl 90 _ _ rfl w2.heap.size (lcs la) rfl rfl 90 (lcs zeros) (alloc_block w2 _) (by rw [size_las, lcs_size, h8]) (by rw [lcs_size, lcs_size, h8]; rfl) (lcs_one _) ?_))
    go_ret2
    exact ⟨rfl, (las_new HH.out la).1⟩
theorem rem_r {b g c : Nat} {s : Wd} {room at_ x : Int} {b1 : Bool} {e1 : Int} {s1 : Wd} (heq : Hid (s.rem room at_ x = ((b1, e1), s1))) (hat : isW at_) (rms : Rm s 131200) {w : World} (h : WdAt 27 w b g c s) :
    Calls Try.prog 22 #[.iface 23 (.pointer (some ⟨b, 0, none⟩)), .int .u64 room, .int .u64 at_, .int .u64 x] w fun e w' => e = .returned (.tuple #[.bool b1, .int .i64 e1]) ∧ Hs 27 w b g c w' s1 := by
  have q := rem_any b g c s room at_ x hat rms w h
  rw [heq.out] at q
  exact q
end Go.Proofs.Ytifmpiiaebnbiaa
