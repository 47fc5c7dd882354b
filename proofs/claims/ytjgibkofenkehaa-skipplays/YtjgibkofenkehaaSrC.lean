
/- The walks of the document's there, Has, First, After (layer 22). No statement of the seat is proved here. -/
import Derived.Test.YtjgibkofenkehaaSrBM
namespace Go.Proofs.Ytjgibkofenkehaa
open Go.RowKit

theorem fol_tk (s : Wd) (n : Nat) (a : Int) : (s.fol n a).1.1.t = 0 → (s.fol n a).1.1.k = 0 := by
  unfold Wd.fol
  obtain ⟨⟨⟨x, e⟩, s1⟩, eq1⟩ : ∃ r, s.get a = r := ⟨_, rfl⟩
  obtain ⟨⟨⟨k, f⟩, s2⟩, eq2⟩ : ∃ r, s1.get (uw (x - 1)) = r := ⟨_, rfl⟩
  rw [eq1]
  dsimp only
  rw [eq2]
  dsimp only
  split
  · intro _; rfl
  · split
    · intro _; rfl
    · split
      · intro _; rfl
      · split
        · intro _; rfl
        · rename_i hx _ _
          intro h
          exact absurd h hx
theorem sr_tk (p : Int → Bool) : ∀ (f : Nat) (la : List Lk) (base : Int) (lv n : Nat) (s : Wd), (∀ l ∈ la, l.t = 0 → l.k = 0) → (∀ l ∈ (sr p f la base lv n s).1.1, l.t = 0 → l.k = 0) ∧ ((sr p f la base lv n s).1.2 ≠ 0 → (sr p f la base lv n s).1.1 = zeros)
  | 0, la, base, lv, n, s, _ => ⟨fun l hl => by rw [(List.mem_replicate.1 hl).2]; exact fun _ => rfl, fun _ => rfl⟩
  | f + 1, la, base, lv, n, s, hla => by
    obtain ⟨⟨⟨l, e⟩, n', s'⟩, eq⟩ : ∃ r, s.fol n (uw (base + lv)) = r := ⟨_, rfl⟩
    have hf := fol_tk s n (uw (base + lv))
    rw [eq] at hf
    have hset : ∀ i, ∀ l' ∈ la.set i l, l'.t = 0 → l'.k = 0 := by
      intro i l' hl'
      rcases List.mem_or_eq_of_mem_set hl' with q | q
      · exact hla l' q
      · rw [q]; exact hf
    by_cases he : e = 0
    · subst he
      by_cases hp : l.t ≠ 0 ∧ p l.k = true
      · rw [sr_pass eq hp]
        exact sr_tk p f _ _ lv n' s' (hset lv)
      · cases lv with
        | zero =>
          rw [sr_end eq hp]
          exact ⟨hset 0, fun q => absurd rfl q⟩
        | succ m =>
          rw [sr_down eq hp]
          exact sr_tk p f _ _ m n' s' (hset (m + 1))
    · rw [sr_err eq he]
      exact ⟨fun l hl => by rw [(List.mem_replicate.1 hl).2]; exact fun _ => rfl, fun _ => rfl⟩
theorem search_tk {s s1 : Wd} {p : Int → Bool} {at_ e : Int} {la : List Lk} (eq : s.search p at_ = ((la, e), s1)) : ((lk la 0).t = 0 → (lk la 0).k = 0) ∧ (e ≠ 0 → la = zeros) := by
  have q := sr_tk p FU zeros at_ 7 0 s (fun l hl => by rw [(List.mem_replicate.1 hl).2]; exact fun _ => rfl)
  have eq' : sr p FU zeros at_ 7 0 s = ((la, e), s1) := eq
  rw [eq'] at q
  refine ⟨?_, q.2⟩
  unfold lk
  cases h : la[0]? with
  | none => exact fun _ => rfl
  | some l => exact q.1 l (List.mem_of_getElem? h)
theorem rec_new {T : TypeId} {w X : World} {b g c : Nat} {s : Wd} (h : Hs T w b g c X s) (cl tl : List Int) (wd nn : Int) : Hs T w b g c ((X.alloc (recO z8 z8 0 0)).setRow X.heap.size (rcs cl tl wd nn)) s ∧ Lo ((X.alloc (recO z8 z8 0 0)).setRow X.heap.size (rcs cl tl wd nn)) b g X.heap.size (recO cl tl wd nn) := by
  have h1 := h.new (keeps_new X (recO z8 z8 0 0))
  have l1 := Lo.new h.wd (recO z8 z8 0 0)
  have ks := setRow_keeps (X.alloc (recO z8 z8 0 0)) X.heap.size (rcs cl tl wd nn)
  refine ⟨h1.step ks (fun i e => by subst e; exact ⟨h.k.k.size, l1.no⟩), setRow_at l1.at_ _, fun e => l1.no ?_⟩
  exact (own_kept h1.wd.ltb ks (fun i hi e => by subst e; exact l1.no hi) _).1 e
theorem pP_f (x : Int) : pP false x = pLt x := rfl
theorem pP_t (x : Int) : pP true x = pLe x := rfl
theorem rsearch_r {b g c : Nat} {s : Wd} {at_ x : Int} {past : Bool} {la : List Lk} {e1 : Int} {s1 : Wd} (heq : Hid (s.search (pP past x) at_ = ((la, e1), s1))) (hat : isW at_) (rms : Rm s 131090) {w : World} (h : WdAt 30 w b g c s) :
    Calls Try.prog 65 #[.pointer (some ⟨b, 0, none⟩), .int .u64 at_, .int .u64 x, .bool past] w fun e w' => ∃ cl tl wd n, e = .returned (.tuple #[.agg (rcs cl tl wd n), .int .i64 e1]) ∧ SeOk la e1 cl tl wd ∧ Hs 30 w b g c w' s1 := by
  have q := rsearch_any b g c s at_ x past hat rms w h
  rw [heq.out] at q
  exact q
set_option maxHeartbeats 1000000 in
theorem there_any {la : List Lk} {cl tl : List Int} {wd nn : Int} (h8 : la.length = 8) (h : SeOk la 0 cl tl wd) (x : Int) (w : World) : Calls Try.prog 66 #[.agg (rcs cl tl wd nn), .int .u64 x] w fun e w' => e = .returned (.bool (haveB la x)) ∧ Keeps (fun _ => False) w w' := by
  have hv : haveB la x = ((oat tl 0 != 0) && decide (wd = x)) := by
    unfold haveB Lk.leads
    rw [h.tl rfl, oat_tL h8 (by omega)]
    by_cases hz : (lk la 0).t = 0
    · simp [hz]
    · rw [h.wd rfl hz]
  rw [hv]
  obtain ⟨l0, l1, l2, l3, l4, l5, l6, l7, rfl⟩ := eightI h.c8
  obtain ⟨t0, t1, t2, t3, t4, t5, t6, t7, rfl⟩ := eightI h.t8
  clear h hv h8
  have hl : (Value.agg (rcs [l0, l1, l2, l3, l4, l5, l6, l7] [t0, t1, t2, t3, t4, t5, t6, t7] wd nn)) = .agg #[.int .u64 l0, .int .u64 l1, .int .u64 l2, .int .u64 l3, .int .u64 l4, .int .u64 l5, .int .u64 l6, .int .u64 l7, .int .u64 t0, .int .u64 t1, .int .u64 t2, .int .u64 t3, .int .u64 t4, .int .u64 t5, .int .u64 t6, .int .u64 t7, .int .u64 wd, .int .i64 nn] := rfl
  rw [hl]
  have ho : oat [t0, t1, t2, t3, t4, t5, t6, t7] 0 = t0 := rfl
  rw [ho]
  clear hl ho
  by_cases hz : t0 = 0
  · subst hz
    go_enter Try.func66, Try.ntmps66
    go_wp2_with fail
    go_ret
    exact ⟨by simp, keeps_new w _⟩
  · have hzb : (t0 != 0) = true := by simpa using hz
    rw [hzb]
    go_enter Try.func66, Try.ntmps66
    go_wp2_with fail
    go_ret
    exact ⟨by by_cases hq : wd = x <;> simp [hq], keeps_new w _⟩
set_option maxHeartbeats 1000000 in
theorem rhas_any (b g c : Nat) (s : Wd) (at_ x : Int) (hat : isW at_) (rms : Rm s 131090) (w : World) (h : WdAt 30 w b g c s) :
    Calls Try.prog 35 #[.pointer (some ⟨b, 0, none⟩), .int .u64 at_, .int .u64 x] w fun e w' => e = .returned (.tuple #[.bool (s.has at_ x).1.1, .int .i64 (s.has at_ x).1.2]) ∧ Hs 30 w b g c w' (s.has at_ x).2 := by
  have oks := h.ok
  have HS := hid (Hs.start h)
  clear h
  unfold Wd.has
  obtain ⟨⟨⟨la, e⟩, s1⟩, eq1⟩ : ∃ r, s.search (pLt x) at_ = r := ⟨_, rfl⟩
  rw [eq1]
  dsimp only
  have h8 := (SrOk.of oks eq1).2.1
  have HTK := hid (search_tk eq1)
  have HE : Hid (s.search (pP false x) at_ = ((la, e), s1)) := eq1
  clear eq1
  by_cases he : e = 0
  · subst he
    go_enter Try.func35, Try.ntmps35
    go_wp2_with fail
    refine (rsearch_r HE hat rms HS.out.wd).mono ?_
    rintro e_ w2 ⟨cl, tl, wd, nn, rfl, hse, h2⟩
    have HH := hid (HS.out.trans h2)
    have HSE := hid hse
    clear HS h2 HE hse
    go_wp2_with (first | (refine wpList_store_row rfl 109 _ _ rfl w2.heap.size (rcs cl tl wd nn) rfl rfl 109 (rcs z8 z8 0 0) (alloc_block w2 _) (by rw [size_sea, rcs_size HSE.out.c8 HSE.out.t8]) (by rw [rcs_size rfl rfl, rcs_size HSE.out.c8 HSE.out.t8]) (rcs_one _ _ _ _) ?_) | (refine wpList_load_rowG rfl 109 _ rfl w2.heap.size rfl 109 (rcs cl tl wd nn) (0, 0) _ (rec_new HH.out cl tl wd nn).2.at_ Try.underlying109 rfl (by rw [size_sea, rcs_size HSE.out.c8 HSE.out.t8]) ?_))
    refine (there_any h8 HSE.out x _).mono ?_
    rintro e_ w3 ⟨rfl, k3⟩
    have H3 := hid ((rec_new HH.out cl tl wd nn).1.new k3)
    clear HH k3
    go_wp2_with fail
    go_ret2
    exact ⟨rfl, H3.out⟩
  · have hv : haveB la x = false := by rw [HTK.out.2 he]; rfl
    rw [hv]
    have heb : (e == 0) = false := by simpa using he
    go_enter Try.func35, Try.ntmps35
    go_wp2_with fail
    refine (rsearch_r HE hat rms HS.out.wd).mono ?_
    rintro e_ w2 ⟨cl, tl, wd, nn, rfl, hse, h2⟩
    have HH := hid (HS.out.trans h2)
    have HSE := hid hse
    clear HS h2 HE hse
    go_wp2_with (first | (refine wpList_store_row rfl 109 _ _ rfl w2.heap.size (rcs cl tl wd nn) rfl rfl 109 (rcs z8 z8 0 0) (alloc_block w2 _) (by rw [size_sea, rcs_size HSE.out.c8 HSE.out.t8]) (by rw [rcs_size rfl rfl, rcs_size HSE.out.c8 HSE.out.t8]) (rcs_one _ _ _ _) ?_))
    go_ret2
    exact ⟨rfl, (rec_new HH.out cl tl wd nn).1⟩
set_option maxHeartbeats 1000000 in
theorem raft_any (b g c : Nat) (s : Wd) (at_ x : Int) (hat : isW at_) (rms : Rm s 131090) (w : World) (h : WdAt 30 w b g c s) :
    Calls Try.prog 37 #[.pointer (some ⟨b, 0, none⟩), .int .u64 at_, .int .u64 x] w fun e w' => e = .returned (.tuple #[.int .u64 (s.aft at_ x).1.1, .bool (s.aft at_ x).1.2.1, .int .i64 (s.aft at_ x).1.2.2]) ∧ Hs 30 w b g c w' (s.aft at_ x).2 := by
  have oks := h.ok
  have HS := hid (Hs.start h)
  clear h
  unfold Wd.aft
  obtain ⟨⟨⟨la, e⟩, s1⟩, eq1⟩ : ∃ r, s.search (pLe x) at_ = r := ⟨_, rfl⟩
  rw [eq1]
  dsimp only
  have h8 := (SrOk.of oks eq1).2.1
  have HTK := hid (search_tk eq1)
  have HE : Hid (s.search (pP true x) at_ = ((la, e), s1)) := eq1
  clear eq1
  by_cases he : e = 0
  · subst he
    obtain ⟨⟨l1, l2, l3⟩, hl0⟩ : ∃ l, lk la 0 = l := ⟨_, rfl⟩
    rw [hl0] at HTK
    rw [hl0]
    have hlk := hid hl0
    clear hl0
    by_cases hl2 : l2 = 0
    · subst hl2
      obtain rfl : l3 = 0 := HTK.out.1 rfl
      go_enter Try.func37, Try.ntmps37
      go_wp2_with fail
      refine (rsearch_r HE hat rms HS.out.wd).mono ?_
      rintro e_ w2 ⟨cl, tl, wd, nn, rfl, hse, h2⟩
      have HH := hid (HS.out.trans h2)
      have HSE := hid hse
      clear HS h2 HE hse
      have hrn := rec_new HH.out cl tl wd nn
      obtain ⟨X, hX⟩ : ∃ X, X = (w2.alloc (recO z8 z8 0 0)).setRow w2.heap.size (rcs cl tl wd nn) := ⟨_, rfl⟩
      have hX' : (w2.alloc (.cells #[.int .u64 0, .int .u64 0, .int .u64 0, .int .u64 0, .int .u64 0, .int .u64 0, .int .u64 0, .int .u64 0, .int .u64 0, .int .u64 0, .int .u64 0, .int .u64 0, .int .u64 0, .int .u64 0, .int .u64 0, .int .u64 0, .int .u64 0, .int .i64 0] 109)).setRow w2.heap.size (rcs cl tl wd nn) = X := hX.symm
      rw [← hX] at hrn
      have HRN := hid hrn
      clear hX
      have tt0 := rec_t hrn.2.at_ HSE.out.c8 HSE.out.t8 (i := 0) (by omega)
      have ww0 := rec_w hrn.2.at_ HSE.out.c8 HSE.out.t8
      rw [HSE.out.tl rfl, oat_tL h8 (by omega), hlk.out] at tt0
      simp only [Nat.add_zero] at tt0
      try dsimp only at tt0
      clear hrn
      go_wp2_with (first | (refine wpList_store_row rfl 109 _ _ rfl w2.heap.size (rcs cl tl wd nn) rfl rfl 109 (rcs z8 z8 0 0) (alloc_block w2 _) (by rw [size_sea, rcs_size HSE.out.c8 HSE.out.t8]) (by rw [rcs_size rfl rfl, rcs_size HSE.out.c8 HSE.out.t8]) (rcs_one _ _ _ _) ?_; rw [hX']))
      go_ret3
      exact ⟨rfl, HRN.out.1⟩
    · have hl2b : (l2 != 0) = true := by simpa using hl2
      have hl2c : (l2 == 0) = false := by simpa using hl2
      unfold Lk.leads
      simp only [hl2b]
      go_enter Try.func37, Try.ntmps37
      go_wp2_with fail
      refine (rsearch_r HE hat rms HS.out.wd).mono ?_
      rintro e_ w2 ⟨cl, tl, wd, nn, rfl, hse, h2⟩
      have HH := hid (HS.out.trans h2)
      have HSE := hid hse
      clear HS h2 HE hse
      have hrn := rec_new HH.out cl tl wd nn
      obtain ⟨X, hX⟩ : ∃ X, X = (w2.alloc (recO z8 z8 0 0)).setRow w2.heap.size (rcs cl tl wd nn) := ⟨_, rfl⟩
      have hX' : (w2.alloc (.cells #[.int .u64 0, .int .u64 0, .int .u64 0, .int .u64 0, .int .u64 0, .int .u64 0, .int .u64 0, .int .u64 0, .int .u64 0, .int .u64 0, .int .u64 0, .int .u64 0, .int .u64 0, .int .u64 0, .int .u64 0, .int .u64 0, .int .u64 0, .int .i64 0] 109)).setRow w2.heap.size (rcs cl tl wd nn) = X := hX.symm
      rw [← hX] at hrn
      have HRN := hid hrn
      clear hX
      have tt0 := rec_t hrn.2.at_ HSE.out.c8 HSE.out.t8 (i := 0) (by omega)
      have ww0 := rec_w hrn.2.at_ HSE.out.c8 HSE.out.t8
      rw [HSE.out.tl rfl, oat_tL h8 (by omega), hlk.out] at tt0
      simp only [Nat.add_zero] at tt0
      rw [HSE.out.wd rfl (by rw [hlk.out]; exact hl2), hlk.out] at ww0
      dsimp only at ww0
      try dsimp only at tt0
      clear hrn
      go_wp2_with (first | (refine wpList_store_row rfl 109 _ _ rfl w2.heap.size (rcs cl tl wd nn) rfl rfl 109 (rcs z8 z8 0 0) (alloc_block w2 _) (by rw [size_sea, rcs_size HSE.out.c8 HSE.out.t8]) (by rw [rcs_size rfl rfl, rcs_size HSE.out.c8 HSE.out.t8]) (rcs_one _ _ _ _) ?_; rw [hX']))
      go_ret3
      exact ⟨rfl, HRN.out.1⟩
  · have hz : la = zeros := HTK.out.2 he
    have hz1 : (lk la 0).k = 0 ∧ (lk la 0).leads = false := by rw [hz]; exact ⟨rfl, rfl⟩
    rw [hz1.1, hz1.2]
    go_enter Try.func37, Try.ntmps37
    go_wp2_with fail
    refine (rsearch_r HE hat rms HS.out.wd).mono ?_
    rintro e_ w2 ⟨cl, tl, wd, nn, rfl, hse, h2⟩
    have HH := hid (HS.out.trans h2)
    have HSE := hid hse
    clear HS h2 HE hse
    go_wp2_with (first | (refine wpList_store_row rfl 109 _ _ rfl w2.heap.size (rcs cl tl wd nn) rfl rfl 109 (rcs z8 z8 0 0) (alloc_block w2 _) (by rw [size_sea, rcs_size HSE.out.c8 HSE.out.t8]) (by rw [rcs_size rfl rfl, rcs_size HSE.out.c8 HSE.out.t8]) (rcs_one _ _ _ _) ?_))
    go_ret3
    exact ⟨rfl, (rec_new HH.out cl tl wd nn).1⟩
end Go.Proofs.Ytjgibkofenkehaa
