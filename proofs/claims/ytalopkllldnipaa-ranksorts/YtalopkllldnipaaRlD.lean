
/- The walk of all: every node of a heap (layer 24). No statement of the seat is proved here. -/
import Derived.Test.YtalopkllldnipaaRlC
namespace Go.Proofs.Ytalopkllldnipaa
open Go.RowKit

theorem chi_len {cn : Int} {t : Tr} {F F1 : List Tr} {s s1 : Wd} (h : chiF cn t F s = ((F1, 0), s1)) : F.length ≤ F1.length := by
  obtain ⟨l, f, s2, h1, h2, h3⟩ := bnd_step h
  by_cases hf : f = 0
  · obtain ⟨r, f2, s3, h4, h5, h6⟩ := bnd_step (h2 hf)
    by_cases hf2 : f2 = 0
    · have h7 : (if rkT l < rkT r ∨ oat t.c 4 ≠ uw (rkT r + 1) then err [] 340 else rtn (F ++ l.toList ++ r.toList)) s3 = ((F1, 0), s1) := h5 hf2
      split at h7
      · unfold err at h7
        simp at h7
      · rw [(rtn_eq h7).1]
        simp
    · exact absurd (h6 hf2).1.symm hf2
  · exact absurd (h3 hf).1.symm hf
theorem wlk_ok (cn : Int) : ∀ (k i : Nat) (F : List Tr) (s : Wd) (e : Int) (F1 : List Tr) (s1 : Wd), wlkF cn k i F s = ((F1, e), s1) → e ≠ 0 → F1 = [] := by
  intro k
  induction k with
  | zero =>
    intro i F s e F1 s1 h _
    unfold wlkF err at h
    simp only [Prod.mk.injEq] at h
    exact h.1.1.symm
  | succ k ih =>
    intro i F s e F1 s1 h he
    unfold wlkF at h
    cases hf : F[i]? with
    | none =>
      rw [hf] at h
      exact absurd (rtn_eq h).2.1 he
    | some t =>
      rw [hf] at h
      obtain ⟨F2, f, s2, h1, h2, h3⟩ := bnd_step h
      by_cases hf0 : f = 0
      · exact ih _ _ _ _ _ _ (h2 hf0) he
      · exact (h3 hf0).2.2
set_option maxRecDepth 100000 in
set_option maxHeartbeats 4000000 in
theorem allT_any {b g c : Nat} {F : List Tr} {h0 e : Int} {s s1 : Wd} (heq : Hid (allF h0 s = ((F, e), s1))) (hh : isW h0) {w : World} (h : WdAt w b g c s) :
    Calls Try.prog 47 #[.iface 24 (.pointer (some ⟨b, 0, none⟩)), .int .u64 h0] w fun r w' => ∃ v, r = .returned (.tuple #[v, .int .i64 e]) ∧ WdAt w' b g c s1 ∧ Keeps (two b g) w w' ∧
      (e = 0 → ∃ qs, Pr w' w.heap.size v qs ∧ qs.length = F.length ∧ F.length < 3000000000 ∧ (∀ (i q : Nat), qs[i]? = some q → w.heap.size ≤ q) ∧ ∀ (i q : Nat) (t : Tr), qs[i]? = some q → F[i]? = some t → TrAt w' q t) := by
  obtain ⟨p, e1, s2, h1, h2, h3⟩ := bnd_step heq.out
  have hp := hepF_isW h1 h.ok
  have HL := hid (And.intro h.ltb h.ltg)
  have HC := hid (heap_any (hid h1) hh h)
  have H2 := hid (And.intro h2 h3)
  clear h h1 h2 h3 heq
  go_enter Try.func47, Try.ntmps47
  go_wp2_with fail
  refine HC.out.mono ?_
  rintro a w1 ⟨rfl, h1, k1⟩
  have HF : Hid (WdAt (w1.alloc (.cells #[.int .u64 p.1, .int .u64 p.2] 111)) b g c s2 ∧ Keeps (two b g) w (w1.alloc (.cells #[.int .u64 p.1, .int .u64 p.2] 111)) ∧ Blk (w1.alloc (.cells #[.int .u64 p.1, .int .u64 p.2] 111)) w1.heap.size 111 #[.int .u64 p.1, .int .u64 p.2] ∧ w.heap.size ≤ w1.heap.size) := by
    have k2 := keeps_new w1 (.cells #[.int .u64 p.1, .int .u64 p.2] 111)
    exact hid ⟨h1.kept k2 (fun f => f) (fun f => f), k1.trans (k2.mono (fun _ _ f => f.elim)), blk_new w1 _ _, k1.size⟩
  have g0 : (w1.alloc (.cells #[.int .u64 p.1, .int .u64 p.2] 111)).cell? ⟨w1.heap.size, 0, none⟩ = some (.int .u64 p.1) := HF.out.2.2.1.cell rfl
  clear HC h1 k1
  by_cases he1 : e1 = 0
  rotate_left
  · go_wp2_with fail
    go_ret2
    obtain ⟨rfl, rfl, rfl⟩ := H2.out.2 he1
    exact ⟨_, rfl, HF.out.1, HF.out.2.1, fun q => absurd q he1⟩
  subst he1
  have H3 := H2.out.1 rfl
  by_cases hbig : 2147483647 < p.1
  · rw [if_pos hbig] at H3
    unfold err at H3
    simp only [Prod.mk.injEq] at H3
    obtain ⟨⟨rfl, rfl⟩, rfl⟩ := H3
    have hgt : p.1 > 2147483647 := hbig
    go_wp2_with fail
    go_ret2
    exact ⟨_, rfl, HF.out.1, HF.out.2.1, fun q => absurd q (by decide)⟩
  rw [if_neg hbig] at H3
  obtain ⟨r0, e2, s3, h4, h5, h6⟩ := bnd_step H3
  have H5 := hid (And.intro h5 h6)
  have HT4 := hid h4
  have hngt : ¬ p.1 > 2147483647 := hbig
  have HBG := hid hbig
  clear h4 h5 h6 H3 H2 hbig
  go_wp2_with fail
  have HX : Hid (WdAt (((w1.alloc (.cells #[.int .u64 p.1, .int .u64 p.2] 111)).alloc (.map #[] 0)).alloc (.cells #[.iface 24 (.pointer (some ⟨b, 0, none⟩)), .int .u64 p.1, .map (some (w1.heap.size + 1)), .slice none 0 0] 128)) b g c s2 ∧ WlAt (((w1.alloc (.cells #[.int .u64 p.1, .int .u64 p.2] 111)).alloc (.map #[] 0)).alloc (.cells #[.iface 24 (.pointer (some ⟨b, 0, none⟩)), .int .u64 p.1, .map (some (w1.heap.size + 1)), .slice none 0 0] 128)) b g (w1.heap.size + 1 + 1) (w1.heap.size + 1) w.heap.size p.1 [] [] (.slice none 0 0) ∧ Keeps (fun i => two b g i ∨ w.heap.size ≤ i) w (((w1.alloc (.cells #[.int .u64 p.1, .int .u64 p.2] 111)).alloc (.map #[] 0)).alloc (.cells #[.iface 24 (.pointer (some ⟨b, 0, none⟩)), .int .u64 p.1, .map (some (w1.heap.size + 1)), .slice none 0 0] 128))) := by
    obtain ⟨a1, a2, a3, a4⟩ := HF.out
    have hl := HL.out
    have e1 : (w1.alloc (.cells #[.int .u64 p.1, .int .u64 p.2] 111)).heap.size = w1.heap.size + 1 := by simp
    have e2 : ((w1.alloc (.cells #[.int .u64 p.1, .int .u64 p.2] 111)).alloc (.map #[] 0)).heap.size = w1.heap.size + 1 + 1 := by simp
    have kk := (keeps_new (w1.alloc (.cells #[.int .u64 p.1, .int .u64 p.2] 111)) (.map #[] 0)).alloc (.cells #[.iface 24 (.pointer (some ⟨b, 0, none⟩)), .int .u64 p.1, .map (some (w1.heap.size + 1)), .slice none 0 0] 128)
    have hm := (MapN.new (w1.alloc (.cells #[.int .u64 p.1, .int .u64 p.2] 111))).keeps (keeps_new _ (.cells #[.iface 24 (.pointer (some ⟨b, 0, none⟩)), .int .u64 p.1, .map (some (w1.heap.size + 1)), .slice none 0 0] 128)) (fun f => f)
    rw [e1] at hm
    have hb := blk_new ((w1.alloc (.cells #[.int .u64 p.1, .int .u64 p.2] 111)).alloc (.map #[] 0)) 128 #[.iface 24 (.pointer (some ⟨b, 0, none⟩)), .int .u64 p.1, .map (some (w1.heap.size + 1)), .slice none 0 0]
    rw [e2] at hb
    have k3 := a2.trans (kk.mono (fun _ _ f => f.elim))
    exact hid ⟨a1.kept kk (fun f => f) (fun f => f), ⟨hb, hm, Pr.nil _ _, rfl, fun i q t h1 _ => by simp at h1, fun i q h1 => by simp at h1, ⟨hl.1, hl.2, by omega, by omega, k3.size⟩, ⟨hp.1.1, HBG.out⟩⟩, k3.mono (fun _ _ f => .inl f)⟩
  have HC := hid (follow_u (par := none) (pp := none) HT4 hp.2 HX.out.1 HX.out.2.1 rfl)
  clear HF g0
  refine HC.out.mono ?_
  rintro r w3 ⟨po, rfl, h3, k3, g3⟩
  have HG := hid (And.intro h3 (And.intro (HX.out.2.2.trans k3) g3))
  have HFIN : Hid (∀ (W : World), Keeps (fun i => two b g i ∨ w.heap.size ≤ i) w W → Keeps (two b g) w W) := hid (fun W k => (Keeps.refl _ w).step k (fun i hi f => by rcases f with f | f; exact f; omega))
  clear HC HX h3 k3 g3
  by_cases he2 : e2 = 0
  rotate_left
  · go_wp2_with fail
    go_ret2
    obtain ⟨rfl, rfl, rfl⟩ := H5.out.2 he2
    exact ⟨_, rfl, HG.out.1, HFIN.out _ HG.out.2.1, fun q => absurd q he2⟩
  subst he2
  obtain ⟨qs0, v0, hl0, _, _, _⟩ := HG.out.2.2 rfl
  have HG2 : Hid (WdAt w3 b g c s3 ∧ Keeps (fun i => two b g i ∨ w.heap.size ≤ i) w w3 ∧ WlAt w3 b g (w1.heap.size + 1 + 1) (w1.heap.size + 1) w.heap.size p.1 r0.toList qs0 v0) := hid ⟨HG.out.1, HG.out.2.1, by simpa using hl0⟩
  obtain ⟨F2, e3, s4, h7, h8, h9⟩ := bnd_step (H5.out.1 rfl)
  have HW := hid h7
  have H8 := hid (And.intro h8 h9)
  clear h7 h8 h9 H5 hl0 hngt HG
  go_wp2_with fail
  go_loopw [9] (fun iv wr => ∃ n : Nat, iv = .int .i64 (n : Int) ∧ ∃ Fk qs v sk, Hid (WdAt wr b g c sk ∧ WlAt wr b g (w1.heap.size + 1 + 1) (w1.heap.size + 1) w.heap.size p.1 Fk qs v ∧ Keeps (fun i => two b g i ∨ w.heap.size ≤ i) w wr ∧ n ≤ Fk.length ∧ wlkF p.1 (2147483649 - n) n Fk sk = ((F2, e3), s4))) (fun iv _ => 2147483649 - (intOf iv).toNat)
  case atStart => exact ⟨0, rfl, r0.toList, qs0, v0, s3, hid ⟨HG2.out.1, HG2.out.2.2, HG2.out.2.1, Nat.zero_le _, HW.out⟩⟩
  case round =>
    obtain ⟨n, rfl, Fk, qs, v, sk, hr⟩ := hrel
    clear HG2 HW
    obtain ⟨va, vc, rfl⟩ : ∃ a n, v = .slice a Fk.length n := by
      obtain ⟨a, n, hv⟩ := hr.out.2.1.row.form
      exact ⟨a, n, by rw [hv, hr.out.2.1.len]⟩
    have c3 : wr.cell? ⟨w1.heap.size + 1 + 1, 3, none⟩ = some (.slice va Fk.length vc) := hr.out.2.1.box.cell rfl
    have c1 : wr.cell? ⟨w1.heap.size + 1 + 1, 1, none⟩ = some (.int .u64 p.1) := hr.out.2.1.box.cell rfl
    have hfew : (Fk.length : Int) ≤ p.1 ∧ p.1 ≤ 2147483647 := hr.out.2.1.few
    have hn := hr.out.2.2.2.1
    obtain ⟨kk, hkk⟩ : ∃ kk, 2147483649 - n = kk + 1 := ⟨2147483648 - n, by omega⟩
    have hwk := hr.out.2.2.2.2
    rw [hkk] at hwk
    unfold wlkF at hwk
    by_cases hlt : n < Fk.length
    · have hlti : (n : Int) < Fk.length := by omega
      have hni : (0 : Int) ≤ n := by omega
      obtain ⟨t, ht⟩ : ∃ t, Fk[n]? = some t := ⟨_, List.getElem?_eq_getElem hlt⟩
      rw [ht] at hwk
      have hqn : n < qs.length := by rw [hr.out.2.1.len]; exact hlt
      obtain ⟨gq, rfl, hcq⟩ := hr.out.2.1.row.at n hqn
      have hq : qs[n]? = some qs[n] := List.getElem?_eq_getElem hqn
      generalize qs[n] = qt at hcq hq
      have hcq : wr.cell? ⟨gq, n, none⟩ = some (.pointer (some ⟨qt, 0, none⟩)) := hcq
      obtain ⟨F3, e4, s5, h10, h11, h12⟩ := bnd_step hwk
      have HC := hid (children_any (hid h10) hr.out.1 hr.out.2.1 hq ht)
      have HWK := hid (And.intro h11 h12)
      have HCL := hid h10
      have HKK := hid hkk
      clear h10 h11 h12 hwk hkk hqn hq ht hn
      go_wp2_with fail
      refine HC.out.mono ?_
      rintro r w4 ⟨rfl, h4, k4, g4⟩
      have HY := hid (And.intro h4 (And.intro (hr.out.2.2.1.trans k4) g4))
      clear HC h4 k4 g4 c3 c1 hcq
      by_cases he4 : e4 = 0
      rotate_left
      · clear HCL
        go_wp2_with fail
        go_ret2
        obtain ⟨rfl, rfl, rfl⟩ := HWK.out.2 he4
        obtain ⟨rfl, rfl, rfl⟩ := H8.out.2 he4
        exact ⟨_, rfl, HY.out.1, HFIN.out _ HY.out.2.1, fun q => absurd q he4⟩
      subst he4
      obtain ⟨qs3, v3, hl3⟩ := HY.out.2.2 (by first | rfl | trivial)
      have HZ : Hid (WdAt w4 b g c s5 ∧ WlAt w4 b g (w1.heap.size + 1 + 1) (w1.heap.size + 1) w.heap.size p.1 F3 qs3 v3 ∧ Keeps (fun i => two b g i ∨ w.heap.size ≤ i) w w4 ∧ n + 1 ≤ F3.length ∧ wlkF p.1 (2147483649 - (n + 1)) (n + 1) F3 s5 = ((F2, e3), s4)) := by
        have q := HWK.out.1 (by first | rfl | trivial)
        have hk := HKK.out
        have e : 2147483649 - (n + 1) = kk := by omega
        rw [e]
        have hcl := chi_len HCL.out
        exact hid ⟨HY.out.1, hl3, HY.out.2.1, by omega, q⟩
      clear HY HWK hl3 hr
      go_wp2_with fail
      go_roundw
      case rel => exact ⟨n + 1, by simp, F3, qs3, v3, s5, HZ⟩
      case measure => simp [intOf]; omega
    · obtain rfl : n = Fk.length := by omega
      have hne : Fk[Fk.length]? = none := by simp
      rw [hne] at hwk
      obtain ⟨rfl, rfl, rfl⟩ := rtn_eq hwk
      have H9 : (if (F2.length : Int) ≠ p.1 then err [] 340 else rtn F2) s4 = ((F, e), s1) := H8.out.1 (by first | rfl | trivial)
      clear hlt hwk hne
      by_cases hlen : (F2.length : Int) = p.1
      · rw [if_neg (fun f => f hlen)] at H9
        obtain ⟨rfl, rfl, rfl⟩ := rtn_eq H9
        have hlb : ((F.length : Int) != p.1) = false := by simp [hlen]
        clear hlen H9
        go_wp2_with fail
        go_ret2
        refine ⟨_, rfl, hr.out.1, HFIN.out _ hr.out.2.2.1, qs, hr.out.2.1.row, hr.out.2.1.len, by omega, hr.out.2.1.hi, hr.out.2.1.trees⟩
      · rw [if_pos hlen] at H9
        unfold err at H9
        simp only [Prod.mk.injEq] at H9
        obtain ⟨⟨rfl, rfl⟩, rfl⟩ := H9
        have hlb : ((F2.length : Int) != p.1) = true := by simpa using hlen
        clear hlen
        go_wp2_with fail
        go_ret2
        exact ⟨⟨_, rfl⟩, hr.out.1, HFIN.out _ hr.out.2.2.1⟩
end Go.Proofs.Ytalopkllldnipaa
