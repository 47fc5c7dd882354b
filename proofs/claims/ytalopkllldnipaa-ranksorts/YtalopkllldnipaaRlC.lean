
/- The walk of children (layer 24). No statement of the seat is proved here. -/
import Derived.Test.YtalopkllldnipaaRlB
namespace Go.Proofs.Ytalopkllldnipaa
open Go.RowKit

theorem follow_u {b g c k0 mb base : Nat} {cn : Int} {F : List Tr} {qs : List Nat} {v : Value} {par : Option Tr} {pp : Option Addr} {x e : Int} {t : Option Tr} {s s1 : Wd} (heq : Hid (folF cn par x F s = ((t, e), s1))) (hx : isW x) {w : World} (h : WdAt w b g c s) (hl : WlAt w b g k0 mb base cn F qs v) (hp : ParAt w base pp par) :
    Calls Try.prog 69 #[.pointer (some ⟨k0, 0, none⟩), .pointer pp, .int .u64 x] w fun r w' => ∃ po, r = .returned (.tuple #[.pointer po, .int .i64 e]) ∧ WdAt w' b g c s1 ∧ Keeps (fun i => two b g i ∨ base ≤ i) w w' ∧
      (e = 0 → ∃ qs' v', WlAt w' b g k0 mb base cn (F ++ t.toList) qs' v' ∧ PtAt w' base po t ∧ (∀ (i q : Nat), qs[i]? = some q → qs'[i]? = some q) ∧ (∀ u, t = some u → ∃ q : Nat, po = some ⟨q, 0, none⟩ ∧ qs'[F.length]? = some q)) := by
  refine (follow_any heq hx h hl hp).mono ?_
  rintro r w' ⟨po, rfl, h1, k1, h2⟩
  refine ⟨po, rfl, h1, k1, fun he => ?_⟩
  have h2 := h2 he
  cases t with
  | none =>
    obtain ⟨h3, h4⟩ := h2
    exact ⟨qs, v, by simpa using h4, h3, fun _ _ h => h, fun u hu => by cases hu⟩
  | some u =>
    obtain ⟨q, v', h3, h4⟩ := h2
    have hq : (qs ++ [q])[F.length]? = some q := by rw [← hl.len]; simp
    refine ⟨qs ++ [q], v', h4, ⟨q, h4.hi _ _ hq, h3, h4.trees _ _ _ hq (by simp)⟩, fun i q' hi => ?_, fun u' hu => ⟨q, h3, hq⟩⟩
    rw [List.getElem?_append_left (List.getElem?_eq_some_iff.1 hi).1]
    exact hi

set_option maxRecDepth 100000 in
set_option maxHeartbeats 4000000 in
theorem children_any {b g c k0 mb base : Nat} {cn : Int} {F F1 : List Tr} {qs : List Nat} {v : Value} {t : Tr} {qt i0 : Nat} {e : Int} {s s1 : Wd} (heq : Hid (chiF cn t F s = ((F1, e), s1))) {w : World} (h : WdAt w b g c s) (hl : WlAt w b g k0 mb base cn F qs v) (hq : qs[i0]? = some qt) (ht : F[i0]? = some t) :
    Calls Try.prog 70 #[.pointer (some ⟨k0, 0, none⟩), .pointer (some ⟨qt, 0, none⟩)] w fun r w' => r = .returned (.int .i64 e) ∧ WdAt w' b g c s1 ∧ Keeps (fun i => two b g i ∨ base ≤ i) w w' ∧
      (e = 0 → ∃ qs' v', WlAt w' b g k0 mb base cn F1 qs' v') := by
  have hT := hl.trees i0 qt t hq ht
  obtain ⟨l, e1, s2, h1, h2, h3⟩ := bnd_step heq.out
  have HC := hid (follow_u (hid h1) (hT.wc 2) h hl (par := some t) (pp := some ⟨qt, 0, none⟩) ⟨qt, rfl, hT, hl.hi _ _ hq⟩)
  have H2 := hid (And.intro h2 h3)
  have HI := hid (And.intro hq ht)
  have c3 := hT.cells.2.2.2.1
  have hw3 := hT.wc 3
  clear h1 h2 h3 h hl heq hq hT
  go_enter Try.func70, Try.ntmps70
  go_wp2_with fail
  refine HC.out.mono ?_
  rintro r w1 ⟨po1, rfl, h1, k1, g1⟩
  have HF := hid (And.intro h1 (And.intro k1 g1))
  clear HC h1 k1 g1 c3
  by_cases he1 : e1 = 0
  rotate_left
  · go_wp2_with fail
    go_ret
    obtain ⟨rfl, rfl, rfl⟩ := H2.out.2 he1
    exact ⟨rfl, HF.out.1, HF.out.2.1, fun q => absurd q he1⟩
  subst he1
  obtain ⟨qs1, v1, hl1, hp1, hx1, hy1⟩ := HF.out.2.2 rfl
  have hq1 := hx1 _ _ HI.out.1
  have ht1 : (F ++ l.toList)[i0]? = some t := by rw [List.getElem?_append_left (List.getElem?_eq_some_iff.1 HI.out.2).1]; exact HI.out.2
  have hT := hl1.trees i0 qt t hq1 ht1
  obtain ⟨rr, e2, s3, h4, h5, h6⟩ := bnd_step (H2.out.1 rfl)
  have HC := hid (follow_u (hid h4) hw3 HF.out.1 hl1 (par := some t) (pp := some ⟨qt, 0, none⟩) ⟨qt, rfl, hT, hl1.hi _ _ hq1⟩)
  have H5 := hid (And.intro h5 h6)
  have c4 := hT.cells.2.2.2.2.1
  have HK := hid (And.intro HF.out.2.1 (And.intro hl1 (And.intro hp1 (And.intro hy1 (And.intro hq1 ht1)))))
  clear h4 h5 h6 H2 HF hT hl1 hp1 hx1 hy1 hq1 ht1
  go_wp2_with fail
  refine HC.out.mono ?_
  rintro r w2 ⟨po2, rfl, h1, k1, g1⟩
  have HG := hid (And.intro h1 (And.intro k1 g1))
  clear HC h1 k1 g1 c4
  by_cases he2 : e2 = 0
  rotate_left
  · go_wp2_with fail
    go_ret
    obtain ⟨rfl, rfl, rfl⟩ := H5.out.2 he2
    exact ⟨rfl, HG.out.1, HK.out.1.trans HG.out.2.1, fun q => absurd q he2⟩
  subst he2
  obtain ⟨qs2, v2, hl2, hp2, hx2, hy2⟩ := HG.out.2.2 (by first | rfl | trivial)
  have hq2 := hx2 _ _ HK.out.2.2.2.2.1
  have ht2 : (F ++ l.toList ++ rr.toList)[i0]? = some t := by rw [List.getElem?_append_left (List.getElem?_eq_some_iff.1 HK.out.2.2.2.2.2).1]; exact HK.out.2.2.2.2.2
  have hT := hl2.trees i0 qt t hq2 ht2
  have hpl : PtAt w2 0 po1 l := by
    cases l with
    | none => exact HK.out.2.2.1
    | some u =>
      obtain ⟨q, h3, h4⟩ := HK.out.2.2.2.1 u rfl
      have h5 := hx2 _ _ h4
      have h6 : (F ++ (some u).toList ++ rr.toList)[F.length]? = some u := by simp
      exact ⟨q, Nat.zero_le _, h3, hl2.trees _ _ _ h5 h6⟩
  have HR2 : Hid (∀ X : World, X = w2 → Calls Try.prog 81 #[.pointer po2] X fun rr' w' => rr' = .returned (.int .u64 (rkT rr)) ∧ w' = X) := hid (fun X hX => by subst hX; exact rkT_any hp2)
  have HR1 : Hid (∀ X : World, X = w2 → Calls Try.prog 81 #[.pointer po1] X fun rr' w' => rr' = .returned (.int .u64 (rkT l)) ∧ w' = X) := hid (fun X hX => by subst hX; exact rkT_any hpl)
  have HR0 : Hid (∀ X : World, X = w2 → Calls Try.prog 81 #[.pointer (some ⟨qt, 0, none⟩)] X fun rr' w' => rr' = .returned (.int .u64 (oat t.c 4)) ∧ w' = X) := hid (fun X hX => by subst hX; exact rk_any hT)
  have HX := hid (And.intro HG.out.1 (And.intro (HK.out.1.trans HG.out.2.1) hl2))
  have H7 : (if rkT l < rkT rr ∨ oat t.c 4 ≠ uw (rkT rr + 1) then err [] 340 else rtn (F ++ l.toList ++ rr.toList)) s3 = ((F1, e), s1) := H5.out.1 (by first | rfl | trivial)
  clear hp2 hpl hT hl2 hx2 hy2 hq2 ht2 HG HK H5
  by_cases hlt : rkT l < rkT rr
  · rw [if_pos (.inl hlt)] at H7
    unfold err at H7
    simp only [Prod.mk.injEq] at H7
    obtain ⟨⟨rfl, rfl⟩, rfl⟩ := H7
    go_wp2_with fail
    refine (HR2.out _ rfl).mono ?_
    rintro r w_ ⟨rfl, hw_⟩
    subst w_
    go_wp2_with fail
    refine (HR1.out _ rfl).mono ?_
    rintro r w_ ⟨rfl, hw_⟩
    subst w_
    go_wp2_with fail
    go_ret
    exact ⟨rfl, HX.out.1, HX.out.2.1, fun q => absurd q (by decide)⟩
  by_cases hne : oat t.c 4 = uw (rkT rr + 1)
  · rw [if_neg (fun f => by rcases f with f | f; exact hlt f; exact f hne)] at H7
    obtain ⟨rfl, rfl, rfl⟩ := rtn_eq H7
    rw [hne] at HR0
    have hgt : ¬ rkT l < rkT rr := hlt
    have hwr : uw (rkT rr + 1) = IntKind.u64.wrap (rkT rr + 1) := rfl
    rw [hwr] at HR0
    clear hne hwr H7
    go_wp2_with fail
    refine (HR2.out _ rfl).mono ?_
    rintro r w_ ⟨rfl, hw_⟩
    subst w_
    go_wp2_with fail
    refine (HR1.out _ rfl).mono ?_
    rintro r w_ ⟨rfl, hw_⟩
    subst w_
    go_wp2_with fail
    refine (HR0.out _ rfl).mono ?_
    rintro r w_ ⟨rfl, hw_⟩
    subst w_
    go_wp2_with fail
    refine (HR2.out _ rfl).mono ?_
    rintro r w_ ⟨rfl, hw_⟩
    subst w_
    go_wp2_with fail
    go_ret
    exact ⟨rfl, HX.out.1, HX.out.2.1, qs2, v2, by rw [← List.append_assoc]; exact HX.out.2.2⟩
  · rw [if_pos (.inr hne)] at H7
    unfold err at H7
    simp only [Prod.mk.injEq] at H7
    obtain ⟨⟨rfl, rfl⟩, rfl⟩ := H7
    have hnb : (oat t.c 4 != IntKind.u64.wrap (rkT rr + 1)) = true := by
      have q : (oat t.c 4 != uw (rkT rr + 1)) = true := by simpa using hne
      exact q
    clear hne
    go_wp2_with fail
    refine (HR2.out _ rfl).mono ?_
    rintro r w_ ⟨rfl, hw_⟩
    subst w_
    go_wp2_with fail
    refine (HR1.out _ rfl).mono ?_
    rintro r w_ ⟨rfl, hw_⟩
    subst w_
    go_wp2_with fail
    refine (HR0.out _ rfl).mono ?_
    rintro r w_ ⟨rfl, hw_⟩
    subst w_
    go_wp2_with fail
    refine (HR2.out _ rfl).mono ?_
    rintro r w_ ⟨rfl, hw_⟩
    subst w_
    go_wp2_with fail
    go_ret
    exact ⟨rfl, HX.out.1, HX.out.2.1, fun q => absurd q (by decide)⟩
end Go.Proofs.Ytalopkllldnipaa
