
/- Keys by the way along a list are what stands there (layer 21), pure. No statement of the seat is proved here. -/
import Derived.Test.YtbdekpccddmehaaLwA
namespace Go.Proofs.Ytbdekpccddmehaa
open Go.RowKit

theorem get_no {s : Wd} (h : s.f < 0) (a : Int) : s.get a = if (s.W.length : Int) ≤ a then ((0, 4), s.gt) else ((oat s.W a.toNat, 0), s.gt) := by
  unfold Wd.get
  rw [if_neg]
  unfold Wd.fl
  simp only [Bool.and_eq_true, decide_eq_true_eq]
  rintro ⟨q, _⟩
  have : (s.gt).f = s.f := rfl
  omega
theorem gt_f (s : Wd) : (s.gt).f = s.f ∧ (s.gt).W = s.W := ⟨rfl, rfl⟩
theorem follow_out {s : Wd} (h : s.f < 0) {a : Int} (ha : (s.W.length : Int) ≤ a) : ∃ s1, s.follow a = ((Sp.zero, 4), s1) := by
  unfold Wd.follow
  rw [get_no h, if_pos ha]
  exact ⟨_, rfl⟩
theorem follow_nil {s : Wd} (h : s.f < 0) {a : Int} (ha : ¬ (s.W.length : Int) ≤ a) (h0 : oat s.W a.toNat = 0) : ∃ s1, s.follow a = ((⟨a, 0, 0⟩, 0), s1) := by
  unfold Wd.follow
  rw [get_no h, if_neg ha]
  simp only [h0]
  exact ⟨_, rfl⟩
theorem follow_far {s : Wd} (h : s.f < 0) {a : Int} (ha : ¬ (s.W.length : Int) ≤ a) (h0 : oat s.W a.toNat ≠ 0) (hy : (s.W.length : Int) ≤ uw (oat s.W a.toNat - 1)) : ∃ s1, s.follow a = ((Sp.zero, 4), s1) := by
  unfold Wd.follow
  rw [get_no h, if_neg ha]
  simp only [h0]
  rw [get_no (s := s.gt) h, if_pos (show ((s.gt).W.length : Int) ≤ _ from hy)]
  exact ⟨_, rfl⟩
theorem follow_in {s : Wd} (h : s.f < 0) {a : Int} (ha : ¬ (s.W.length : Int) ≤ a) (h0 : oat s.W a.toNat ≠ 0) (hy : ¬ (s.W.length : Int) ≤ uw (oat s.W a.toNat - 1)) : ∃ s1, s.follow a = ((⟨a, oat s.W a.toNat, oat s.W (uw (oat s.W a.toNat - 1)).toNat⟩, 0), s1) ∧ s1.W = s.W ∧ s1.f = s.f := by
  unfold Wd.follow
  rw [get_no h, if_neg ha]
  simp only [h0]
  rw [get_no (s := s.gt) h, if_neg (show ¬ ((s.gt).W.length : Int) ≤ _ from hy)]
  exact ⟨_, rfl, rfl, rfl⟩
theorem ld_nd {x : Int} (hx : isW x) (a k : Int) : ld (Sp.nd ⟨a, x, k⟩) = x := by
  unfold ld Sp.nd uw isW at *
  rw [IntKind.wrap_u64, IntKind.wrap_u64]
  simp only
  omega
theorem oat_append_last (l : List Int) (x : Int) : oat (l ++ [x]) ((l ++ [x]).length - 1) = x := by
  unfold oat
  simp
/-- What is found along a way, held against what stands. -/
def Agree (R : List Int × Bool) (count : Int) (r : (Sp × Int) × List Sp × Wd) : Prop :=
  (R.2 = true → r.1.2 = 0 ∧ r.1.1.n = 0 ∧ r.2.1.map Sp.k = R.1 ∧ (r.2.1.length : Int) = count) ∧
  (R.2 = false → (r.1.2 = 4 ∨ r.1.2 = 310) ∨ (r.1.2 = 0 ∧ (r.1.1.n ≠ 0 ∨ (r.2.1.length : Int) ≠ count)))
theorem agree_no {count : Int} {r : (Sp × Int) × List Sp × Wd} (h : (r.1.2 = 4 ∨ r.1.2 = 310) ∨ (r.1.2 = 0 ∧ (r.1.1.n ≠ 0 ∨ (r.2.1.length : Int) ≠ count))) : Agree ([], false) count r := ⟨fun e => (by cases e), fun _ => h⟩
theorem way_stands (W : List Int) (hW : ∀ x ∈ W, isW x) (count : Int) : ∀ (m2 m1 : Nat) (b : Sp) (a : Int) (P : List Sp) (s : Wd), s.W = W → s.f < 0 → 0 ≤ a → ¬ (W.length : Int) ≤ a → Up W (P.map Sp.k) → m2 + P.length = W.length →
    ((b.n = 0 ∧ m1 = FU) ∨ (b.n ≠ 0 ∧ FU ≤ m1 + b.k.toNat + 1 ∧ isW b.k)) → (P = [] ↔ b.n = 0) → (P ≠ [] → b.k = oat (P.map Sp.k) ((P.map Sp.k).length - 1)) → (P.length : Int) ≤ count →
    Agree (stGo W count (m2 + 1) (oat W a.toNat) (P.map Sp.k)) count (way (pAll count) m1 b a P s)
  | m2, m1, b, a, P, s, hs, hf, ha0, ha, hup, hlen, hm, hPb, hPk, hPc => by
    have hm1 : ∃ m', m1 = m' + 1 := by
      rcases hm with ⟨_, q⟩ | ⟨_, q, q2⟩
      · exact ⟨18446744073709551616, q⟩
      · unfold FU at q; unfold isW at q2; exact ⟨m1 - 1, by omega⟩
    obtain ⟨m, rfl⟩ := hm1
    have ha' : ¬ (s.W.length : Int) ≤ a := by rw [hs]; exact ha
    obtain ⟨nx, hnx⟩ : ∃ nx, oat W a.toNat = nx := ⟨_, rfl⟩
    have hnx' : oat s.W a.toNat = nx := by rw [hs]; exact hnx
    have hwn : isW nx := by rw [← hnx]; exact oat_isW hW _
    rw [hnx]
    by_cases h0 : nx = 0
    · subst h0
      obtain ⟨s1, e⟩ := follow_nil hf ha' hnx'
      rw [way_end e (.inr rfl), stGo_end]
      refine ⟨fun q => ⟨rfl, rfl, rfl, ?_⟩, fun q => .inr ⟨rfl, .inr ?_⟩⟩
      · simpa using q
      · simpa using q
    · by_cases hy : (W.length : Int) ≤ uw (nx - 1)
      · obtain ⟨s1, e⟩ := follow_far hf ha' (by rw [hnx']; exact h0) (by rw [hnx', hs]; exact hy)
        rw [way_end e (.inl (by decide)), stGo_no h0 (.inl hy)]
        exact agree_no (.inl (.inl rfl))
      · obtain ⟨s1, e, hs1, hf1⟩ := follow_in hf ha' (by rw [hnx']; exact h0) (by rw [hnx', hs]; exact hy)
        rw [hnx', hs] at e
        obtain ⟨k, hk⟩ : ∃ k, oat W (uw (nx - 1)).toNat = k := ⟨_, rfl⟩
        rw [hk] at e
        have hkW : k ∈ W := by rw [← hk]; exact oat_mem (by have := (uw_isW (nx - 1)).1; omega)
        have hkw : isW k := hW k hkW
        by_cases hb : b.n ≠ 0 ∧ k ≤ b.k
        · have hne : P ≠ [] := fun q => hb.1 (hPb.1 q)
          rw [way_list e h0 hb.1 hb.2, stGo_no h0 (.inr (.inr (.inl ⟨by simpa using hne, by rw [hk, ← hPk hne]; exact hb.2⟩)))]
          exact agree_no (.inl (.inr rfl))
        · by_cases hc : (P.length : Int) = count
          · have hp : pAll count P ⟨a, nx, k⟩ = false := by unfold pAll; simp [hc]
            rw [way_stop e h0 hb hp, stGo_no h0 (.inr (.inr (.inr (by simp; omega))))]
            exact agree_no (.inr ⟨rfl, .inl h0⟩)
          · have hp : pAll count P ⟨a, nx, k⟩ = true := by unfold pAll; simp [hc]
            rw [way_next e h0 hb hp, ld_nd hwn]
            have hnl : ¬ ((P.map Sp.k) ≠ [] ∧ k ≤ oat (P.map Sp.k) ((P.map Sp.k).length - 1)) := by
              rintro ⟨q1, q2⟩
              have hne : P ≠ [] := by simpa using q1
              rw [← hPk hne] at q2
              exact hb ⟨fun q => hne (hPb.2 q), q2⟩
            have hup' := hup.next hkW hnl
            have hmm : ∃ m', m = m' + 1 := by
              unfold isW at hkw
              rcases hm with ⟨_, q⟩ | ⟨q0, q, q2⟩
              · unfold FU at q; exact ⟨m - 1, by omega⟩
              · have h2 : ¬ k ≤ b.k := fun z => hb ⟨q0, z⟩
                unfold FU at q; unfold isW at q2; exact ⟨m - 1, by omega⟩
            by_cases hxo : (W.length : Int) ≤ nx
            · obtain ⟨s2, e2⟩ := follow_out (s := s1) (by rw [hf1]; exact hf) (a := nx) (by rw [hs1, hs]; exact hxo)
              obtain ⟨m', rfl⟩ := hmm
              rw [way_end e2 (.inl (by decide)), stGo_no h0 (.inr (.inl hxo))]
              exact agree_no (.inl (.inl rfl))
            · have hm2 : ∃ m2', m2 = m2' + 1 := by
                have q := hup'.len
                simp only [List.length_append, List.length_map, List.length_cons, List.length_nil] at q
                exact ⟨m2 - 1, by omega⟩
              obtain ⟨m2', rfl⟩ := hm2
              have hno : ¬ ((W.length : Int) ≤ uw (nx - 1) ∨ (W.length : Int) ≤ nx ∨ ((P.map Sp.k) ≠ [] ∧ oat W (uw (nx - 1)).toNat ≤ oat (P.map Sp.k) ((P.map Sp.k).length - 1)) ∨ count ≤ ((P.map Sp.k).length : Int)) := by
                rintro (q | q | q | q)
                · exact hy q
                · exact hxo q
                · rw [hk] at q; exact hnl q
                · simp at q; omega
              rw [stGo_next h0 hno, hk]
              have hmap : (P ++ [(⟨a, nx, k⟩ : Sp)]).map Sp.k = P.map Sp.k ++ [k] := by simp
              rw [← hmap]
              refine way_stands W hW count m2' m ⟨a, nx, k⟩ nx (P ++ [⟨a, nx, k⟩]) s1 (hs1.trans hs) (by rw [hf1]; exact hf) hwn.1 hxo (by rw [hmap]; exact hup') (by simp; omega) (.inr ⟨h0, ?_, hkw⟩) ⟨fun q => by simp at q, fun q => absurd q h0⟩ (fun _ => by rw [hmap, oat_append_last]) (by simp; omega)
              simp only
              unfold isW at hkw
              rcases hm with ⟨_, q⟩ | ⟨q0, q, q2⟩
              · omega
              · have h2 : ¬ k ≤ b.k := fun z => hb ⟨q0, z⟩
                unfold isW at q2; omega
/-- Keys, held against what stands. -/
theorem keys_stands {s : Wd} (hW : ∀ x ∈ s.W, isW x) (hf : s.f < 0) (l : Int) :
    ((stands s.W l).2 = true → (s.keys l).1 = ((stands s.W l).1, 0)) ∧ ((stands s.W l).2 = false → (s.keys l).1.1 = [] ∧ ((s.keys l).1.2 = 4 ∨ (s.keys l).1.2 = 310)) := by
  unfold Wd.keys Wd.all stands
  rw [get_no hf]
  by_cases h0 : (s.W.length : Int) ≤ l
  · rw [if_pos h0, if_pos (.inl h0)]
    exact ⟨fun q => (by cases q), fun _ => ⟨rfl, .inl rfl⟩⟩
  · rw [if_neg h0]
    simp only [ne_eq, not_true_eq_false, if_false]
    obtain ⟨cn, hcn⟩ : ∃ cn, oat s.W l.toNat = cn := ⟨_, rfl⟩
    have hcw : isW cn := by rw [← hcn]; exact oat_isW hW _
    rw [hcn]
    obtain ⟨r, hr⟩ : ∃ r, s.gt.way (pAll cn) l = r := ⟨_, rfl⟩
    have hag : Agree (if (s.W.length : Int) ≤ l ∨ (s.W.length : Int) ≤ uw (l + 1) then ([], false) else stGo s.W cn (s.W.length + 1) (oat s.W (uw (l + 1)).toNat) []) cn r := by
      by_cases h1 : (s.W.length : Int) ≤ uw (l + 1)
      · rw [if_pos (.inr h1), ← hr]
        obtain ⟨s2, e2⟩ := follow_out (s := s.gt) hf (a := ld l) h1
        have q : s.gt.way (pAll cn) l = ((Sp.zero, 4), [], s2) := way_end (m := 18446744073709551616) e2 (.inl (by decide))
        rw [q]
        exact agree_no (.inl (.inl rfl))
      · rw [if_neg (by rintro (q | q); exact h0 q; exact h1 q), ← hr]
        exact way_stands s.W hW cn s.W.length FU Sp.zero (ld l) [] s.gt rfl hf (uw_isW _).1 h1 ⟨List.Pairwise.nil, by simp⟩ (by simp) (.inl ⟨rfl, rfl⟩) ⟨fun _ => rfl, fun _ => rfl⟩ (fun q => absurd rfl q) (by have := hcw.1; simpa using this)
    rw [hr]
    obtain ⟨⟨t, e⟩, P, s1⟩ := r
    obtain ⟨g1, g2⟩ := hag
    simp only at g1 g2 ⊢
    refine ⟨fun q => ?_, fun q => ?_⟩
    · obtain ⟨rfl, ht, hP, hlen⟩ := g1 q
      simp [ht, hlen, hP]
    · rcases g2 q with q1 | ⟨rfl, q1⟩
      · have he : e ≠ 0 := by rcases q1 with rfl | rfl <;> decide
        simp [he]
        exact q1
      · rcases q1 with q1 | q1
        · simp [q1]
        · simp [q1]
end Go.Proofs.Ytbdekpccddmehaa
