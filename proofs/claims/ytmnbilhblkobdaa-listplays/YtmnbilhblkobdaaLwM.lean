/-
  No statement of the seat is proved here. (Several texts in one: LwA, LwB, LwC.)
-/
import Derived.Test.YtmnbilhblkobdaaLrD

/- What stands in cells: the document's answer Stands, as a function and walked (layer 21). No statement of the seat is proved here. -/
namespace Go.Proofs.Ytmnbilhblkobdaa
open Go.RowKit

/-- A cell's word, if there is one. -/
def wdP (W : List Int) (a : Int) : Int × Bool := if (W.length : Int) ≤ a then (0, false) else (oat W a.toNat, true)
def stGo (W : List Int) (count : Int) : Nat → Int → List Int → List Int × Bool
  | 0, _, out => (out, false)
  | m + 1, nx, out =>
    if nx = 0 then (out, (out.length : Int) == count)
    else if (W.length : Int) ≤ uw (nx - 1) ∨ (W.length : Int) ≤ nx ∨ (out ≠ [] ∧ oat W (uw (nx - 1)).toNat ≤ oat out (out.length - 1)) ∨ count ≤ (out.length : Int) then ([], false)
    else stGo W count m (oat W nx.toNat) (out ++ [oat W (uw (nx - 1)).toNat])
def stands (W : List Int) (l : Int) : List Int × Bool :=
  if (W.length : Int) ≤ l ∨ (W.length : Int) ≤ uw (l + 1) then ([], false) else stGo W (oat W l.toNat) (W.length + 1) (oat W (uw (l + 1)).toNat) []
theorem stGo_end {W : List Int} {count : Int} {m : Nat} {out : List Int} : stGo W count (m + 1) 0 out = (out, (out.length : Int) == count) := by
  unfold stGo; rw [if_pos rfl]
theorem stGo_no {W : List Int} {count : Int} {m : Nat} {nx : Int} {out : List Int} (h0 : nx ≠ 0) (h : (W.length : Int) ≤ uw (nx - 1) ∨ (W.length : Int) ≤ nx ∨ (out ≠ [] ∧ oat W (uw (nx - 1)).toNat ≤ oat out (out.length - 1)) ∨ count ≤ (out.length : Int)) : stGo W count (m + 1) nx out = ([], false) := by
  unfold stGo; rw [if_neg h0, if_pos h]
theorem stGo_next {W : List Int} {count : Int} {m : Nat} {nx : Int} {out : List Int} (h0 : nx ≠ 0) (h : ¬ ((W.length : Int) ≤ uw (nx - 1) ∨ (W.length : Int) ≤ nx ∨ (out ≠ [] ∧ oat W (uw (nx - 1)).toNat ≤ oat out (out.length - 1)) ∨ count ≤ (out.length : Int))) : stGo W count (m + 1) nx out = stGo W count m (oat W nx.toNat) (out ++ [oat W (uw (nx - 1)).toNat]) := by
  conv => lhs; unfold stGo
  rw [if_neg h0, if_neg h]
theorem word_r {v : Value} {W : List Int} {a x : Int} {b : Bool} (hq : wdP W a = (x, b)) (ha : isW a) (hl : W.length ≤ 1000000) {w : World} (h : Lies w v W) :
    Calls Try.prog 30 #[v, .int .u64 a] w fun e w' => e = .returned (.tuple #[.int .u64 x, .bool b]) ∧ w' = w := by
  unfold wdP at hq
  unfold isW at ha
  by_cases hr : (W.length : Int) ≤ a
  · rw [if_pos hr] at hq
    simp only [Prod.mk.injEq] at hq
    obtain ⟨rfl, rfl⟩ := hq
    obtain ⟨ad, c, rfl, _⟩ := h
    exact word_out ad W.length c a w hr (Nat.le_trans hl (by omega))
  · rw [if_neg hr] at hq
    simp only [Prod.mk.injEq] at hq
    obtain ⟨rfl, rfl⟩ := hq
    obtain ⟨ad, c, rfl, hc⟩ := h
    obtain ⟨i, rfl⟩ : ∃ i : Nat, a = (i : Int) := ⟨a.toNat, by omega⟩
    obtain ⟨g, off, rfl, hcell⟩ := hc i (by omega)
    exact word_in g off W.length c i (oat W i) w (by omega) (Nat.le_trans hl (by omega)) hcell
/-- Rising words that stand among others. -/
structure Up (W out : List Int) : Prop where
  up : out.Pairwise (· < ·)
  mem : ∀ x ∈ out, x ∈ W
theorem Up.len {W out : List Int} (h : Up W out) : out.length ≤ W.length := rising_le _ _ h.up h.mem
theorem last_le : ∀ {out : List Int}, out.Pairwise (· < ·) → ∀ x ∈ out, x ≤ oat out (out.length - 1) := by
  intro out h x hx
  obtain ⟨i, hi, rfl⟩ := List.getElem_of_mem hx
  unfold oat
  rw [List.getElem?_eq_getElem (by omega)]
  simp only [Option.getD_some]
  rcases Nat.lt_or_ge i (out.length - 1) with q | q
  · exact Int.le_of_lt (List.pairwise_iff_getElem.1 h i (out.length - 1) hi (by omega) q)
  · have : i = out.length - 1 := by omega
    subst this
    exact Int.le_refl _
theorem Up.next {W out : List Int} {k : Int} (h : Up W out) (hk : k ∈ W) (hn : ¬ (out ≠ [] ∧ k ≤ oat out (out.length - 1))) : Up W (out ++ [k]) := by
  refine ⟨List.pairwise_append.2 ⟨h.up, List.pairwise_singleton _ _, ?_⟩, ?_⟩
  · intro x hx y hy
    simp at hy
    subst hy
    have h1 := last_le h.up x hx
    have h2 : ¬ y ≤ oat out (out.length - 1) := fun q => hn ⟨fun e => by rw [e] at hx; simp at hx, q⟩
    omega
  · intro x hx
    rcases List.mem_append.1 hx with q | q
    · exact h.mem x q
    · simp at q; rw [q]; exact hk
set_option maxRecDepth 100000 in
set_option maxHeartbeats 4000000 in
theorem stands_any (v : Value) (W : List Int) (l : Int) (hl : isW l) (hW : ∀ x ∈ W, isW x) (hn : W.length ≤ 1000000) (w : World) (h : Lies w v W) :
    Calls Try.prog 12 #[v, .int .u64 l] w fun e w' => ∃ v', e = .returned (.tuple #[v', .bool (stands W l).2]) ∧ Wr w' w.heap.size v' (stands W l).1 ∧ Keeps (fun _ => False) w w' := by
  have HL := hid h
  obtain ⟨av, cv, rfl, _⟩ := h
  obtain ⟨⟨x0, b0⟩, e0⟩ : ∃ r, wdP W l = r := ⟨_, rfl⟩
  obtain ⟨⟨x1, b1⟩, e1⟩ : ∃ r, wdP W (uw (l + 1)) = r := ⟨_, rfl⟩
  have E0 := hid e0
  have E1 := hid e1
  by_cases h0 : (W.length : Int) ≤ l
  · have hs : stands W l = ([], false) := if_pos (.inl h0)
    rw [hs]
    have hb0 : b0 = false := by unfold wdP at e0; rw [if_pos h0] at e0; simp only [Prod.mk.injEq] at e0; exact e0.2.symm
    subst hb0
    clear hs e0 e1
    go_enter Try.func12, Try.ntmps12
    go_wp2_with fail
    refine (word_r E0.out hl hn HL.out).mono ?_
    rintro e_ w_ ⟨rfl, hw_⟩
    subst w_
    go_wp2_with fail
    refine (word_r E1.out (uw_isW _) hn HL.out).mono ?_
    rintro e_ w_ ⟨rfl, hw_⟩
    subst w_
    go_wp2_with fail
    go_ret2
    exact ⟨_, rfl, Wr.nil _ _, Keeps.refl _ _⟩
  · have hb0 : x0 = oat W l.toNat ∧ b0 = true := by unfold wdP at e0; rw [if_neg h0] at e0; simp only [Prod.mk.injEq] at e0; exact ⟨e0.1.symm, e0.2.symm⟩
    obtain ⟨hx0, rfl⟩ := hb0
    by_cases h1 : (W.length : Int) ≤ uw (l + 1)
    · have hs : stands W l = ([], false) := if_pos (.inr h1)
      rw [hs]
      have hb1 : b1 = false := by unfold wdP at e1; rw [if_pos h1] at e1; simp only [Prod.mk.injEq] at e1; exact e1.2.symm
      subst hb1
      clear hs e0 e1
      go_enter Try.func12, Try.ntmps12
      go_wp2_with fail
      refine (word_r E0.out hl hn HL.out).mono ?_
      rintro e_ w_ ⟨rfl, hw_⟩
      subst w_
      go_wp2_with fail
      refine (word_r E1.out (uw_isW _) hn HL.out).mono ?_
      rintro e_ w_ ⟨rfl, hw_⟩
      subst w_
      go_wp2_with fail
      go_ret2
      exact ⟨_, rfl, Wr.nil _ _, Keeps.refl _ _⟩
    · have hb1 : x1 = oat W (uw (l + 1)).toNat ∧ b1 = true := by unfold wdP at e1; rw [if_neg h1] at e1; simp only [Prod.mk.injEq] at e1; exact ⟨e1.1.symm, e1.2.symm⟩
      obtain ⟨hx1, rfl⟩ := hb1
      have hs : stands W l = stGo W x0 (W.length + 1) x1 [] := by rw [hx0, hx1]; exact if_neg (by rintro (q | q); exact h0 q; exact h1 q)
      have hwx1 : isW x1 := by rw [hx1]; exact oat_isW hW _
      obtain ⟨R, hR⟩ : ∃ R, stands W l = R := ⟨_, rfl⟩
      rw [hR]
      rw [hs] at hR
      have HR := hid hR
      clear hs hR e0 e1 hx0 hx1 h0 h1
      go_enter Try.func12, Try.ntmps12
      go_wp2_with fail
      refine (word_r E0.out hl hn HL.out).mono ?_
      rintro e_ w_ ⟨rfl, hw_⟩
      subst w_
      go_wp2_with fail
      refine (word_r E1.out (uw_isW _) hn HL.out).mono ?_
      rintro e_ w_ ⟨rfl, hw_⟩
      subst w_
      go_wp2_with fail
      go_loopw [8, 10] (fun nx ov wr => ∃ (m : Nat) (x : Int) (out : List Int), nx = .int .u64 x ∧ Hid (stGo W x0 (m + 1) x out = R ∧ isW x ∧ Up W out ∧ m + out.length = W.length ∧ Wr wr w.heap.size ov out ∧ Keeps (fun _ => False) w wr ∧ w.heap.size ≤ wr.heap.size)) (fun _ ov _ => W.length + 1 - lenOf ov)
      case atStart => exact ⟨W.length, x1, [], rfl, hid ⟨HR.out, hwx1, ⟨List.Pairwise.nil, by simp⟩, by simp, Wr.nil _ _, Keeps.refl _ _, Nat.le_refl _⟩⟩
      case round =>
        obtain ⟨m, x, out, rfl, HY⟩ := hrel
        have hup := HY.out.2.2.1.len
        obtain ⟨ao, co, rfl⟩ := HY.out.2.2.2.2.1.form
        have hwl : IntKind.u64.wrap (out.length : Int) = (out.length : Int) := by rw [IntKind.wrap_u64]; omega
        by_cases hx : x = 0
        · subst hx
          have HF : Hid (R = (out, (out.length : Int) == x0)) := hid (HY.out.1.symm.trans stGo_end)
          go_wp2_with fail
          go_ret2
          rw [HF.out]
          exact ⟨_, rfl, HY.out.2.2.2.2.1, HY.out.2.2.2.2.2.1⟩
        · have hxb : (x != 0) = true := by simpa using hx
          obtain ⟨⟨k, c1⟩, e1⟩ : ∃ r, wdP W (uw (x - 1)) = r := ⟨_, rfl⟩
          obtain ⟨⟨y, c2⟩, e2⟩ : ∃ r, wdP W x = r := ⟨_, rfl⟩
          have F1 := hid e1
          have F2 := hid e2
          have HLr : Hid (Lies wr (.slice av W.length cv) W) := hid (HL.out.keeps HY.out.2.2.2.2.2.1 (fun _ _ _ _ f => f))
          by_cases h1 : (W.length : Int) ≤ uw (x - 1)
          · have hc1 : c1 = false := by unfold wdP at e1; rw [if_pos h1] at e1; simp only [Prod.mk.injEq] at e1; exact e1.2.symm
            subst hc1
            have HF : Hid (R = ([], false)) := hid (HY.out.1.symm.trans (stGo_no hx (.inl h1)))
            clear e1 e2 h1
            go_wp2_with fail
            refine (word_r F1.out (uw_isW _) hn HLr.out).mono ?_
            rintro e_ w_ ⟨rfl, hw_⟩
            subst w_
            go_wp2_with fail
            refine (word_r F2.out HY.out.2.1 hn HLr.out).mono ?_
            rintro e_ w_ ⟨rfl, hw_⟩
            subst w_
            go_wp2_with fail
            go_ret2
            rw [HF.out]
            exact ⟨_, rfl, Wr.nil _ _, HY.out.2.2.2.2.2.1⟩
          · have hc1 : k = oat W (uw (x - 1)).toNat ∧ c1 = true := by unfold wdP at e1; rw [if_neg h1] at e1; simp only [Prod.mk.injEq] at e1; exact ⟨e1.1.symm, e1.2.symm⟩
            obtain ⟨hk, rfl⟩ := hc1
            by_cases h2 : (W.length : Int) ≤ x
            · have hc2 : c2 = false := by unfold wdP at e2; rw [if_pos h2] at e2; simp only [Prod.mk.injEq] at e2; exact e2.2.symm
              subst hc2
              have HF : Hid (R = ([], false)) := hid (HY.out.1.symm.trans (stGo_no hx (.inr (.inl h2))))
              clear e1 e2 h1 h2 hk
              go_wp2_with fail
              refine (word_r F1.out (uw_isW _) hn HLr.out).mono ?_
              rintro e_ w_ ⟨rfl, hw_⟩
              subst w_
              go_wp2_with fail
              refine (word_r F2.out HY.out.2.1 hn HLr.out).mono ?_
              rintro e_ w_ ⟨rfl, hw_⟩
              subst w_
              go_wp2_with fail
              go_ret2
              rw [HF.out]
              exact ⟨_, rfl, Wr.nil _ _, HY.out.2.2.2.2.2.1⟩
            · have hc2 : y = oat W x.toNat ∧ c2 = true := by unfold wdP at e2; rw [if_neg h2] at e2; simp only [Prod.mk.injEq] at e2; exact ⟨e2.1.symm, e2.2.symm⟩
              obtain ⟨hy, rfl⟩ := hc2
              have hkW : k ∈ W := by rw [hk]; exact oat_mem (by have := (uw_isW (x - 1)).1; omega)
              have hyw : isW y := by rw [hy]; exact oat_isW hW _
              by_cases ho : out = []
              · have hol : out.length = 0 := by rw [ho]; rfl
                by_cases hcn : x0 ≤ (out.length : Int)
                · have HF : Hid (R = ([], false)) := hid (HY.out.1.symm.trans (stGo_no hx (.inr (.inr (.inr hcn)))))
                  clear e1 e2 h1 h2 hk hy
                  rw [hol] at hcn hwl
                  rw [hol]
                  go_wp2_with fail
                  refine (word_r F1.out (uw_isW _) hn HLr.out).mono ?_
                  rintro e_ w_ ⟨rfl, hw_⟩
                  subst w_
                  go_wp2_with fail
                  refine (word_r F2.out HY.out.2.1 hn HLr.out).mono ?_
                  rintro e_ w_ ⟨rfl, hw_⟩
                  subst w_
                  go_wp2_with fail
                  go_ret2
                  rw [HF.out]
                  exact ⟨_, rfl, Wr.nil _ _, HY.out.2.2.2.2.2.1⟩
                · have HST : Hid (stGo W x0 m y (out ++ [k]) = R ∧ Up W (out ++ [k])) := by
                    have q : ¬ ((W.length : Int) ≤ uw (x - 1) ∨ (W.length : Int) ≤ x ∨ (out ≠ [] ∧ oat W (uw (x - 1)).toNat ≤ oat out (out.length - 1)) ∨ x0 ≤ (out.length : Int)) := by
                      rintro (q | q | q | q)
                      · exact h1 q
                      · exact h2 q
                      · exact q.1 ho
                      · exact hcn q
                    have q2 := stGo_next (m := m) hx q
                    rw [← hk, ← hy] at q2
                    exact hid ⟨q2.symm.trans HY.out.1, HY.out.2.2.1.next hkW (fun q => q.1 ho)⟩
                  have hcn' : (out.length : Int) < x0 := by omega
                  clear e1 e2 h1 h2 hk hy hcn
                  obtain ⟨v', wa, hrun, hwr, hkp⟩ := HY.out.2.2.2.2.1.push (x := k) HY.out.2.2.2.2.2.2 (by omega)
                  obtain ⟨av', cv', rfl⟩ := hwr.form
                  have HR2 := hid hrun
                  have HN : Hid (Wr wa w.heap.size (.slice av' (out ++ [k]).length cv') (out ++ [k]) ∧ Keeps (fun _ => False) w wa ∧ w.heap.size ≤ wa.heap.size) := hid ⟨hwr, HY.out.2.2.2.2.2.1.step hkp (fun i hi e => by omega), Nat.le_trans HY.out.2.2.2.2.2.2 hkp.size⟩
                  have hmm : m ≠ 0 := by
                    have q := HST.out.2.len
                    have q2 := HY.out.2.2.2.1
                    simp only [List.length_append, List.length_cons, List.length_nil] at q
                    omega
                  obtain ⟨m', rfl⟩ : ∃ m', m = m' + 1 := ⟨m - 1, by omega⟩
                  have hml := HY.out.2.2.2.1
                  have hlen : (out ++ [k]).length = out.length + 1 := by simp
                  rw [hlen] at HR2 HN
                  clear hrun hwr hkp
                  rw [hol] at HR2 hcn' hwl
                  have hz : ¬ ((0 : Int) > 0) := by omega
                  rw [hol]
                  have HOL := hid hol
                  clear hol
                  go_wp2_with fail
                  refine (word_r F1.out (uw_isW _) hn HLr.out).mono ?_
                  rintro e_ w_ ⟨rfl, hw_⟩
                  subst w_
                  go_wp2_with fail
                  refine (word_r F2.out HY.out.2.1 hn HLr.out).mono ?_
                  rintro e_ w_ ⟨rfl, hw_⟩
                  subst w_
                  go_wp2_with (at_builtin; refine wpList_append_run rfl _ _ 30 rfl rfl rfl HR2.out ?_; clear HR2)
                  go_roundw
                  case rel => exact ⟨m', y, out ++ [k], rfl, hid ⟨HST.out.1, hyw, HST.out.2, by rw [hlen]; omega, by first | exact HN.out.1 | (have q := HN.out.1; rw [HOL.out] at q; exact q), HN.out.2.1, HN.out.2.2⟩⟩
                  case measure => first | (simp [lenOf]; done) | (simp [lenOf]; omega)
              · obtain ⟨j, hj⟩ : ∃ j, out.length = j + 1 := ⟨out.length - 1, by have := List.length_pos_iff.2 ho; omega⟩
                obtain ⟨a2, c2, hv2, hcell⟩ := HY.out.2.2.2.2.1.lies
                obtain ⟨go, off, hao, hc⟩ := hcell j (by omega)
                simp only [Value.slice.injEq] at hv2
                obtain ⟨hv3, _, hv4⟩ := hv2
                subst hv4
                rw [hao] at hv3
                subst hv3
                subst hao
                clear hcell
                have hwi : IntKind.i64.wrap (((j + 1 : Nat) : Int) - 1) = (j : Int) := by rw [IntKind.wrap_i64]; omega
                have hlast : oat out (out.length - 1) = oat out j := by rw [hj]; rfl
                have hgt : (0 : Int) < ((j + 1 : Nat) : Int) := by omega
                generalize hlj : oat out j = lj at hc hlast
                by_cases hkl : k ≤ lj
                · have HF : Hid (R = ([], false)) := hid (HY.out.1.symm.trans (stGo_no hx (.inr (.inr (.inl ⟨ho, by rw [← hk, hlast]; exact hkl⟩)))))
                  clear e1 e2 h1 h2 hk hy hlast hlj
                  rw [hj] at hwl
                  rw [hj]
                  go_wp2_with fail
                  refine (word_r F1.out (uw_isW _) hn HLr.out).mono ?_
                  rintro e_ w_ ⟨rfl, hw_⟩
                  subst w_
                  go_wp2_with fail
                  refine (word_r F2.out HY.out.2.1 hn HLr.out).mono ?_
                  rintro e_ w_ ⟨rfl, hw_⟩
                  subst w_
                  go_wp2_with fail
                  go_ret2
                  rw [HF.out]
                  exact ⟨_, rfl, Wr.nil _ _, HY.out.2.2.2.2.2.1⟩
                · have hkl' : lj < k := by omega
                  by_cases hcn : x0 ≤ (out.length : Int)
                  · have HF : Hid (R = ([], false)) := hid (HY.out.1.symm.trans (stGo_no hx (.inr (.inr (.inr hcn)))))
                    clear e1 e2 h1 h2 hk hy hlast hlj
                    rw [hj] at hwl hcn
                    rw [hj]
                    go_wp2_with fail
                    refine (word_r F1.out (uw_isW _) hn HLr.out).mono ?_
                    rintro e_ w_ ⟨rfl, hw_⟩
                    subst w_
                    go_wp2_with fail
                    refine (word_r F2.out HY.out.2.1 hn HLr.out).mono ?_
                    rintro e_ w_ ⟨rfl, hw_⟩
                    subst w_
                    go_wp2_with fail
                    go_ret2
                    rw [HF.out]
                    exact ⟨_, rfl, Wr.nil _ _, HY.out.2.2.2.2.2.1⟩
                  · have HST : Hid (stGo W x0 m y (out ++ [k]) = R ∧ Up W (out ++ [k])) := by
                      have q : ¬ ((W.length : Int) ≤ uw (x - 1) ∨ (W.length : Int) ≤ x ∨ (out ≠ [] ∧ oat W (uw (x - 1)).toNat ≤ oat out (out.length - 1)) ∨ x0 ≤ (out.length : Int)) := by
                        rintro (q | q | q | q)
                        · exact h1 q
                        · exact h2 q
                        · exact hkl (by have := q.2; rw [← hk, hlast] at this; exact this)
                        · exact hcn q
                      have q2 := stGo_next (m := m) hx q
                      rw [← hk, ← hy] at q2
                      exact hid ⟨q2.symm.trans HY.out.1, HY.out.2.2.1.next hkW (fun q => hkl (by have := q.2; rw [hlast] at this; exact this))⟩
                    have hcn' : (out.length : Int) < x0 := by omega
                    clear e1 e2 h1 h2 hk hy hcn hlast hlj
                    obtain ⟨v', wa, hrun, hwr, hkp⟩ := HY.out.2.2.2.2.1.push (x := k) HY.out.2.2.2.2.2.2 (by omega)
                    obtain ⟨av', cv', rfl⟩ := hwr.form
                    have HR2 := hid hrun
                    have HN : Hid (Wr wa w.heap.size (.slice av' (out ++ [k]).length cv') (out ++ [k]) ∧ Keeps (fun _ => False) w wa ∧ w.heap.size ≤ wa.heap.size) := hid ⟨hwr, HY.out.2.2.2.2.2.1.step hkp (fun i hi e => by omega), Nat.le_trans HY.out.2.2.2.2.2.2 hkp.size⟩
                    have hmm : m ≠ 0 := by
                      have q := HST.out.2.len
                      have q2 := HY.out.2.2.2.1
                      simp only [List.length_append, List.length_cons, List.length_nil] at q
                      omega
                    obtain ⟨m', rfl⟩ : ∃ m', m = m' + 1 := ⟨m - 1, by omega⟩
                    have hml := HY.out.2.2.2.1
                    have hlen : (out ++ [k]).length = out.length + 1 := by simp
                    rw [hlen] at HR2 HN
                    clear hrun hwr hkp
                    rw [hj] at HR2 hcn' hwl
                    rw [hj]
                    have HOL := hid hj
                    go_wp2_with fail
                    refine (word_r F1.out (uw_isW _) hn HLr.out).mono ?_
                    rintro e_ w_ ⟨rfl, hw_⟩
                    subst w_
                    go_wp2_with fail
                    refine (word_r F2.out HY.out.2.1 hn HLr.out).mono ?_
                    rintro e_ w_ ⟨rfl, hw_⟩
                    subst w_
                    go_wp2_with (at_builtin; refine wpList_append_run rfl _ _ 30 rfl rfl rfl HR2.out ?_; clear HR2)
                    go_roundw
                    case rel => exact ⟨m', y, out ++ [k], rfl, hid ⟨HST.out.1, hyw, HST.out.2, by rw [hlen]; omega, by first | exact HN.out.1 | (have q := HN.out.1; rw [HOL.out] at q; exact q), HN.out.2.1, HN.out.2.2⟩⟩
                    case measure => first | (simp [lenOf]; done) | (simp [lenOf]; omega)
end Go.Proofs.Ytmnbilhblkobdaa


/- Keys by the way along a list are what stands there (layer 21), pure. No statement of the seat is proved here. -/
namespace Go.Proofs.Ytmnbilhblkobdaa
open Go.RowKit

theorem get_no {s : Wd} (h : s.f < 0) (a : Int) : s.get a = if (s.W.length : Int) ≤ a then ((0, 4), s.gt) else ((oat s.W a.toNat, 0), s.gt) := by
  unfold Wd.get
  rw [if_neg]
  unfold Wd.fl
  simp only [Bool.and_eq_true, decide_eq_true_eq]
  rintro ⟨q, _⟩
  have : (s.gt).f = s.f := rfl
  omega
theorem gt_f (s : Wd) : (s.gt).f = s.f ∧ (s.gt).W = s.W := ⟨rfl, rfl⟩
theorem follow_out {s : Wd} (h : s.f < 0) {a : Int} (ha : (s.W.length : Int) ≤ a) : ∃ s1, s.follow a = ((Sp.zero, 4), s1) := by
  unfold Wd.follow
  rw [get_no h, if_pos ha]
  exact ⟨_, rfl⟩
theorem follow_nil {s : Wd} (h : s.f < 0) {a : Int} (ha : ¬ (s.W.length : Int) ≤ a) (h0 : oat s.W a.toNat = 0) : ∃ s1, s.follow a = ((⟨a, 0, 0⟩, 0), s1) := by
  unfold Wd.follow
  rw [get_no h, if_neg ha]
  simp only [h0]
  exact ⟨_, rfl⟩
theorem follow_far {s : Wd} (h : s.f < 0) {a : Int} (ha : ¬ (s.W.length : Int) ≤ a) (h0 : oat s.W a.toNat ≠ 0) (hy : (s.W.length : Int) ≤ uw (oat s.W a.toNat - 1)) : ∃ s1, s.follow a = ((Sp.zero, 4), s1) := by
  unfold Wd.follow
  rw [get_no h, if_neg ha]
  simp only [h0]
  rw [get_no (s := s.gt) h, if_pos (show ((s.gt).W.length : Int) ≤ _ from hy)]
  exact ⟨_, rfl⟩
theorem follow_in {s : Wd} (h : s.f < 0) {a : Int} (ha : ¬ (s.W.length : Int) ≤ a) (h0 : oat s.W a.toNat ≠ 0) (hy : ¬ (s.W.length : Int) ≤ uw (oat s.W a.toNat - 1)) : ∃ s1, s.follow a = ((⟨a, oat s.W a.toNat, oat s.W (uw (oat s.W a.toNat - 1)).toNat⟩, 0), s1) ∧ s1.W = s.W ∧ s1.f = s.f := by
  unfold Wd.follow
  rw [get_no h, if_neg ha]
  simp only [h0]
  rw [get_no (s := s.gt) h, if_neg (show ¬ ((s.gt).W.length : Int) ≤ _ from hy)]
  exact ⟨_, rfl, rfl, rfl⟩
theorem ld_nd {x : Int} (hx : isW x) (a k : Int) : ld (Sp.nd ⟨a, x, k⟩) = x := by
  unfold ld Sp.nd uw isW at *
  rw [IntKind.wrap_u64, IntKind.wrap_u64]
  simp only
  omega
theorem oat_append_last (l : List Int) (x : Int) : oat (l ++ [x]) ((l ++ [x]).length - 1) = x := by
  unfold oat
  simp
/-- What is found along a way, held against what stands. -/
def Agree (R : List Int × Bool) (count : Int) (r : (Sp × Int) × List Sp × Wd) : Prop :=
  (R.2 = true → r.1.2 = 0 ∧ r.1.1.n = 0 ∧ r.2.1.map Sp.k = R.1 ∧ (r.2.1.length : Int) = count) ∧
  (R.2 = false → (r.1.2 = 4 ∨ r.1.2 = 310) ∨ (r.1.2 = 0 ∧ (r.1.1.n ≠ 0 ∨ (r.2.1.length : Int) ≠ count)))
theorem agree_no {count : Int} {r : (Sp × Int) × List Sp × Wd} (h : (r.1.2 = 4 ∨ r.1.2 = 310) ∨ (r.1.2 = 0 ∧ (r.1.1.n ≠ 0 ∨ (r.2.1.length : Int) ≠ count))) : Agree ([], false) count r := ⟨fun e => (by cases e), fun _ => h⟩
theorem way_stands (W : List Int) (hW : ∀ x ∈ W, isW x) (count : Int) : ∀ (m2 m1 : Nat) (b : Sp) (a : Int) (P : List Sp) (s : Wd), s.W = W → s.f < 0 → 0 ≤ a → ¬ (W.length : Int) ≤ a → Up W (P.map Sp.k) → m2 + P.length = W.length →
    ((b.n = 0 ∧ m1 = FU) ∨ (b.n ≠ 0 ∧ FU ≤ m1 + b.k.toNat + 1 ∧ isW b.k)) → (P = [] ↔ b.n = 0) → (P ≠ [] → b.k = oat (P.map Sp.k) ((P.map Sp.k).length - 1)) → (P.length : Int) ≤ count →
    Agree (stGo W count (m2 + 1) (oat W a.toNat) (P.map Sp.k)) count (way (pAll count) m1 b a P s)
  | m2, m1, b, a, P, s, hs, hf, ha0, ha, hup, hlen, hm, hPb, hPk, hPc => by
    have hm1 : ∃ m', m1 = m' + 1 := by
      rcases hm with ⟨_, q⟩ | ⟨_, q, q2⟩
      · exact ⟨18446744073709551616, q⟩
      · unfold FU at q; unfold isW at q2; exact ⟨m1 - 1, by omega⟩
    obtain ⟨m, rfl⟩ := hm1
    have ha' : ¬ (s.W.length : Int) ≤ a := by rw [hs]; exact ha
    obtain ⟨nx, hnx⟩ : ∃ nx, oat W a.toNat = nx := ⟨_, rfl⟩
    have hnx' : oat s.W a.toNat = nx := by rw [hs]; exact hnx
    have hwn : isW nx := by rw [← hnx]; exact oat_isW hW _
    rw [hnx]
    by_cases h0 : nx = 0
    · subst h0
      obtain ⟨s1, e⟩ := follow_nil hf ha' hnx'
      rw [way_end e (.inr rfl), stGo_end]
      refine ⟨fun q => ⟨rfl, rfl, rfl, ?_⟩, fun q => .inr ⟨rfl, .inr ?_⟩⟩
      · simpa using q
      · simpa using q
    · by_cases hy : (W.length : Int) ≤ uw (nx - 1)
      · obtain ⟨s1, e⟩ := follow_far hf ha' (by rw [hnx']; exact h0) (by rw [hnx', hs]; exact hy)
        rw [way_end e (.inl (by decide)), stGo_no h0 (.inl hy)]
        exact agree_no (.inl (.inl rfl))
      · obtain ⟨s1, e, hs1, hf1⟩ := follow_in hf ha' (by rw [hnx']; exact h0) (by rw [hnx', hs]; exact hy)
        rw [hnx', hs] at e
        obtain ⟨k, hk⟩ : ∃ k, oat W (uw (nx - 1)).toNat = k := ⟨_, rfl⟩
        rw [hk] at e
        have hkW : k ∈ W := by rw [← hk]; exact oat_mem (by have := (uw_isW (nx - 1)).1; omega)
        have hkw : isW k := hW k hkW
        by_cases hb : b.n ≠ 0 ∧ k ≤ b.k
        · have hne : P ≠ [] := fun q => hb.1 (hPb.1 q)
          rw [way_list e h0 hb.1 hb.2, stGo_no h0 (.inr (.inr (.inl ⟨by simpa using hne, by rw [hk, ← hPk hne]; exact hb.2⟩)))]
          exact agree_no (.inl (.inr rfl))
        · by_cases hc : (P.length : Int) = count
          · have hp : pAll count P ⟨a, nx, k⟩ = false := by unfold pAll; simp [hc]
            rw [way_stop e h0 hb hp, stGo_no h0 (.inr (.inr (.inr (by simp; omega))))]
            exact agree_no (.inr ⟨rfl, .inl h0⟩)
          · have hp : pAll count P ⟨a, nx, k⟩ = true := by unfold pAll; simp [hc]
            rw [way_next e h0 hb hp, ld_nd hwn]
            have hnl : ¬ ((P.map Sp.k) ≠ [] ∧ k ≤ oat (P.map Sp.k) ((P.map Sp.k).length - 1)) := by
              rintro ⟨q1, q2⟩
              have hne : P ≠ [] := by simpa using q1
              rw [← hPk hne] at q2
              exact hb ⟨fun q => hne (hPb.2 q), q2⟩
            have hup' := hup.next hkW hnl
            have hmm : ∃ m', m = m' + 1 := by
              unfold isW at hkw
              rcases hm with ⟨_, q⟩ | ⟨q0, q, q2⟩
              · unfold FU at q; exact ⟨m - 1, by omega⟩
              · have h2 : ¬ k ≤ b.k := fun z => hb ⟨q0, z⟩
                unfold FU at q; unfold isW at q2; exact ⟨m - 1, by omega⟩
            by_cases hxo : (W.length : Int) ≤ nx
            · obtain ⟨s2, e2⟩ := follow_out (s := s1) (by rw [hf1]; exact hf) (a := nx) (by rw [hs1, hs]; exact hxo)
              obtain ⟨m', rfl⟩ := hmm
              rw [way_end e2 (.inl (by decide)), stGo_no h0 (.inr (.inl hxo))]
              exact agree_no (.inl (.inl rfl))
            · have hm2 : ∃ m2', m2 = m2' + 1 := by
                have q := hup'.len
                simp only [List.length_append, List.length_map, List.length_cons, List.length_nil] at q
                exact ⟨m2 - 1, by omega⟩
              obtain ⟨m2', rfl⟩ := hm2
              have hno : ¬ ((W.length : Int) ≤ uw (nx - 1) ∨ (W.length : Int) ≤ nx ∨ ((P.map Sp.k) ≠ [] ∧ oat W (uw (nx - 1)).toNat ≤ oat (P.map Sp.k) ((P.map Sp.k).length - 1)) ∨ count ≤ ((P.map Sp.k).length : Int)) := by
                rintro (q | q | q | q)
                · exact hy q
                · exact hxo q
                · rw [hk] at q; exact hnl q
                · simp at q; omega
              rw [stGo_next h0 hno, hk]
              have hmap : (P ++ [(⟨a, nx, k⟩ : Sp)]).map Sp.k = P.map Sp.k ++ [k] := by simp
              rw [← hmap]
              refine way_stands W hW count m2' m ⟨a, nx, k⟩ nx (P ++ [⟨a, nx, k⟩]) s1 (hs1.trans hs) (by rw [hf1]; exact hf) hwn.1 hxo (by rw [hmap]; exact hup') (by simp; omega) (.inr ⟨h0, ?_, hkw⟩) ⟨fun q => by simp at q, fun q => absurd q h0⟩ (fun _ => by rw [hmap, oat_append_last]) (by simp; omega)
              simp only
              unfold isW at hkw
              rcases hm with ⟨_, q⟩ | ⟨q0, q, q2⟩
              · omega
              · have h2 : ¬ k ≤ b.k := fun z => hb ⟨q0, z⟩
                unfold isW at q2; omega
/-- Keys, held against what stands. -/
theorem keys_stands {s : Wd} (hW : ∀ x ∈ s.W, isW x) (hf : s.f < 0) (l : Int) :
    ((stands s.W l).2 = true → (s.keys l).1 = ((stands s.W l).1, 0)) ∧ ((stands s.W l).2 = false → (s.keys l).1.1 = [] ∧ ((s.keys l).1.2 = 4 ∨ (s.keys l).1.2 = 310)) := by
  unfold Wd.keys Wd.all stands
  rw [get_no hf]
  by_cases h0 : (s.W.length : Int) ≤ l
  · rw [if_pos h0, if_pos (.inl h0)]
    exact ⟨fun q => (by cases q), fun _ => ⟨rfl, .inl rfl⟩⟩
  · rw [if_neg h0]
    simp only [ne_eq, not_true_eq_false, if_false]
    obtain ⟨cn, hcn⟩ : ∃ cn, oat s.W l.toNat = cn := ⟨_, rfl⟩
    have hcw : isW cn := by rw [← hcn]; exact oat_isW hW _
    rw [hcn]
    obtain ⟨r, hr⟩ : ∃ r, s.gt.way (pAll cn) l = r := ⟨_, rfl⟩
    have hag : Agree (if (s.W.length : Int) ≤ l ∨ (s.W.length : Int) ≤ uw (l + 1) then ([], false) else stGo s.W cn (s.W.length + 1) (oat s.W (uw (l + 1)).toNat) []) cn r := by
      by_cases h1 : (s.W.length : Int) ≤ uw (l + 1)
      · rw [if_pos (.inr h1), ← hr]
        obtain ⟨s2, e2⟩ := follow_out (s := s.gt) hf (a := ld l) h1
        have q : s.gt.way (pAll cn) l = ((Sp.zero, 4), [], s2) := way_end (m := 18446744073709551616) e2 (.inl (by decide))
        rw [q]
        exact agree_no (.inl (.inl rfl))
      · rw [if_neg (by rintro (q | q); exact h0 q; exact h1 q), ← hr]
        exact way_stands s.W hW cn s.W.length FU Sp.zero (ld l) [] s.gt rfl hf (uw_isW _).1 h1 ⟨List.Pairwise.nil, by simp⟩ (by simp) (.inl ⟨rfl, rfl⟩) ⟨fun _ => rfl, fun _ => rfl⟩ (fun q => absurd rfl q) (by have := hcw.1; simpa using this)
    rw [hr]
    obtain ⟨⟨t, e⟩, P, s1⟩ := r
    obtain ⟨g1, g2⟩ := hag
    simp only at g1 g2 ⊢
    refine ⟨fun q => ?_, fun q => ?_⟩
    · obtain ⟨rfl, ht, hP, hlen⟩ := g1 q
      simp [ht, hlen, hP]
    · rcases g2 q with q1 | ⟨rfl, q1⟩
      · have he : e ≠ 0 := by rcases q1 with rfl | rfl <;> decide
        simp [he]
        exact q1
      · rcases q1 with q1 | q1
        · simp [q1]
        · simp [q1]
end Go.Proofs.Ytmnbilhblkobdaa


/- The law ListWild, walked (layer 21). No statement of the seat is proved here. -/
namespace Go.Proofs.Ytmnbilhblkobdaa
open Go.RowKit

theorem neg1 : (-1 : Int) < 0 := by decide
theorem Keeps.none {a x y : World} {b g : Nat} (h : Keeps (fun _ => False) a x) (k : Keeps (two b g) x y) (hb : a.heap.size ≤ b) (hg : a.heap.size ≤ g) : Keeps (fun _ => False) a y :=
  h.step k (fun i hi e => by rcases e with e | e <;> omega)
end Go.Proofs.Ytmnbilhblkobdaa
