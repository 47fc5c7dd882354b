
/- What stands in cells: the document's answer Stands, as a function and walked (layer 21). No statement of the seat is proved here. -/
import Derived.Test.YtbdekpccddmehaaLrD
namespace Go.Proofs.Ytbdekpccddmehaa
open Go.RowKit

/-- A cell's word, if there is one. -/
def wdP (W : List Int) (a : Int) : Int × Bool := if (W.length : Int) ≤ a then (0, false) else (oat W a.toNat, true)
def stGo (W : List Int) (count : Int) : Nat → Int → List Int → List Int × Bool
  | 0, _, out => (out, false)
  | m + 1, nx, out =>
    if nx = 0 then (out, (out.length : Int) == count)
    else if (W.length : Int) ≤ uw (nx - 1) ∨ (W.length : Int) ≤ nx ∨ (out ≠ [] ∧ oat W (uw (nx - 1)).toNat ≤ oat out (out.length - 1)) ∨ count ≤ (out.length : Int) then ([], false)
    else stGo W count m (oat W nx.toNat) (out ++ [oat W (uw (nx - 1)).toNat])
def stands (W : List Int) (l : Int) : List Int × Bool :=
  if (W.length : Int) ≤ l ∨ (W.length : Int) ≤ uw (l + 1) then ([], false) else stGo W (oat W l.toNat) (W.length + 1) (oat W (uw (l + 1)).toNat) []
theorem stGo_end {W : List Int} {count : Int} {m : Nat} {out : List Int} : stGo W count (m + 1) 0 out = (out, (out.length : Int) == count) := by
  unfold stGo; rw [if_pos rfl]
theorem stGo_no {W : List Int} {count : Int} {m : Nat} {nx : Int} {out : List Int} (h0 : nx ≠ 0) (h : (W.length : Int) ≤ uw (nx - 1) ∨ (W.length : Int) ≤ nx ∨ (out ≠ [] ∧ oat W (uw (nx - 1)).toNat ≤ oat out (out.length - 1)) ∨ count ≤ (out.length : Int)) : stGo W count (m + 1) nx out = ([], false) := by
  unfold stGo; rw [if_neg h0, if_pos h]
theorem stGo_next {W : List Int} {count : Int} {m : Nat} {nx : Int} {out : List Int} (h0 : nx ≠ 0) (h : ¬ ((W.length : Int) ≤ uw (nx - 1) ∨ (W.length : Int) ≤ nx ∨ (out ≠ [] ∧ oat W (uw (nx - 1)).toNat ≤ oat out (out.length - 1)) ∨ count ≤ (out.length : Int))) : stGo W count (m + 1) nx out = stGo W count m (oat W nx.toNat) (out ++ [oat W (uw (nx - 1)).toNat]) := by
  conv => lhs; unfold stGo
  rw [if_neg h0, if_neg h]
theorem word_r {v : Value} {W : List Int} {a x : Int} {b : Bool} (hq : wdP W a = (x, b)) (ha : isW a) (hl : W.length ≤ 1000000) {w : World} (h : Lies w v W) :
    Calls Try.prog 33 #[v, .int .u64 a] w fun e w' => e = .returned (.tuple #[.int .u64 x, .bool b]) ∧ w' = w := by
  unfold wdP at hq
  unfold isW at ha
  by_cases hr : (W.length : Int) ≤ a
  · rw [if_pos hr] at hq
    simp only [Prod.mk.injEq] at hq
    obtain ⟨rfl, rfl⟩ := hq
    obtain ⟨ad, c, rfl, _⟩ := h
    exact word_out ad W.length c a w hr (Nat.le_trans hl (by omega))
  · rw [if_neg hr] at hq
    simp only [Prod.mk.injEq] at hq
    obtain ⟨rfl, rfl⟩ := hq
    obtain ⟨ad, c, rfl, hc⟩ := h
    obtain ⟨i, rfl⟩ : ∃ i : Nat, a = (i : Int) := ⟨a.toNat, by omega⟩
    obtain ⟨g, off, rfl, hcell⟩ := hc i (by omega)
    exact word_in g off W.length c i (oat W i) w (by omega) (Nat.le_trans hl (by omega)) hcell
/-- Rising words that stand among others. -/
structure Up (W out : List Int) : Prop where
  up : out.Pairwise (· < ·)
  mem : ∀ x ∈ out, x ∈ W
theorem Up.len {W out : List Int} (h : Up W out) : out.length ≤ W.length := rising_le _ _ h.up h.mem
theorem last_le : ∀ {out : List Int}, out.Pairwise (· < ·) → ∀ x ∈ out, x ≤ oat out (out.length - 1) := by
  intro out h x hx
  obtain ⟨i, hi, rfl⟩ := List.getElem_of_mem hx
  unfold oat
  rw [List.getElem?_eq_getElem (by omega)]
  simp only [Option.getD_some]
  rcases Nat.lt_or_ge i (out.length - 1) with q | q
  · exact Int.le_of_lt (List.pairwise_iff_getElem.1 h i (out.length - 1) hi (by omega) q)
  · have : i = out.length - 1 := by omega
    subst this
    exact Int.le_refl _
theorem Up.next {W out : List Int} {k : Int} (h : Up W out) (hk : k ∈ W) (hn : ¬ (out ≠ [] ∧ k ≤ oat out (out.length - 1))) : Up W (out ++ [k]) := by
  refine ⟨List.pairwise_append.2 ⟨h.up, List.pairwise_singleton _ _, ?_⟩, ?_⟩
  · intro x hx y hy
    simp at hy
    subst hy
    have h1 := last_le h.up x hx
    have h2 : ¬ y ≤ oat out (out.length - 1) := fun q => hn ⟨fun e => by rw [e] at hx; simp at hx, q⟩
    omega
  · intro x hx
    rcases List.mem_append.1 hx with q | q
    · exact h.mem x q
    · simp at q; rw [q]; exact hk
set_option maxRecDepth 100000 in
set_option maxHeartbeats 4000000 in
theorem stands_any (v : Value) (W : List Int) (l : Int) (hl : isW l) (hW : ∀ x ∈ W, isW x) (hn : W.length ≤ 1000000) (w : World) (h : Lies w v W) :
    Calls Try.prog 15 #[v, .int .u64 l] w fun e w' => ∃ v', e = .returned (.tuple #[v', .bool (stands W l).2]) ∧ Wr w' w.heap.size v' (stands W l).1 ∧ Keeps (fun _ => False) w w' := by
  have HL := hid h
  obtain ⟨av, cv, rfl, _⟩ := h
  obtain ⟨⟨x0, b0⟩, e0⟩ : ∃ r, wdP W l = r := ⟨_, rfl⟩
  obtain ⟨⟨x1, b1⟩, e1⟩ : ∃ r, wdP W (uw (l + 1)) = r := ⟨_, rfl⟩
  have E0 := hid e0
  have E1 := hid e1
  by_cases h0 : (W.length : Int) ≤ l
  · have hs : stands W l = ([], false) := if_pos (.inl h0)
    rw [hs]
    have hb0 : b0 = false := by unfold wdP at e0; rw [if_pos h0] at e0; simp only [Prod.mk.injEq] at e0; exact e0.2.symm
    subst hb0
    clear hs e0 e1
    go_enter Try.func15, Try.ntmps15
    go_wp2_with fail
    refine (word_r E0.out hl hn HL.out).mono ?_
    rintro e_ w_ ⟨rfl, hw_⟩
    subst w_
    go_wp2_with fail
    refine (word_r E1.out (uw_isW _) hn HL.out).mono ?_
    rintro e_ w_ ⟨rfl, hw_⟩
    subst w_
    go_wp2_with fail
    go_ret2
    exact ⟨_, rfl, Wr.nil _ _, Keeps.refl _ _⟩
  · have hb0 : x0 = oat W l.toNat ∧ b0 = true := by unfold wdP at e0; rw [if_neg h0] at e0; simp only [Prod.mk.injEq] at e0; exact ⟨e0.1.symm, e0.2.symm⟩
    obtain ⟨hx0, rfl⟩ := hb0
    by_cases h1 : (W.length : Int) ≤ uw (l + 1)
    · have hs : stands W l = ([], false) := if_pos (.inr h1)
      rw [hs]
      have hb1 : b1 = false := by unfold wdP at e1; rw [if_pos h1] at e1; simp only [Prod.mk.injEq] at e1; exact e1.2.symm
      subst hb1
      clear hs e0 e1
      go_enter Try.func15, Try.ntmps15
      go_wp2_with fail
      refine (word_r E0.out hl hn HL.out).mono ?_
      rintro e_ w_ ⟨rfl, hw_⟩
      subst w_
      go_wp2_with fail
      refine (word_r E1.out (uw_isW _) hn HL.out).mono ?_
      rintro e_ w_ ⟨rfl, hw_⟩
      subst w_
      go_wp2_with fail
      go_ret2
      exact ⟨_, rfl, Wr.nil _ _, Keeps.refl _ _⟩
    · have hb1 : x1 = oat W (uw (l + 1)).toNat ∧ b1 = true := by unfold wdP at e1; rw [if_neg h1] at e1; simp only [Prod.mk.injEq] at e1; exact ⟨e1.1.symm, e1.2.symm⟩
      obtain ⟨hx1, rfl⟩ := hb1
      have hs : stands W l = stGo W x0 (W.length + 1) x1 [] := by rw [hx0, hx1]; exact if_neg (by rintro (q | q); exact h0 q; exact h1 q)
      have hwx1 : isW x1 := by rw [hx1]; exact oat_isW hW _
      obtain ⟨R, hR⟩ : ∃ R, stands W l = R := ⟨_, rfl⟩
      rw [hR]
      rw [hs] at hR
      have HR := hid hR
      clear hs hR e0 e1 hx0 hx1 h0 h1
      go_enter Try.func15, Try.ntmps15
      go_wp2_with fail
      refine (word_r E0.out hl hn HL.out).mono ?_
      rintro e_ w_ ⟨rfl, hw_⟩
      subst w_
      go_wp2_with fail
      refine (word_r E1.out (uw_isW _) hn HL.out).mono ?_
      rintro e_ w_ ⟨rfl, hw_⟩
      subst w_
      go_wp2_with fail
      go_loopw [8, 10] (fun nx ov wr => ∃ (m : Nat) (x : Int) (out : List Int), nx = .int .u64 x ∧ Hid (stGo W x0 (m + 1) x out = R ∧ isW x ∧ Up W out ∧ m + out.length = W.length ∧ Wr wr w.heap.size ov out ∧ Keeps (fun _ => False) w wr ∧ w.heap.size ≤ wr.heap.size)) (fun _ ov _ => W.length + 1 - lenOf ov)
      case atStart => exact ⟨W.length, x1, [], rfl, hid ⟨HR.out, hwx1, ⟨List.Pairwise.nil, by simp⟩, by simp, Wr.nil _ _, Keeps.refl _ _, Nat.le_refl _⟩⟩
      case round =>
        obtain ⟨m, x, out, rfl, HY⟩ := hrel
        have hup := HY.out.2.2.1.len
        obtain ⟨ao, co, rfl⟩ := HY.out.2.2.2.2.1.form
        have hwl : IntKind.u64.wrap (out.length : Int) = (out.length : Int) := by rw [IntKind.wrap_u64]; omega
        by_cases hx : x = 0
        · subst hx
          have HF : Hid (R = (out, (out.length : Int) == x0)) := hid (HY.out.1.symm.trans stGo_end)
          go_wp2_with fail
          go_ret2
          rw [HF.out]
          exact ⟨_, rfl, HY.out.2.2.2.2.1, HY.out.2.2.2.2.2.1⟩
        · have hxb : (x != 0) = true := by simpa using hx
          obtain ⟨⟨k, c1⟩, e1⟩ : ∃ r, wdP W (uw (x - 1)) = r := ⟨_, rfl⟩
          obtain ⟨⟨y, c2⟩, e2⟩ : ∃ r, wdP W x = r := ⟨_, rfl⟩
          have F1 := hid e1
          have F2 := hid e2
          have HLr : Hid (Lies wr (.slice av W.length cv) W) := hid (HL.out.keeps HY.out.2.2.2.2.2.1 (fun _ _ _ _ f => f))
          by_cases h1 : (W.length : Int) ≤ uw (x - 1)
          · have hc1 : c1 = false := by unfold wdP at e1; rw [if_pos h1] at e1; simp only [Prod.mk.injEq] at e1; exact e1.2.symm
            subst hc1
            have HF : Hid (R = ([], false)) := hid (HY.out.1.symm.trans (stGo_no hx (.inl h1)))
            clear e1 e2 h1
            go_wp2_with fail
            refine (word_r F1.out (uw_isW _) hn HLr.out).mono ?_
            rintro e_ w_ ⟨rfl, hw_⟩
            subst w_
            go_wp2_with fail
            refine (word_r F2.out HY.out.2.1 hn HLr.out).mono ?_
            rintro e_ w_ ⟨rfl, hw_⟩
            subst w_
            go_wp2_with fail
            go_ret2
            rw [HF.out]
            exact ⟨_, rfl, Wr.nil _ _, HY.out.2.2.2.2.2.1⟩
          · have hc1 : k = oat W (uw (x - 1)).toNat ∧ c1 = true := by unfold wdP at e1; rw [if_neg h1] at e1; simp only [Prod.mk.injEq] at e1; exact ⟨e1.1.symm, e1.2.symm⟩
            obtain ⟨hk, rfl⟩ := hc1
            by_cases h2 : (W.length : Int) ≤ x
            · have hc2 : c2 = false := by unfold wdP at e2; rw [if_pos h2] at e2; simp only [Prod.mk.injEq] at e2; exact e2.2.symm
              subst hc2
              have HF : Hid (R = ([], false)) := hid (HY.out.1.symm.trans (stGo_no hx (.inr (.inl h2))))
              clear e1 e2 h1 h2 hk
              go_wp2_with fail
              refine (word_r F1.out (uw_isW _) hn HLr.out).mono ?_
              rintro e_ w_ ⟨rfl, hw_⟩
              subst w_
              go_wp2_with fail
              refine (word_r F2.out HY.out.2.1 hn HLr.out).mono ?_
              rintro e_ w_ ⟨rfl, hw_⟩
              subst w_
              go_wp2_with fail
              go_ret2
              rw [HF.out]
              exact ⟨_, rfl, Wr.nil _ _, HY.out.2.2.2.2.2.1⟩
            · have hc2 : y = oat W x.toNat ∧ c2 = true := by unfold wdP at e2; rw [if_neg h2] at e2; simp only [Prod.mk.injEq] at e2; exact ⟨e2.1.symm, e2.2.symm⟩
              obtain ⟨hy, rfl⟩ := hc2
              have hkW : k ∈ W := by rw [hk]; exact oat_mem (by have := (uw_isW (x - 1)).1; omega)
              have hyw : isW y := by rw [hy]; exact oat_isW hW _
              by_cases ho : out = []
              · have hol : out.length = 0 := by rw [ho]; rfl
                by_cases hcn : x0 ≤ (out.length : Int)
                · have HF : Hid (R = ([], false)) := hid (HY.out.1.symm.trans (stGo_no hx (.inr (.inr (.inr hcn)))))
                  clear e1 e2 h1 h2 hk hy
                  rw [hol] at hcn hwl
                  rw [hol]
                  go_wp2_with fail
                  refine (word_r F1.out (uw_isW _) hn HLr.out).mono ?_
                  rintro e_ w_ ⟨rfl, hw_⟩
                  subst w_
                  go_wp2_with fail
                  refine (word_r F2.out HY.out.2.1 hn HLr.out).mono ?_
                  rintro e_ w_ ⟨rfl, hw_⟩
                  subst w_
                  go_wp2_with fail
                  go_ret2
                  rw [HF.out]
                  exact ⟨_, rfl, Wr.nil _ _, HY.out.2.2.2.2.2.1⟩
                · have HST : Hid (stGo W x0 m y (out ++ [k]) = R ∧ Up W (out ++ [k])) := by
                    have q : ¬ ((W.length : Int) ≤ uw (x - 1) ∨ (W.length : Int) ≤ x ∨ (out ≠ [] ∧ oat W (uw (x - 1)).toNat ≤ oat out (out.length - 1)) ∨ x0 ≤ (out.length : Int)) := by
                      rintro (q | q | q | q)
                      · exact h1 q
                      · exact h2 q
                      · exact q.1 ho
                      · exact hcn q
                    have q2 := stGo_next (m := m) hx q
                    rw [← hk, ← hy] at q2
                    exact hid ⟨q2.symm.trans HY.out.1, HY.out.2.2.1.next hkW (fun q => q.1 ho)⟩
                  have hcn' : (out.length : Int) < x0 := by omega
                  clear e1 e2 h1 h2 hk hy hcn
                  obtain ⟨v', wa, hrun, hwr, hkp⟩ := HY.out.2.2.2.2.1.push (x := k) HY.out.2.2.2.2.2.2 (by omega)
                  obtain ⟨av', cv', rfl⟩ := hwr.form
                  have HR2 := hid hrun
                  have HN : Hid (Wr wa w.heap.size (.slice av' (out ++ [k]).length cv') (out ++ [k]) ∧ Keeps (fun _ => False) w wa ∧ w.heap.size ≤ wa.heap.size) := hid ⟨hwr, HY.out.2.2.2.2.2.1.step hkp (fun i hi e => by omega), Nat.le_trans HY.out.2.2.2.2.2.2 hkp.size⟩
                  have hmm : m ≠ 0 := by
                    have q := HST.out.2.len
                    have q2 := HY.out.2.2.2.1
                    simp only [List.length_append, List.length_cons, List.length_nil] at q
                    omega
                  obtain ⟨m', rfl⟩ : ∃ m', m = m' + 1 := ⟨m - 1, by omega⟩
                  have hml := HY.out.2.2.2.1
                  have hlen : (out ++ [k]).length = out.length + 1 := by simp
                  rw [hlen] at HR2 HN
                  clear hrun hwr hkp
                  rw [hol] at HR2 hcn' hwl
                  have hz : ¬ ((0 : Int) > 0) := by omega
                  rw [hol]
                  have HOL := hid hol
                  clear hol
                  go_wp2_with fail
                  refine (word_r F1.out (uw_isW _) hn HLr.out).mono ?_
                  rintro e_ w_ ⟨rfl, hw_⟩
                  subst w_
                  go_wp2_with fail
                  refine (word_r F2.out HY.out.2.1 hn HLr.out).mono ?_
                  rintro e_ w_ ⟨rfl, hw_⟩
                  subst w_
                  go_wp2_with (at_builtin; refine wpList_append_run rfl _ _ 30 rfl rfl rfl HR2.out ?_; clear HR2)
                  go_roundw
                  case rel => exact ⟨m', y, out ++ [k], rfl, hid ⟨HST.out.1, hyw, HST.out.2, by rw [hlen]; omega, by first | exact HN.out.1 | (have q := HN.out.1; rw [HOL.out] at q; exact q), HN.out.2.1, HN.out.2.2⟩⟩
                  case measure => first | (simp [lenOf]; done) | (simp [lenOf]; omega)
              · obtain ⟨j, hj⟩ : ∃ j, out.length = j + 1 := ⟨out.length - 1, by have := List.length_pos_iff.2 ho; omega⟩
                obtain ⟨a2, c2, hv2, hcell⟩ := HY.out.2.2.2.2.1.lies
                obtain ⟨go, off, hao, hc⟩ := hcell j (by omega)
                simp only [Value.slice.injEq] at hv2
                obtain ⟨hv3, _, hv4⟩ := hv2
                subst hv4
                rw [hao] at hv3
                subst hv3
                subst hao
                clear hcell
                have hwi : IntKind.i64.wrap (((j + 1 : Nat) : Int) - 1) = (j : Int) := by rw [IntKind.wrap_i64]; omega
                have hlast : oat out (out.length - 1) = oat out j := by rw [hj]; rfl
                have hgt : (0 : Int) < ((j + 1 : Nat) : Int) := by omega
                generalize hlj : oat out j = lj at hc hlast
                by_cases hkl : k ≤ lj
                · have HF : Hid (R = ([], false)) := hid (HY.out.1.symm.trans (stGo_no hx (.inr (.inr (.inl ⟨ho, by rw [← hk, hlast]; exact hkl⟩)))))
                  clear e1 e2 h1 h2 hk hy hlast hlj
                  rw [hj] at hwl
                  rw [hj]
                  go_wp2_with fail
                  refine (word_r F1.out (uw_isW _) hn HLr.out).mono ?_
                  rintro e_ w_ ⟨rfl, hw_⟩
                  subst w_
                  go_wp2_with fail
                  refine (word_r F2.out HY.out.2.1 hn HLr.out).mono ?_
                  rintro e_ w_ ⟨rfl, hw_⟩
                  subst w_
                  go_wp2_with fail
                  go_ret2
                  rw [HF.out]
                  exact ⟨_, rfl, Wr.nil _ _, HY.out.2.2.2.2.2.1⟩
                · have hkl' : lj < k := by omega
                  by_cases hcn : x0 ≤ (out.length : Int)
                  · have HF : Hid (R = ([], false)) := hid (HY.out.1.symm.trans (stGo_no hx (.inr (.inr (.inr hcn)))))
                    clear e1 e2 h1 h2 hk hy hlast hlj
                    rw [hj] at hwl hcn
                    rw [hj]
                    go_wp2_with fail
                    refine (word_r F1.out (uw_isW _) hn HLr.out).mono ?_
                    rintro e_ w_ ⟨rfl, hw_⟩
                    subst w_
                    go_wp2_with fail
                    refine (word_r F2.out HY.out.2.1 hn HLr.out).mono ?_
                    rintro e_ w_ ⟨rfl, hw_⟩
                    subst w_
                    go_wp2_with fail
                    go_ret2
                    rw [HF.out]
                    exact ⟨_, rfl, Wr.nil _ _, HY.out.2.2.2.2.2.1⟩
                  · have HST : Hid (stGo W x0 m y (out ++ [k]) = R ∧ Up W (out ++ [k])) := by
                      have q : ¬ ((W.length : Int) ≤ uw (x - 1) ∨ (W.length : Int) ≤ x ∨ (out ≠ [] ∧ oat W (uw (x - 1)).toNat ≤ oat out (out.length - 1)) ∨ x0 ≤ (out.length : Int)) := by
                        rintro (q | q | q | q)
                        · exact h1 q
                        · exact h2 q
                        · exact hkl (by have := q.2; rw [← hk, hlast] at this; exact this)
                        · exact hcn q
                      have q2 := stGo_next (m := m) hx q
                      rw [← hk, ← hy] at q2
                      exact hid ⟨q2.symm.trans HY.out.1, HY.out.2.2.1.next hkW (fun q => hkl (by have := q.2; rw [hlast] at this; exact this))⟩
                    have hcn' : (out.length : Int) < x0 := by omega
                    clear e1 e2 h1 h2 hk hy hcn hlast hlj
                    obtain ⟨v', wa, hrun, hwr, hkp⟩ := HY.out.2.2.2.2.1.push (x := k) HY.out.2.2.2.2.2.2 (by omega)
                    obtain ⟨av', cv', rfl⟩ := hwr.form
                    have HR2 := hid hrun
                    have HN : Hid (Wr wa w.heap.size (.slice av' (out ++ [k]).length cv') (out ++ [k]) ∧ Keeps (fun _ => False) w wa ∧ w.heap.size ≤ wa.heap.size) := hid ⟨hwr, HY.out.2.2.2.2.2.1.step hkp (fun i hi e => by omega), Nat.le_trans HY.out.2.2.2.2.2.2 hkp.size⟩
                    have hmm : m ≠ 0 := by
                      have q := HST.out.2.len
                      have q2 := HY.out.2.2.2.1
                      simp only [List.length_append, List.length_cons, List.length_nil] at q
                      omega
                    obtain ⟨m', rfl⟩ : ∃ m', m = m' + 1 := ⟨m - 1, by omega⟩
                    have hml := HY.out.2.2.2.1
                    have hlen : (out ++ [k]).length = out.length + 1 := by simp
                    rw [hlen] at HR2 HN
                    clear hrun hwr hkp
                    rw [hj] at HR2 hcn' hwl
                    rw [hj]
                    have HOL := hid hj
                    go_wp2_with fail
                    refine (word_r F1.out (uw_isW _) hn HLr.out).mono ?_
                    rintro e_ w_ ⟨rfl, hw_⟩
                    subst w_
                    go_wp2_with fail
                    refine (word_r F2.out HY.out.2.1 hn HLr.out).mono ?_
                    rintro e_ w_ ⟨rfl, hw_⟩
                    subst w_
                    go_wp2_with (at_builtin; refine wpList_append_run rfl _ _ 30 rfl rfl rfl HR2.out ?_; clear HR2)
                    go_roundw
                    case rel => exact ⟨m', y, out ++ [k], rfl, hid ⟨HST.out.1, hyw, HST.out.2, by rw [hlen]; omega, by first | exact HN.out.1 | (have q := HN.out.1; rw [HOL.out] at q; exact q), HN.out.2.1, HN.out.2.2⟩⟩
                    case measure => first | (simp [lenOf]; done) | (simp [lenOf]; omega)
end Go.Proofs.Ytbdekpccddmehaa
