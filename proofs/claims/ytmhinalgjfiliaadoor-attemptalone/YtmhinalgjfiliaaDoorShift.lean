
/-
  Freeing a slot of a table and letting the keys behind it move up: what is true of the table afterwards. No program, and no statement of the seat.
-/
import Derived.Test.YtmhinalgjfiliaaDoorPure
namespace Go.Proofs.YtmhinalgjfiliaaDoor

/-- One step of the keys that move up: the slots and the free one, at slot c. -/
def shiftStep (n : Nat) (h : Int → Nat) (s : List (Option Int) × Nat) (c : Nat) : List (Option Int) × Nat :=
  match sl s.1 c with
  | none => s
  | some k => if farN n (h k) s.2 < farN n (h k) c then ((s.1.set s.2 (some k)).set c none, c) else s
/-- So many steps behind slot i, which is freed. -/
def shiftN (n : Nat) (h : Int → Nat) (K : List (Option Int)) (i : Nat) : Nat → List (Option Int) × Nat
  | 0 => (K.set i none, i)
  | j + 1 => shiftStep n h (shiftN n h K i j) (wrapN n (i + (j + 1)))
/-- How far the next free slot behind slot i lies. -/
def gapN (n : Nat) (K : List (Option Int)) (i : Nat) : Nat := walkTo (fun x => (sl K x).isNone) n n (wrapN n (i + 1)) + 1

theorem gap_spec {n : Nat} {K : List (Option Int)} {i : Nat} (hi : i < n) {k : Int} (hk : sl K i = some k) (hz : ∃ z, z < n ∧ sl K z = none) :
    0 < gapN n K i ∧ gapN n K i < n ∧ sl K (wrapN n (i + gapN n K i)) = none ∧ ∀ j, 0 < j → j < gapN n K i → ∃ q, sl K (wrapN n (i + j)) = some q := by
  obtain ⟨z, hz, hn⟩ := hz
  have hzi : z ≠ i := by rintro rfl; rw [hn] at hk; cases hk
  have hx1 : wrapN n (i + 1) < n := wrap_lt (by omega)
  obtain ⟨h1, h2, h3⟩ := walkTo_spec (fun x => (sl K x).isNone) n n (wrapN n (i + 1)) hx1 (Nat.le_refl _) ⟨farN n (wrapN n (i + 1)) z, far_lt hx1 hz, by rw [wrap_far hx1 hz, hn]; rfl⟩
  have hb : walkTo (fun x => (sl K x).isNone) n n (wrapN n (i + 1)) + 1 < n := by
    apply Classical.byContradiction
    intro hc
    have e : walkTo (fun x => (sl K x).isNone) n n (wrapN n (i + 1)) = n - 1 := by omega
    rw [e, wrap_step hi (by omega), Nat.sub_add_cancel (by omega)] at h2
    have : wrapN n (i + n) = i := by unfold wrapN; rw [if_neg (by omega)]; omega
    rw [this, hk] at h2
    cases h2
  unfold gapN
  refine ⟨by omega, hb, ?_, ?_⟩
  · rw [wrap_step hi (by omega)] at h2
    simpa using h2
  · intro j hj hlt
    have := h3 (j - 1) (by omega)
    rw [wrap_step hi (by omega), Nat.sub_add_cancel (by omega)] at this
    cases hs : sl K (wrapN n (i + j)) with
    | none => rw [hs] at this; cases this
    | some q => exact ⟨q, rfl⟩

/-- What is true behind so many steps. -/
structure Mid (n : Nat) (h : Int → Nat) (K : List (Option Int)) (i D : Nat) (k0 : Int) (j : Nat) (s : List (Option Int) × Nat) : Prop where
  len : s.1.length = n
  gap : ∃ g, g ≤ j ∧ s.2 = wrapN n (i + g)
  gone : sl s.1 s.2 = none
  same : ∀ o, j < o → o < n → sl s.1 (wrapN n (i + o)) = sl K (wrapN n (i + o))
  mem : ∀ k, (∃ x, sl s.1 x = some k) ↔ ((∃ x, sl K x = some k) ∧ k ≠ k0)
  inj : ∀ x y k, sl s.1 x = some k → sl s.1 y = some k → x = y
  probe : ∀ x y k, y < n → sl s.1 x = some k → farN n (h k) y < farN n (h k) x → sl s.1 y ≠ none ∨ (y = s.2 ∧ ∃ o, j < o ∧ o < D ∧ x = wrapN n (i + o))
  cnt : s.1.countP Option.isSome + 1 = K.countP Option.isSome

/-- On a walk from slot a: whoever passes c on the way to x passes what lies between. -/
theorem far_between {n a i c z x : Nat} (ha : a < n) (hi : i < n) (hc : c < z) (hz : z < n) (hx : x < n) (hxx : x ≤ c ∨ z < x)
    (hf : farN n a (wrapN n (i + c)) < farN n a (wrapN n (i + x))) : farN n a (wrapN n (i + z)) < farN n a (wrapN n (i + x)) := by
  unfold farN wrapN at *
  by_cases h1 : i + c < n <;> by_cases h2 : i + x < n <;> by_cases h3 : i + z < n <;> simp only [h1, h2, h3, if_true, if_false] at hf ⊢ <;>
    (split at hf <;> split at hf <;> split <;> omega)

theorem wrap_inj {n i a b : Nat} (hi : i < n) (ha : a < n) (hb : b < n) (h : wrapN n (i + a) = wrapN n (i + b)) : a = b := by
  have := far_wrap hi ha
  rw [h, far_wrap hi hb] at this
  exact this.symm

section
variable {n : Nat} {h : Int → Nat} {K : List (Option Int)} {O : List Int} {i D : Nat} {k0 : Int}

theorem mid_zero (I : Inv n h K O) (hi : i < n) (hk : sl K i = some k0) (hD0 : 0 < D) (hDn : D < n) (hz : sl K (wrapN n (i + D)) = none) : Mid n h K i D k0 0 (shiftN n h K i 0) := by
  have hset := sl_set (K := K) (i := i) (by rw [I.len]; exact hi) none
  have hi0 : wrapN n (i + 0) = i := by unfold wrapN; rw [if_pos (by omega)]; rfl
  refine ⟨by simp [shiftN, I.len], ⟨0, Nat.le_refl _, by rw [hi0]; rfl⟩, by simp only [shiftN]; rw [hset, if_pos rfl], ?_, ?_, ?_, ?_, ?_⟩
  · intro o h1 h2
    simp only [shiftN]
    rw [hset, if_neg]
    intro e
    have := wrap_inj hi h2 (b := 0) (by omega) (e.trans hi0.symm)
    omega
  · intro q
    simp only [shiftN]
    constructor
    · rintro ⟨x, hx⟩
      rw [hset] at hx
      split at hx
      · cases hx
      · rename_i hne
        exact ⟨⟨x, hx⟩, fun e => hne (I.inj x i q hx (e ▸ hk))⟩
    · rintro ⟨⟨x, hx⟩, hne⟩
      refine ⟨x, ?_⟩
      rw [hset, if_neg]
      · exact hx
      · rintro rfl
        rw [hk] at hx
        injection hx with e
        exact hne e.symm
  · intro x y q hx hy
    simp only [shiftN] at hx hy
    rw [hset] at hx hy
    split at hx
    · cases hx
    · split at hy
      · cases hy
      · exact I.inj x y q hx hy
  · intro x y q hy hx hfar
    simp only [shiftN] at hx ⊢
    rw [hset] at hx ⊢
    split at hx
    · cases hx
    · rename_i hxi
      by_cases hyi : y = i
      · right
        subst hyi
        have hxn : x < n := by rw [← I.len]; exact lt_of_sl hx
        refine ⟨rfl, farN n y x, ?_, ?_, (wrap_far hi hxn).symm⟩
        · apply Nat.pos_of_ne_zero
          intro e
          have := wrap_far hi hxn
          rw [e, hi0] at this
          exact hxi this.symm
        · apply Classical.byContradiction
          intro hc
          have hxo := wrap_far hi hxn
          have hne : farN n y x ≠ D := by
            intro e
            rw [e] at hxo
            rw [hxo] at hz
            rw [hz] at hx
            cases hx
          have hb := far_between (I.home q) hi hD0 hDn (far_lt hi hxn) (.inr (by omega)) (by rw [hi0, hxo]; exact hfar)
          rw [hxo] at hb
          exact I.probe x _ q (wrap_lt (by omega)) hx hb hz
      · left
        rw [if_neg hyi]
        exact I.probe x y q hy hx hfar
  · simp only [shiftN]
    have hget : K[i]'(by rw [I.len]; exact hi) = some k0 := by
      have := get_of_lt (K := K) (x := i) (by rw [I.len]; exact hi)
      rw [List.getElem?_eq_getElem (by rw [I.len]; exact hi), hk] at this
      injection this
    have hpos : 0 < K.countP Option.isSome := List.countP_pos_iff.2 ⟨some k0, by rw [← hget]; exact List.getElem_mem _, rfl⟩
    rw [List.countP_set (by rw [I.len]; exact hi), hget]
    simp
    omega

theorem mid_step (I : Inv n h K O) (hi : i < n) (hDn : D < n) (hz : sl K (wrapN n (i + D)) = none) {j : Nat} (hj : j + 1 < D) (M : Mid n h K i D k0 j (shiftN n h K i j))
    (hfull : ∃ q, sl K (wrapN n (i + (j + 1))) = some q) : Mid n h K i D k0 (j + 1) (shiftN n h K i (j + 1)) := by
  obtain ⟨q, hq⟩ := hfull
  have hcur : sl (shiftN n h K i j).1 (wrapN n (i + (j + 1))) = some q := by rw [M.same _ (by omega) (by omega)]; exact hq
  have hstep : shiftN n h K i (j + 1) = if farN n (h q) (shiftN n h K i j).2 < farN n (h q) (wrapN n (i + (j + 1))) then (((shiftN n h K i j).1.set (shiftN n h K i j).2 (some q)).set (wrapN n (i + (j + 1))) none, wrapN n (i + (j + 1))) else shiftN n h K i j := by
    show shiftStep n h (shiftN n h K i j) (wrapN n (i + (j + 1))) = _
    unfold shiftStep
    rw [hcur]
  obtain ⟨g, hg, hge⟩ := M.gap
  have hzs : sl (shiftN n h K i j).1 (wrapN n (i + D)) = none := by rw [M.same _ (by omega) hDn]; exact hz
  generalize hS : shiftN n h K i j = S at *
  obtain ⟨L, G⟩ := S
  simp only at M hcur hge hzs hstep
  have hln := M.len
  simp only at hln
  have hGn : G < n := by rw [hge]; exact wrap_lt (by omega)
  have hcn : wrapN n (i + (j + 1)) < n := wrap_lt (by omega)
  have hGc : G ≠ wrapN n (i + (j + 1)) := by
    intro e
    have hno := M.gone
    simp only at hno
    rw [e, hcur] at hno
    cases hno
  by_cases hm : farN n (h q) G < farN n (h q) (wrapN n (i + (j + 1)))
  · rw [hstep, if_pos hm]
    have hset1 := sl_set (K := L) (i := G) (by rw [hln]; exact hGn) (some q)
    have hset2 := sl_set (K := L.set G (some q)) (i := wrapN n (i + (j + 1))) (by rw [List.length_set, hln]; exact hcn) none
    refine ⟨by simp [hln], ⟨j + 1, Nat.le_refl _, rfl⟩, by simp only; rw [hset2, if_pos rfl], ?_, ?_, ?_, ?_, ?_⟩
    · intro o h1 h2
      simp only
      rw [hset2, if_neg (fun e => by have := wrap_inj hi h2 (by omega) e; omega), hset1, if_neg (fun e => by have := wrap_inj hi h2 (by omega) (e.trans hge); omega)]
      exact M.same o (by omega) h2
    · intro p
      rw [← M.mem p]
      simp only
      constructor
      · rintro ⟨x, hx⟩
        rw [hset2] at hx
        split at hx
        · cases hx
        · rw [hset1] at hx
          split at hx
          · injection hx with e
            subst e
            exact ⟨_, hcur⟩
          · exact ⟨x, hx⟩
      · rintro ⟨x, hx⟩
        by_cases hxc : x = wrapN n (i + (j + 1))
        · rw [hxc, hcur] at hx
          injection hx with e
          subst e
          exact ⟨G, by rw [hset2, if_neg hGc, hset1, if_pos rfl]⟩
        · refine ⟨x, ?_⟩
          rw [hset2, if_neg hxc, hset1, if_neg]
          · exact hx
          · rintro rfl
            have hno := M.gone
            simp only at hno
            rw [hno] at hx
            cases hx
    · intro x y p hx hy
      simp only at hx hy
      rw [hset2] at hx hy
      split at hx
      · cases hx
      · rename_i hxc
        split at hy
        · cases hy
        · rename_i hyc
          rw [hset1] at hx hy
          split at hx <;> split at hy
          · omega
          · injection hx with e; subst e; exact absurd (M.inj _ _ _ hy hcur) hyc
          · injection hy with e; subst e; exact absurd (M.inj _ _ _ hx hcur) hxc
          · exact M.inj x y p hx hy
    · intro x y p hy hx hfar
      simp only at hx ⊢
      rw [hset2] at hx ⊢
      split at hx
      · cases hx
      · rename_i hxc
        rw [hset1] at hx
        by_cases hyc : y = wrapN n (i + (j + 1))
        · right
          refine ⟨hyc, ?_⟩
          split at hx
          · rename_i hxG
            injection hx with e
            subst e
            rw [hyc, hxG] at hfar
            omega
          · have hxn : x < n := by rw [← hln]; exact lt_of_sl hx
            have hxo := wrap_far hi hxn
            refine ⟨farN n i x, ?_, ?_, hxo.symm⟩
            · apply Classical.byContradiction
              intro hc
              have hb := far_between (c := j + 1) (z := D) (I.home p) hi (by omega) hDn (far_lt hi hxn) (.inl (by omega)) (by rw [hxo, ← hyc]; exact hfar)
              rw [hxo] at hb
              rcases M.probe x _ p (wrap_lt (by omega)) hx hb with h1 | ⟨h1, _⟩
              · exact h1 hzs
              · have := wrap_inj hi hDn (by omega) (h1.trans hge)
                omega
            · apply Classical.byContradiction
              intro hc
              have hne : farN n i x ≠ D := by
                intro e
                rw [e] at hxo
                rw [← hxo, hzs] at hx
                cases hx
              have hb := far_between (c := j + 1) (z := D) (I.home p) hi (by omega) hDn (far_lt hi hxn) (.inr (by omega)) (by rw [hxo, ← hyc]; exact hfar)
              rw [hxo] at hb
              rcases M.probe x _ p (wrap_lt (by omega)) hx hb with h1 | ⟨h1, _⟩
              · exact h1 hzs
              · have := wrap_inj hi hDn (by omega) (h1.trans hge)
                omega
        · left
          rw [if_neg hyc, hset1]
          by_cases hyG : y = G
          · rw [if_pos hyG]; simp
          · rw [if_neg hyG]
            split at hx
            · rename_i hxG
              injection hx with e
              subst e
              rw [hxG] at hfar
              rcases M.probe _ y _ hy hcur (by omega) with h1 | ⟨h1, _⟩
              · exact h1
              · exact absurd h1 hyG
            · rcases M.probe x y p hy hx hfar with h1 | ⟨h1, _⟩
              · exact h1
              · exact absurd h1 hyG
    · simp only
      have hno := M.gone
      have hcnt := M.cnt
      simp only at hno hcnt
      have hg1 : L[G]'(by rw [hln]; exact hGn) = none := by
        have := get_of_lt (K := L) (x := G) (by rw [hln]; exact hGn)
        rw [List.getElem?_eq_getElem (by rw [hln]; exact hGn), hno] at this
        injection this
      have hg2 : (L.set G (some q))[wrapN n (i + (j + 1))]'(by rw [List.length_set, hln]; exact hcn) = some q := by
        have := get_of_lt (K := L.set G (some q)) (x := wrapN n (i + (j + 1))) (by rw [List.length_set, hln]; exact hcn)
        rw [List.getElem?_eq_getElem (by rw [List.length_set, hln]; exact hcn), hset1, if_neg (Ne.symm hGc), hcur] at this
        injection this
      rw [List.countP_set (by rw [List.length_set, hln]; exact hcn), hg2, List.countP_set (by rw [hln]; exact hGn), hg1]
      simp
      exact hcnt
  · rw [hstep, if_neg hm]
    refine ⟨M.len, ⟨g, by omega, hge⟩, M.gone, fun o h1 h2 => M.same o (by omega) h2, M.mem, M.inj, ?_, M.cnt⟩
    intro x y p hy hx hfar
    rcases M.probe x y p hy hx hfar with h1 | ⟨h1, o, ho1, ho2, ho3⟩
    · exact .inl h1
    · right
      refine ⟨h1, o, ?_, ho2, ho3⟩
      apply Classical.byContradiction
      intro hc
      obtain rfl : o = j + 1 := by omega
      simp only at hx h1
      rw [ho3, hcur] at hx
      injection hx with e
      subst e
      rw [h1, ho3] at hfar
      exact hm hfar

theorem mid_all (I : Inv n h K O) (hi : i < n) (hk : sl K i = some k0) (hD0 : 0 < D) (hDn : D < n) (hz : sl K (wrapN n (i + D)) = none) (hfull : ∀ j, 0 < j → j < D → ∃ q, sl K (wrapN n (i + j)) = some q) :
    ∀ j, j < D → Mid n h K i D k0 j (shiftN n h K i j) := by
  intro j
  induction j with
  | zero => intro _; exact mid_zero I hi hk hD0 hDn hz
  | succ j ih => intro hj; exact mid_step I hi hDn hz hj (ih (by omega)) (hfull _ (by omega) hj)

/-- The slots behind a take out of slot i. -/
def takeN (n : Nat) (h : Int → Nat) (K : List (Option Int)) (i : Nat) : List (Option Int) := (shiftN n h K i (gapN n K i - 1)).1

theorem Inv.take (I : Inv n h K O) (hi : i < n) (hk : sl K i = some k0) : Inv n h (takeN n h K i) (O.filter (fun k => decide (k ≠ k0))) := by
  obtain ⟨g0, g1, g2, g3⟩ := gap_spec hi hk I.free
  have M := mid_all I hi hk g0 g1 g2 g3 (gapN n K i - 1) (by omega)
  have hmem : k0 ∈ O := (I.mem k0).2 ⟨_, hk⟩
  have hlen : (O.filter (fun k => decide (k ≠ k0))).length + 1 = O.length := by
    have hcount : O.countP (fun k => decide (k = k0)) = 1 := by
      have h1 := (List.nodup_iff_count.1 I.nodup) k0
      have h2 := List.count_pos_iff.2 hmem
      have h3 : O.countP (fun k => decide (k = k0)) = O.count k0 := by
        unfold List.count
        congr 1
      omega
    have := List.length_eq_countP_add_countP (fun k => decide (k = k0)) (l := O)
    rw [← List.countP_eq_length_filter]
    have e : O.countP (fun k => decide (k ≠ k0)) = O.countP (fun k => decide ¬(decide (k = k0)) = true) := by
      congr 1
      funext k
      by_cases e : k = k0 <;> simp [e]
    omega
  refine ⟨I.home, M.len, ?_, M.inj, I.nodup.filter _, ?_, ?_, ?_⟩
  · intro k
    rw [List.mem_filter, I.mem k]
    simp only [decide_eq_true_eq]
    exact (M.mem k).symm
  · intro x y k hy hx hfar
    rcases M.probe x y k hy hx hfar with h1 | ⟨_, o, ho1, ho2, _⟩
    · exact h1
    · omega
  · have := M.cnt
    rw [I.cnt] at this
    unfold takeN
    omega
  · have := I.few
    omega

end
end Go.Proofs.YtmhinalgjfiliaaDoor
