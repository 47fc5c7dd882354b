
/- Programs that are like one that may run; the law CheckMore. No statement of the seat is proved here. -/
import Derived.Test.YtljapgoeomedkaaDoorChX
namespace Go.Proofs.YtljapgoeomedkaaDoor
open Go.RowKit Go.Shelf

theorem verd_facts2 {p : List I5} (h : (verd p).2 = 0) : (0 < p.length ∧ p.length ≤ 256) ∧ (∀ k, k < p.length → formF p k = false) ∧ (∀ k, k < p.length → tgtF p k = false) ∧ (∀ k, k < p.length → behF (reachB p) p k = false) ∧ (∀ k, k < p.length → modF (reachB p) p k = false) ∧ verd p = (-1, 0) := by
  have hl := verd_ok_len h
  have hv : verd p = verdW (reachB p) p := rfl
  rw [hv] at h ⊢
  unfold verdW at h ⊢
  rw [if_neg (by omega)] at h ⊢
  cases e1 : firstK p.length (formF p) with
  | some k => rw [e1] at h; simp at h
  | none =>
    rw [e1] at h
    cases e2 : firstK p.length (tgtF p) with
    | some k => rw [e2] at h; simp at h
    | none =>
      rw [e2] at h
      cases e3 : firstK p.length (behF (reachB p) p) with
      | some k => rw [e3] at h; simp at h
      | none =>
        rw [e3] at h
        cases e4 : firstK p.length (modF (reachB p) p) with
        | some k => rw [e4] at h; simp at h
        | none => exact ⟨hl, firstK_none.1 e1, firstK_none.1 e2, firstK_none.1 e3, firstK_none.1 e4, rfl⟩
theorem reach_goes {p : List I5} (h : (verd p).2 = 0) {a : Nat} {s : Bool} (hr : Reach p a s) : a < p.length ∧ ∀ b ∈ folL (at5 p a) a, b < p.length := by
  obtain ⟨⟨h0, h1⟩, hf, ht, hb, hm, _⟩ := verd_facts2 h
  have hlt := reach_lt h0 hr
  have hb' := hb a hlt
  refine ⟨hlt, fun b hb2 => ?_⟩
  unfold behF at hb'
  have hor : (reachB p a false || reachB p a true) = true := by
    cases s
    · rw [reachB_iff.2 hr]; rfl
    · rw [reachB_iff.2 hr]; simp
  rw [hor] at hb'
  simp only [Bool.true_and, List.any_eq_false, decide_eq_true_eq] at hb'
  have := hb' b hb2
  omega
/-- A program that has the same instructions where ways lead. -/
theorem like_verd {p q : List I5} (h : (verd p).2 = 0) (hl : p.length ≤ q.length) (h256 : q.length ≤ 256) (hs : ∀ k s, Reach p k s → at5 q k = at5 p k) (hf : ∀ k, k < q.length → formF q k = false) (ht : ∀ k, k < q.length → tgtF q k = false) : reachB q = reachB p ∧ verd q = (-1, 0) := by
  obtain ⟨⟨h0, h1⟩, _, _, _, hm, _⟩ := verd_facts2 h
  have to : ∀ a s, Reach q a s → Reach p a s := by
    intro a s hr
    induction hr with
    | start => exact .start
    | @step a s b i hr hi hb hlt ih =>
      obtain ⟨ha, hg⟩ := reach_goes h ih
      have e : i = at5 p a := by
        have := hs a s ih
        rw [← this]
        simp [at5, hi]
      subst e
      exact .step ih (at5_some ha) hb (hg b hb)
  have from' : ∀ a s, Reach p a s → Reach q a s := by
    intro a s hr
    induction hr with
    | start => exact .start
    | @step a s b i hr hi hb hlt ih =>
      have e : i = at5 p a := by simp [at5, hi]
      subst e
      have ha := (reach_goes h hr).1
      have := hs a s hr
      rw [← this] at hb ⊢
      exact .step ih (at5_some (by omega)) hb (by omega)
  have hR : reachB q = reachB p := by
    funext a s
    rw [Bool.eq_iff_iff, reachB_iff, reachB_iff]
    exact ⟨to a s, from' a s⟩
  refine ⟨hR, ?_⟩
  have hB : ∀ k, k < q.length → behF (reachB q) q k = false := by
    intro k hk
    unfold behF
    rw [hR]
    rcases hq : (reachB p k false || reachB p k true) with _ | _
    · rfl
    · simp only [Bool.true_and, List.any_eq_false, decide_eq_true_eq]
      intro b hb
      have hr : ∃ s, Reach p k s := by
        rw [Bool.or_eq_true] at hq
        rcases hq with hq | hq
        · exact ⟨_, reachB_iff.1 hq⟩
        · exact ⟨_, reachB_iff.1 hq⟩
      obtain ⟨s, hr⟩ := hr
      rw [hs k s hr] at hb
      have := (reach_goes h hr).2 b hb
      omega
  have hM : ∀ k, k < q.length → modF (reachB q) q k = false := by
    intro k hk
    rw [hR]
    by_cases hr : ∃ s, Reach p k s
    · obtain ⟨s, hr⟩ := hr
      have := hm k (reach_goes h hr).1
      unfold modF at this ⊢
      rw [hs k s hr]
      exact this
    · have e0 : reachB p k false = false := reachB_no.2 fun h => hr ⟨_, h⟩
      have e1 : reachB p k true = false := reachB_no.2 fun h => hr ⟨_, h⟩
      unfold modF
      rw [e0, e1]
      rfl
  unfold verd verdW
  rw [if_neg (by omega), firstK_none.2 hf, firstK_none.2 ht, firstK_none.2 hB, firstK_none.2 hM]
theorem mode_never {p : List I5} {k : Nat} (h : modeN p k = 0) (s : Bool) : ¬ Reach p k s := by
  intro hr
  unfold modeN modeB at h
  cases s
  · rw [reachB_iff.2 hr] at h; split at h <;> simp at h
  · rw [reachB_iff.2 hr] at h; simp at h

/-- A halt behind it; the first of what no way leads to made halts. -/
noncomputable def repL (p : List I5) (k : Nat) : List I5 := (List.range p.length).map fun j => if j < k ∧ modeN p j = 0 then iH else at5 p j
theorem repL_len (p : List I5) (k : Nat) : (repL p k).length = p.length := by simp [repL]
theorem repL_zero (p : List I5) : repL p 0 = p := by
  apply List.ext_getElem?
  intro j
  by_cases hj : j < p.length
  · simp [repL, hj, at5]
  · simp [repL, hj]
theorem repL_at {p : List I5} {k j : Nat} (hj : j < p.length) : at5 (repL p k) j = if j < k ∧ modeN p j = 0 then iH else at5 p j := by
  simp [at5, repL, hj]
theorem repL_get (p : List I5) (k j : Nat) : (repL p k)[j]? = if j < p.length then some (if j < k ∧ modeN p j = 0 then iH else at5 p j) else none := by
  by_cases hj : j < p.length
  · simp [repL, hj]
  · simp [repL, hj]
theorem repL_step {p : List I5} {k : Nat} (hk : k < p.length) : repL p (k + 1) = if modeN p k = 0 then (repL p k).set k iH else repL p k := by
  apply List.ext_getElem?
  intro j
  by_cases hm : modeN p k = 0
  · rw [if_pos hm, List.getElem?_set]
    by_cases hj : k = j
    · subst hj
      rw [if_pos rfl, if_pos (by rw [repL_len]; exact hk), repL_get, if_pos hk, if_pos ⟨by omega, hm⟩]
    · rw [if_neg hj, repL_get, repL_get]
      simp only [show j < k + 1 ↔ j < k by omega]
  · rw [if_neg hm, repL_get, repL_get]
    by_cases hj : j = k
    · subst hj
      rw [if_pos hk, if_pos hk, if_neg (fun h => hm h.2), if_neg (fun h => hm h.2)]
    · simp only [show j < k + 1 ↔ j < k by omega]
theorem repL_wf {p : List I5} (hwf : ∀ i ∈ p, i.wf) (k : Nat) : ∀ i ∈ repL p k, i.wf := by
  intro i hi
  obtain ⟨j, hj, rfl⟩ := List.mem_map.1 hi
  have hj' := List.mem_range.1 hj
  split
  · exact wf_iH
  · exact hwf _ (List.mem_of_getElem? (at5_some hj'))
theorem iH_facts (L : List I5) (k : Nat) (h : at5 L k = iH) : formF L k = false ∧ tgtF L k = false := by
  unfold formF tgtF
  rw [h]
  exact ⟨rfl, rfl⟩
/-- With a halt behind it. -/
theorem more_verd {p : List I5} (h : (verd p).2 = 0) (h256 : p.length + 1 ≤ 256) : reachB (p ++ [iH]) = reachB p ∧ verd (p ++ [iH]) = (-1, 0) := by
  obtain ⟨_, hf, ht, _, _, _⟩ := verd_facts2 h
  have hat : ∀ k, k < p.length → at5 (p ++ [iH]) k = at5 p k := fun k hk => by simp [at5, List.getElem?_append_left hk]
  have hlast : at5 (p ++ [iH]) p.length = iH := by simp [at5]
  refine like_verd h (by simp) (by simpa using h256) (fun k s hr => hat k (reach_goes h hr).1) (fun k hk => ?_) fun k hk => ?_
  · by_cases hkp : k < p.length
    · unfold formF; rw [hat k hkp]; exact hf k hkp
    · obtain rfl : k = p.length := by simp at hk; omega
      exact (iH_facts _ _ hlast).1
  · by_cases hkp : k < p.length
    · have := ht k hkp
      unfold tgtF at this ⊢
      rw [hat k hkp]
      rcases hb : tgtB (at5 p k).op with _ | _
      · rfl
      · rw [hb] at this
        simp only [Bool.true_and, decide_eq_false_iff_not] at this ⊢
        simp; omega
    · obtain rfl : k = p.length := by simp at hk; omega
      exact (iH_facts _ _ hlast).2
theorem rep_verd {p : List I5} (h : (verd p).2 = 0) (k : Nat) : reachB (repL p k) = reachB p ∧ verd (repL p k) = (-1, 0) := by
  obtain ⟨⟨_, h256⟩, hf, ht, _, _, _⟩ := verd_facts2 h
  refine like_verd h (by rw [repL_len]; exact Nat.le_refl _) (by rw [repL_len]; exact h256) (fun j s hr => ?_) (fun j hj => ?_) fun j hj => ?_
  · rw [repL_at (reach_goes h hr).1, if_neg (fun hn => mode_never hn.2 s hr)]
  · rw [repL_len] at hj
    by_cases hc : j < k ∧ modeN p j = 0
    · exact (iH_facts _ _ (by rw [repL_at hj, if_pos hc])).1
    · unfold formF; rw [repL_at hj, if_neg hc]; exact hf j hj
  · rw [repL_len] at hj
    by_cases hc : j < k ∧ modeN p j = 0
    · exact (iH_facts _ _ (by rw [repL_at hj, if_pos hc])).2
    · have := ht j hj
      unfold tgtF at this ⊢
      rw [repL_at hj, if_neg hc, repL_len]; exact this
theorem modeN_congr {p q : List I5} (h : reachB q = reachB p) (k : Nat) : modeN q k = modeN p k := by unfold modeN; rw [h]
end Go.Proofs.YtljapgoeomedkaaDoor
