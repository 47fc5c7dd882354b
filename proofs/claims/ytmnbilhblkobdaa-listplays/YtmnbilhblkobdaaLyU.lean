
/- A room with two lists, as plain data (layer 21), pure: a step's call held against the plain set. No statement of the seat is proved here. -/
import Derived.Test.YtmnbilhblkobdaaLyPM
import Derived.Test.YtmnbilhblkobdaaLyB
namespace Go.Proofs.Ytmnbilhblkobdaa
open Go.RowKit

def hasI (K : List Int) (key : Int) (i : Nat) : Bool := decide (i < K.length) && (oat K i == key)
def ansK (K : List Int) (kind key : Int) (sp : Bool) (i : Nat) : List Int :=
  if kind = 1 then (if hasI K key i = true then K else if sp = true then K.take i ++ [key] ++ K.drop i else K)
  else if kind = 2 then K.filter (fun x => x != key)
  else if kind = 8 ∨ kind = 9 then [] else K
def firstK : List Int → Int × Bool
  | [] => (0, false)
  | a :: _ => (a, true)
def ansR (K : List Int) (kind key : Int) (sp : Bool) (i : Nat) : Rp :=
  if kind = 1 then (if hasI K key i = true then ⟨0, false, [], 0⟩ else if sp = true then ⟨0, true, [], 0⟩ else ⟨0, false, [], 9⟩)
  else if kind = 2 then ⟨0, hasI K key i, [], 0⟩
  else if kind = 3 then ⟨0, hasI K key i, [], 0⟩
  else if kind = 4 then ⟨(K.length : Int), false, [], 0⟩
  else if kind = 5 then ⟨(abvN K key).1, (abvN K key).2, [], 0⟩
  else if kind = 6 then ⟨(firstK K).1, (firstK K).2, [], 0⟩
  else if kind = 7 then ⟨0, false, K, 0⟩
  else if kind = 8 then ⟨(K.length : Int), false, [], 0⟩
  else ⟨0, false, [], 0⟩
def spc (n a b : Nat) : Bool := decide (a + b < (n - 22) / 2)
structure Py (s : Wd) (n l : Nat) (N : List (Nat × Int)) (l' : Nat) (N' : List (Nat × Int)) (kind key : Int) (i : Nat) (r : Rp) (s' : Wd) : Prop where
  f : s'.f = s.f
  rm : ∃ N1 F1, Rm2 s'.W n l N1 l' N' F1 ∧ N1.map Prod.snd = ansK (N.map Prod.snd) kind key (spc n N.length N'.length) i
  rep : (⟨if kind = 9 then 0 else r.w, r.h, r.L, r.e⟩ : Rp) = ansR (N.map Prod.snd) kind key (spc n N.length N'.length) i
  nine : kind = 9 → r.w = (l : Int)
  look : kind < 1 ∨ (3 ≤ kind ∧ kind ≤ 7) ∨ 9 < kind → s'.p = s.p
  err : r.e ≠ 0 → s'.p = s.p ∧ s'.W = s.W
section
variable {s : Wd} {n l l' : Nat} {N N' A B : List (Nat × Int)} {F : List Nat} {key : Int}
theorem spc_no (h : Rm2 s.W n l N l' N' F) (hF : F = []) (hn : (n : Int) < oat s.W 0 + 2) : spc n N.length N'.length = false := by
  have q := h.w0
  subst hF
  have e : (pcs l N l' N' []).length = N.length + N'.length + 2 := by unfold pcs; simp; omega
  rw [e] at q
  unfold spc
  exact decide_eq_false (by omega)
theorem spc_yes (h : Rm2 s.W n l N l' N' F) (hn : F ≠ [] ∨ oat s.W 0 + 2 ≤ n) : spc n N.length N'.length = true := by
  have q := h.w0
  have q2 := h.w0n
  have e : (pcs l N l' N' F).length = N.length + N'.length + 2 + F.length := by unfold pcs; simp; omega
  rw [e] at q
  unfold spc
  refine decide_eq_true ?_
  rcases hn with z | z
  · have : F.length ≠ 0 := fun y => z (List.length_eq_zero_iff.1 y)
    omega
  · omega
theorem oat_mid (X Y : List Int) (y : Int) : oat (X ++ y :: Y) X.length = y := by
  unfold oat; simp
theorem pl_split (ha : ∀ p ∈ A, p.2 < key) (hb : ∀ p ∈ B, key ≤ p.2) : Pl ((A ++ B).map Prod.snd) key A.length := by
  rw [List.map_append]
  refine ⟨by simp, fun j hj => ?_, fun hlt => ?_⟩
  · have hj2 : j < (A.map Prod.snd).length := by simpa using hj
    have e : oat (A.map Prod.snd ++ B.map Prod.snd) j = (A[j]).2 := by
      unfold oat
      rw [List.getElem?_append_left hj2, List.getElem?_map, List.getElem?_eq_getElem hj]
      rfl
    rw [e]
    exact ha _ (List.getElem_mem hj)
  · cases B with
    | nil => simp at hlt
    | cons p B =>
      rw [List.map_cons, show A.length = (A.map Prod.snd).length by simp, oat_mid]
      exact hb p (by simp)
theorem hasI_yes {y : Nat} : hasI ((A ++ (y, key) :: B).map Prod.snd) key A.length = true := by
  unfold hasI
  rw [List.map_append, List.map_cons, show A.length = (A.map Prod.snd).length by simp, oat_mid]
  simp
theorem hasI_no (hb : ∀ p ∈ B, key < p.2) : hasI ((A ++ B).map Prod.snd) key A.length = false := by
  unfold hasI
  rw [List.map_append]
  cases B with
  | nil => simp
  | cons p B =>
    have := hb p (by simp)
    rw [List.map_cons, show A.length = (A.map Prod.snd).length by simp, oat_mid]
    have h2 : p.2 ≠ key := by omega
    simp [h2]
theorem filt_yes {y : Nat} (ha : ∀ p ∈ A, p.2 < key) (hb : ∀ p ∈ B, key < p.2) : ((A ++ (y, key) :: B).map Prod.snd).filter (fun x => x != key) = (A ++ B).map Prod.snd := by
  rw [List.map_append, List.map_cons, List.filter_append, List.filter_cons, List.map_append]
  have e1 : (A.map Prod.snd).filter (fun x => x != key) = A.map Prod.snd := List.filter_eq_self.2 (fun x hx => by
    obtain ⟨p, hp, e⟩ := List.mem_map.1 hx; have := ha p hp; simp; omega)
  have e2 : (B.map Prod.snd).filter (fun x => x != key) = B.map Prod.snd := List.filter_eq_self.2 (fun x hx => by
    obtain ⟨p, hp, e⟩ := List.mem_map.1 hx; have := hb p hp; simp; omega)
  rw [e1, e2]
  simp
theorem filt_no (ha : ∀ p ∈ A, p.2 < key) (hb : ∀ p ∈ B, key < p.2) : ((A ++ B).map Prod.snd).filter (fun x => x != key) = (A ++ B).map Prod.snd := by
  refine List.filter_eq_self.2 (fun x hx => ?_)
  obtain ⟨p, hp, e⟩ := List.mem_map.1 hx
  rcases List.mem_append.1 hp with z | z
  · have := ha p z; simp; omega
  · have := hb p z; simp; omega
theorem abv_split (L : Nat) (ha : ∀ p ∈ A, p.2 ≤ key) (hb : ∀ p ∈ B, key < p.2) : abvN ((A ++ B).map Prod.snd) key = ((spotB L B).k, (spotB L B).there) := by
  unfold abvN
  have e : (A.map Prod.snd).find? (fun x => decide (key < x)) = none := List.find?_eq_none.2 (fun x hx => by
    obtain ⟨p, hp, e⟩ := List.mem_map.1 hx; have := ha p hp; simp; omega)
  rw [List.map_append, List.find?_append, e]
  cases B with
  | nil => rfl
  | cons p B =>
    obtain ⟨x, k⟩ := p
    have := hb (x, k) (by simp)
    simp only at this
    have h0 : (x : Int) + 1 ≠ 0 := by omega
    simp [this, spotB, Sp.there, h0]
theorem py_look {kind : Int} {i : Nat} {r : Rp} {s' : Wd} (h : Rm2 s.W n l N l' N' F) (hl : Lkd s s') (h9 : kind ≠ 9) (hK : ansK (N.map Prod.snd) kind key (spc n N.length N'.length) i = N.map Prod.snd) (hr : r = ansR (N.map Prod.snd) kind key (spc n N.length N'.length) i) : Py s n l N l' N' kind key i r s' := by
  refine ⟨hl.2.1, ⟨N, F, by rw [hl.1]; exact h, hK.symm⟩, ?_, fun q => absurd q h9, fun _ => hl.2.2.1, fun _ => ⟨hl.2.2.1, hl.1⟩⟩
  rw [if_neg h9]
  exact hr
theorem play (h : Rm2 s.W n l N l' N' F) (hf : s.f < 0) (hk : isW key) (kind : Int) : ∃ i, Pl (N.map Prod.snd) key i ∧ Py s n l N l' N' kind key i (s.call 0 l kind key).1 (s.call 0 l kind key).2 := by
  obtain ⟨A, B, hN, ha, hb⟩ := split_lt key N h.la.up
  subst hN
  refine ⟨A.length, pl_split ha hb, ?_⟩
  by_cases k1 : kind = 1
  · subst k1
    rcases head_or h.la.up hb with ⟨y, B', hB⟩ | hb2
    · obtain ⟨s1, l1, e1⟩ := insert_has h hf ha hB hb
      have e : s.call 0 l 1 key = (⟨0, false, [], 0⟩, s1) := by unfold Wd.call; rw [if_pos rfl, e1]
      rw [e]
      subst hB
      refine py_look h l1 (by decide) ?_ ?_
      · unfold ansK; rw [if_pos rfl, if_pos hasI_yes]
      · unfold ansR; rw [if_pos rfl, if_pos hasI_yes]
    · have hno := hasI_no (A := A) hb2
      have hno2 : ¬ hasI ((A ++ B).map Prod.snd) key A.length = true := by rw [hno]; decide
      rcases insert_at h hf hk ha hb2 with ⟨s1, x, F1, e1, f1, r1, hs⟩ | ⟨s1, l1, e1, hF, hn⟩
      · have e : s.call 0 l 1 key = (⟨0, true, [], 0⟩, s1) := by unfold Wd.call; rw [if_pos rfl, e1]
        have hsp := spc_yes h hs
        rw [e]
        refine ⟨f1, ⟨_, F1, r1, ?_⟩, ?_, fun q => absurd q (by decide), fun q => absurd q (by omega), fun q => absurd rfl q⟩
        · unfold ansK
          rw [if_pos rfl, if_neg hno2, if_pos hsp]
          simp
        · unfold ansR
          rw [if_pos rfl, if_neg hno2, if_pos hsp]
          rfl
      · have e : s.call 0 l 1 key = (⟨0, false, [], 9⟩, s1) := by unfold Wd.call; rw [if_pos rfl, e1]
        have hsp := spc_no h hF hn
        have hsp2 : ¬ spc n (A ++ B).length N'.length = true := by rw [hsp]; decide
        rw [e]
        refine py_look h l1 (by decide) ?_ ?_
        · unfold ansK; rw [if_pos rfl, if_neg hno2, if_neg hsp2]
        · unfold ansR; rw [if_pos rfl, if_neg hno2, if_neg hsp2]
  by_cases k2 : kind = 2
  · subst k2
    rcases head_or h.la.up hb with ⟨y, B', hB⟩ | hb2
    · subst hB
      have hup := h.la.up
      rw [List.map_append, List.map_cons] at hup
      have hb3 : ∀ p ∈ B', key < p.2 := fun p hp => (List.pairwise_cons.1 (List.pairwise_append.1 hup).2.1).1 p.2 (List.mem_map.2 ⟨p, hp, rfl⟩)
      obtain ⟨s1, e1, f1, r1⟩ := remove_at h hf ha hb
      have e : s.call 0 l 2 key = (⟨0, true, [], 0⟩, s1) := by unfold Wd.call; rw [if_neg (by decide), if_pos rfl, e1]
      rw [e]
      refine ⟨f1, ⟨_, _, r1, ?_⟩, ?_, fun q => absurd q (by decide), fun q => absurd q (by omega), fun q => absurd rfl q⟩
      · unfold ansK
        rw [if_neg (by decide), if_pos rfl, filt_yes ha hb3]
      · unfold ansR
        rw [if_neg (by decide), if_pos rfl, hasI_yes]
        rfl
    · obtain ⟨s1, l1, e1⟩ := remove_no h hf ha hb2
      have e : s.call 0 l 2 key = (⟨0, false, [], 0⟩, s1) := by unfold Wd.call; rw [if_neg (by decide), if_pos rfl, e1]
      rw [e]
      refine py_look h l1 (by decide) ?_ ?_
      · unfold ansK; rw [if_neg (by decide), if_pos rfl, filt_no ha hb2]
      · unfold ansR; rw [if_neg (by decide), if_pos rfl, hasI_no hb2]
  by_cases k3 : kind = 3
  · subst k3
    obtain ⟨s1, l1, e1⟩ := seek_at h hf ha hb
    have e : s.call 0 l 3 key = (⟨0, (spotB (lastL (l + 1) A) B).has key, [], 0⟩, s1) := by unfold Wd.call Wd.has; rw [if_neg (by decide), if_neg (by decide), if_pos rfl, e1]
    rw [e]
    refine py_look h l1 (by decide) rfl ?_
    unfold ansR
    rw [if_neg (by decide), if_neg (by decide), if_pos rfl]
    rcases head_or h.la.up hb with ⟨y, B', hB⟩ | hb2
    · subst hB; rw [hasI_yes, spot_has]
    · rw [hasI_no hb2, spot_no _ hb2]
  by_cases k4 : kind = 4
  · subst k4
    obtain ⟨s1, l1, e1⟩ := len_at h hf
    have e : s.call 0 l 4 key = (⟨((A ++ B).length : Int), false, [], 0⟩, s1) := by unfold Wd.call; rw [if_neg (by decide), if_neg (by decide), if_neg (by decide), if_pos rfl, e1]
    rw [e]
    refine py_look h l1 (by decide) rfl ?_
    unfold ansR
    rw [if_neg (by decide), if_neg (by decide), if_neg (by decide), if_pos rfl, List.length_map]
  by_cases k5 : kind = 5
  · subst k5
    obtain ⟨A2, B2, hN, ha2, hb2⟩ := split_lt (key + 1) (A ++ B) h.la.up
    have ha3 : ∀ p ∈ A2, p.2 ≤ key := fun p hp => by have := ha2 p hp; omega
    have hb3 : ∀ p ∈ B2, key < p.2 := fun p hp => by have := hb2 p hp; omega
    have h2 := h
    rw [hN] at h2
    obtain ⟨s1, l1, e1⟩ := above_at h2 hf ha3 hb3
    have e : s.call 0 l 5 key = (⟨(spotB (lastL (l + 1) A2) B2).k, (spotB (lastL (l + 1) A2) B2).there, [], 0⟩, s1) := by unfold Wd.call; rw [if_neg (by decide), if_neg (by decide), if_neg (by decide), if_neg (by decide), if_pos rfl, e1]
    rw [e]
    refine py_look h l1 (by decide) rfl ?_
    unfold ansR
    rw [if_neg (by decide), if_neg (by decide), if_neg (by decide), if_neg (by decide), if_pos rfl, hN, abv_split (lastL (l + 1) A2) ha3 hb3]
  by_cases k6 : kind = 6
  · subst k6
    obtain ⟨s1, l1, e1⟩ := first_at h hf
    have e : s.call 0 l 6 key = (⟨(spotB (l + 1) (A ++ B)).k, (spotB (l + 1) (A ++ B)).there, [], 0⟩, s1) := by unfold Wd.call; rw [if_neg (by decide), if_neg (by decide), if_neg (by decide), if_neg (by decide), if_neg (by decide), if_pos rfl, e1]
    rw [e]
    refine py_look h l1 (by decide) rfl ?_
    unfold ansR
    rw [if_neg (by decide), if_neg (by decide), if_neg (by decide), if_neg (by decide), if_neg (by decide), if_pos rfl]
    generalize A ++ B = M
    cases M with
    | nil => rfl
    | cons p M =>
      obtain ⟨x, k⟩ := p
      have h0 : (x : Int) + 1 ≠ 0 := by omega
      simp [spotB, Sp.there, firstK, h0]
  by_cases k7 : kind = 7
  · subst k7
    obtain ⟨s1, l1, e1⟩ := keys_at h hf
    have e : s.call 0 l 7 key = (⟨0, false, (A ++ B).map Prod.snd, 0⟩, s1) := by unfold Wd.call; rw [if_neg (by decide), if_neg (by decide), if_neg (by decide), if_neg (by decide), if_neg (by decide), if_neg (by decide), if_pos rfl, e1]
    rw [e]
    exact py_look h l1 (by decide) rfl rfl
  by_cases k8 : kind = 8
  · subst k8
    obtain ⟨s1, e1, f1, r1⟩ := clear_at h hf
    have e : s.call 0 l 8 key = (⟨((A ++ B).length : Int), false, [], 0⟩, s1) := by unfold Wd.call; rw [if_neg (by decide), if_neg (by decide), if_neg (by decide), if_neg (by decide), if_neg (by decide), if_neg (by decide), if_neg (by decide), if_pos rfl, e1]
    rw [e]
    refine ⟨f1, ⟨_, _, r1, rfl⟩, ?_, fun q => absurd q (by decide), fun q => absurd q (by omega), fun q => absurd rfl q⟩
    unfold ansR
    rw [if_neg (by decide), if_neg (by decide), if_neg (by decide), if_neg (by decide), if_neg (by decide), if_neg (by decide), if_neg (by decide), if_neg (by decide), if_pos rfl, List.length_map]
  by_cases k9 : kind = 9
  · subst k9
    obtain ⟨s0, s1, e0, e1, f1, r1⟩ := drop_at h hf
    have e : s.call 0 l 9 key = (⟨(l : Int), false, [], 0⟩, s1) := by
      unfold Wd.call
      simp only [e0, e1]
      rfl
    rw [e]
    exact ⟨f1, ⟨_, _, r1, rfl⟩, rfl, fun _ => rfl, fun q => absurd q (by omega), fun q => absurd rfl q⟩
  have e : s.call 0 l kind key = (⟨0, false, [], 0⟩, s) := by unfold Wd.call; rw [if_neg k1, if_neg k2, if_neg k3, if_neg k4, if_neg k5, if_neg k6, if_neg k7, if_neg k8, if_neg k9]
  rw [e]
  refine py_look h (Lkd.rfl s) k9 ?_ ?_
  · unfold ansK
    rw [if_neg k1, if_neg k2, if_neg (by rintro (q | q); exact k8 q; exact k9 q)]
  · unfold ansR
    rw [if_neg k1, if_neg k2, if_neg k3, if_neg k4, if_neg k5, if_neg k6, if_neg k7, if_neg k8]
end
end Go.Proofs.Ytmnbilhblkobdaa
