
/- Pure: entries in their order; what All finds are numbers' words (layer 24). No statement of the seat is proved here. -/
import Derived.Test.YtalopkllldnipaaRlE
namespace Go.Proofs.Ytalopkllldnipaa
open Go.RowKit

/-- None stands ahead of an earlier one. -/
abbrev Ord (l : List (Int × Int)) : Prop := l.Pairwise (fun a b => ¬ befE b a)
theorem befE_eq {a b : Int × Int} (h1 : ¬ befE a b) (h2 : ¬ befE b a) : a = b := by
  obtain ⟨a0, a1⟩ := a
  obtain ⟨b0, b1⟩ := b
  unfold befE at h1 h2
  have e0 : a0 = b0 := by omega
  subst e0
  have e1 : a1 = b1 := by omega
  rw [e1]
theorem insE_perm (x : Int × Int) : ∀ l, (insE x l).Perm (x :: l)
  | [] => .refl _
  | y :: l => by
    unfold insE
    split
    · exact .refl _
    · exact ((insE_perm x l).cons y).trans (.swap x y l)
theorem insE_mem {x z : Int × Int} {l : List (Int × Int)} : z ∈ insE x l ↔ z = x ∨ z ∈ l := by
  rw [(insE_perm x l).mem_iff]
  simp
theorem insE_ord (x : Int × Int) : ∀ l, Ord l → Ord (insE x l)
  | [], _ => by simp [insE, Ord]
  | y :: l, h => by
    have h1 := List.pairwise_cons.1 h
    unfold insE
    split
    · rename_i hb
      refine List.pairwise_cons.2 ⟨fun z hz => ?_, h⟩
      have hy : ¬ befE y x := by unfold befE at *; omega
      rcases List.mem_cons.1 hz with rfl | hz
      · exact hy
      · have := h1.1 z hz
        unfold befE at *
        omega
    · rename_i hb
      refine List.pairwise_cons.2 ⟨fun z hz => ?_, insE_ord x l h1.2⟩
      rcases insE_mem.1 hz with rfl | hz
      · exact hb
      · exact h1.1 z hz
theorem foldE_perm : ∀ (l acc : List (Int × Int)), (l.foldl (fun l x => insE x l) acc).Perm (acc ++ l)
  | [], acc => by simp
  | x :: l, acc => by
    show (l.foldl (fun l x => insE x l) (insE x acc)).Perm _
    refine (foldE_perm l _).trans ?_
    refine ((insE_perm x acc).append_right l).trans ?_
    exact (List.perm_middle (a := x) (l₁ := acc) (l₂ := l)).symm
theorem foldE_ord : ∀ (l acc : List (Int × Int)), Ord acc → Ord (l.foldl (fun l x => insE x l) acc)
  | [], _, h => h
  | x :: l, acc, h => foldE_ord l _ (insE_ord x acc h)
theorem sortE_perm (l : List (Int × Int)) : (sortE l).Perm l := by simpa [sortE] using foldE_perm l []
theorem sortE_ord (l : List (Int × Int)) : Ord (sortE l) := foldE_ord l [] List.Pairwise.nil
theorem ord_unique : ∀ (l m : List (Int × Int)), l.Perm m → Ord l → Ord m → l = m
  | [], m, h, _, _ => by rw [List.nil_perm.1 h]
  | a :: l, m, h, hl, hm => by
    cases m with
    | nil => exact absurd h.length_eq (by simp)
    | cons b m =>
      have hl1 := List.pairwise_cons.1 hl
      have hm1 := List.pairwise_cons.1 hm
      have hab : a = b := by
        have ha : a ∈ b :: m := h.mem_iff.1 (List.mem_cons_self ..)
        have hb : b ∈ a :: l := h.mem_iff.2 (List.mem_cons_self ..)
        rcases List.mem_cons.1 ha with e | ha
        · exact e
        · rcases List.mem_cons.1 hb with e | hb
          · exact e.symm
          · exact befE_eq (hm1.1 a ha) (hl1.1 b hb)
      subst hab
      rw [ord_unique l m (h.cons_inv) hl1.2 hm1.2]
theorem sortE_of {F F' : List Tr} (h : F'.Perm F) (ho : F'.Pairwise (fun a b => ¬ befE b.ent a.ent)) : F'.map Tr.ent = sortE (F.map Tr.ent) := by
  refine ord_unique _ _ ((h.map _).trans (sortE_perm _).symm) ?_ (sortE_ord _)
  exact List.pairwise_map.2 ho

/-- Each of them has a number's word. -/
def Num (F : List Tr) : Prop := ∀ t ∈ F, reK (oat t.c 0) = true
theorem folF_num {cn x e : Int} {p : Option Tr} {F : List Tr} {t : Tr} {s s1 : Wd} (h : folF cn p x F s = ((some t, e), s1)) : reK (oat t.c 0) = true := by
  unfold folF at h
  split at h
  · have := (rtn_eq h).1; cases this
  · split at h
    · unfold err at h; simp at h
    · obtain ⟨q, f, s2, h1, h2, h3⟩ := bnd_step h
      by_cases hf : f = 0
      · have h4 := h2 hf
        cases q with
        | none => simp only [err] at h4; simp at h4
        | some u =>
          have h5 : (if reK (oat u.c 0) = true ∧ (∀ P, p = some P → ¬ befE u.ent P.ent) then rtn (some u) else err none 340) s2 = ((some t, e), s1) := h4
          split at h5
          · rename_i hc
            have := (rtn_eq h5).1
            injection this with this
            rw [this]
            exact hc.1
          · unfold err at h5; simp at h5
      · have := (h3 hf).2.2; cases this
theorem num_app {F : List Tr} {t : Option Tr} (h : Num F) (ht : ∀ u, t = some u → reK (oat u.c 0) = true) : Num (F ++ t.toList) := by
  intro u hu
  rcases List.mem_append.1 hu with hu | hu
  · exact h u hu
  · cases t with
    | none => simp at hu
    | some v => simp at hu; subst hu; exact ht _ rfl
theorem chiF_num {cn : Int} {t : Tr} {F F1 : List Tr} {s s1 : Wd} (h : chiF cn t F s = ((F1, 0), s1)) (hF : Num F) : Num F1 := by
  obtain ⟨l, f, s2, h1, h2, h3⟩ := bnd_step h
  by_cases hf : f = 0
  · obtain ⟨r, f2, s3, h4, h5, h6⟩ := bnd_step (h2 hf)
    by_cases hf2 : f2 = 0
    · have h7 : (if rkT l < rkT r ∨ oat t.c 4 ≠ uw (rkT r + 1) then err [] 340 else rtn (F ++ l.toList ++ r.toList)) s3 = ((F1, 0), s1) := h5 hf2
      split at h7
      · unfold err at h7
        simp at h7
      · rw [(rtn_eq h7).1]
        exact num_app (num_app hF (fun u hu => folF_num (hu ▸ h1))) (fun u hu => folF_num (hu ▸ h4))
    · exact absurd (h6 hf2).1.symm hf2
  · exact absurd (h3 hf).1.symm hf
theorem wlkF_num (cn : Int) : ∀ (k i : Nat) (F F1 : List Tr) (s s1 : Wd), wlkF cn k i F s = ((F1, 0), s1) → Num F → Num F1 := by
  intro k
  induction k with
  | zero =>
    intro i F F1 s s1 h _
    unfold wlkF err at h
    simp at h
  | succ k ih =>
    intro i F F1 s s1 h hF
    unfold wlkF at h
    cases hf : F[i]? with
    | none =>
      rw [hf] at h
      rw [(rtn_eq h).1]
      exact hF
    | some t =>
      rw [hf] at h
      obtain ⟨F2, f, s2, h1, h2, h3⟩ := bnd_step h
      by_cases hf0 : f = 0
      · subst hf0
        exact ih _ _ _ _ _ (h2 rfl) (chiF_num h1 hF)
      · exact absurd (h3 hf0).1.symm hf0
theorem allF_num {h0 : Int} {F : List Tr} {s s1 : Wd} (h : allF h0 s = ((F, 0), s1)) : Num F := by
  obtain ⟨p, f, s2, h1, h2, h3⟩ := bnd_step h
  by_cases hf : f = 0
  · have h2 : (if 2147483647 < p.1 then err [] 340 else bnd (folF p.1 none p.2 []) (fun r => bnd (wlkF p.1 2147483649 0 r.toList) (fun F => if (F.length : Int) ≠ p.1 then err [] 340 else rtn F) []) []) s2 = ((F, 0), s1) := h2 hf
    split at h2
    · unfold err at h2; simp at h2
    · obtain ⟨r, f2, s3, h4, h5, h6⟩ := bnd_step h2
      by_cases hf2 : f2 = 0
      · obtain ⟨F2, f3, s4, h7, h8, h9⟩ := bnd_step (h5 hf2)
        by_cases hf3 : f3 = 0
        · subst hf3
          have hn := wlkF_num _ _ _ _ _ _ _ h7 (by simpa using num_app (F := []) (t := r) (fun t ht => by simp at ht) (fun u hu => folF_num (hu ▸ h4)))
          have h8 : (if (F2.length : Int) ≠ p.1 then err [] 340 else rtn F2) s4 = ((F, 0), s1) := h8 rfl
          split at h8
          · unfold err at h8; simp at h8
          · rw [(rtn_eq h8).1]; exact hn
        · exact absurd (h9 hf3).1.symm hf3
      · exact absurd (h6 hf2).1.symm hf2
  · exact absurd (h3 hf).1.symm hf
end Go.Proofs.Ytalopkllldnipaa
