
/- Ways and list's calls, failing at one access (layer 21), pure. No statement of the seat is proved here. -/
import Derived.Test.YtbdekpccddmehaaLeB
namespace Go.Proofs.Ytbdekpccddmehaa
open Go.RowKit

/-- A way as a call: its spot and the spots passed over. -/
def wayF (pass : List Sp → Sp → Bool) (m : Nat) (b : Sp) (a : Int) (P : List Sp) : Wd → ((Sp × List Sp) × Int) × Wd := fun s => ((((way pass m b a P s).1.1, if (way pass m b a P s).1.2 ≠ 0 then [] else (way pass m b a P s).2.1), (way pass m b a P s).1.2), (way pass m b a P s).2.2)
theorem bnd_ok {α β : Type} {F : Wd → (α × Int) × Wd} {G : α → Wd → (β × Int) × Wd} {d : β} {s s1 : Wd} {x : α} (h : F s = ((x, 0), s1)) : bnd F G d s = G x s1 := by
  unfold bnd; rw [h]; exact if_neg (fun q => q rfl)
theorem bnd_er {α β : Type} {F : Wd → (α × Int) × Wd} {G : α → Wd → (β × Int) × Wd} {d : β} {s s1 : Wd} {x : α} {e : Int} (h : F s = ((x, e), s1)) (he : e ≠ 0) : bnd F G d s = ((d, e), s1) := by
  unfold bnd; rw [h]; exact if_pos he
theorem wayF_succ (pass : List Sp → Sp → Bool) (m : Nat) (b : Sp) (a : Int) (P : List Sp) (s : Wd) :
    wayF pass (m + 1) b a P s = bnd (fun s => s.follow a) (fun t => if t.n = 0 then rtn (t, P) else if b.n ≠ 0 ∧ t.k ≤ b.k then err (Sp.zero, []) 310 else if pass P t = false then rtn (t, P) else wayF pass m t (ld t.nd) (P ++ [t])) (Sp.zero, []) s := by
  obtain ⟨⟨⟨t, e⟩, s1⟩, eq⟩ : ∃ r, s.follow a = r := ⟨_, rfl⟩
  by_cases he : e = 0
  · subst he
    rw [bnd_ok (F := fun s => s.follow a) eq]
    by_cases hn : t.n = 0
    · rw [if_pos hn]
      unfold wayF
      rw [way_end eq (.inr hn)]
      simp [rtn]
    · rw [if_neg hn]
      by_cases hb : b.n ≠ 0 ∧ t.k ≤ b.k
      · rw [if_pos hb]
        unfold wayF
        rw [way_list eq hn hb.1 hb.2]
        simp [err]
      · rw [if_neg hb]
        cases hp : pass P t with
        | false =>
          rw [if_pos rfl]
          unfold wayF
          rw [way_stop eq hn hb hp]
          simp [rtn]
        | true =>
          rw [if_neg (by decide)]
          unfold wayF
          rw [way_next eq hn hb hp]
  · rw [bnd_er (F := fun s => s.follow a) eq he]
    have hz : t = Sp.zero := by
      have q := follow_ce eq
      rcases q.2.2 with q | q
      · exact absurd q he
      · exact q
    unfold wayF
    rw [way_end eq (.inl he), hz]
    simp [he]
theorem follow_mem' {s s1 : Wd} {a : Int} {t : Sp} (h : s.follow a = ((t, 0), s1)) (hn : t.n ≠ 0) (hc : s.c ≠ 0 ∨ s.f < 0) : t.k ∈ s.W := by
  have g : (s.get a).2.W = s.W := by
    unfold Wd.get
    split
    · rfl
    · split <;> rfl
  unfold Wd.follow at h
  split at h
  · simp only [Prod.mk.injEq] at h; obtain ⟨⟨rfl, _⟩, _⟩ := h; exact absurd rfl hn
  · split at h
    · simp only [Prod.mk.injEq] at h; obtain ⟨⟨rfl, _⟩, _⟩ := h; exact absurd rfl hn
    · split at h
      · simp only [Prod.mk.injEq] at h; obtain ⟨⟨rfl, _⟩, _⟩ := h; exact absurd rfl hn
      · rename_i h5
        simp only [Prod.mk.injEq] at h; obtain ⟨⟨rfl, _⟩, _⟩ := h
        show ((s.get a).2.get (uw ((s.get a).1.1 - 1))).1.1 ∈ s.W
        rw [← g]
        obtain ⟨⟨⟨x, e⟩, s2⟩, eq⟩ : ∃ r, (s.get a).2.get (uw ((s.get a).1.1 - 1)) = r := ⟨_, rfl⟩
        rw [eq] at h5 ⊢
        have he : e = 0 := Classical.not_not.1 h5
        subst he
        exact get_mem (uw_isW _).1 eq ((get_like s a).ce hc)
theorem ex_way (pass : List Sp → Sp → Bool) : ∀ (m : Nat) (b : Sp) (a : Int) (P : List Sp) (s : Wd) (k : Nat), s.f < 0 → Cn s k → s.W.length ≤ 1000000 → k + 2 * (1000001 - P.length) < TOP → Ris s.W P b → Ex (wayF pass m b a P) (Sp.zero, []) s k (2 * (1000001 - P.length))
  | 0, b, a, P, s, k, hf, hc, hl, hk, hr => by
    refine ex_eq (G := rtn (Sp.zero, P)) (fun s => ?_) (ex_rtn _ _ hc _)
    unfold wayF way rtn
    simp
  | m + 1, b, a, P, s, k, hf, hc, hl, hk, hr => by
    have hPl := hr.len
    refine ex_eq (wayF_succ pass m b a P) (ex_mono (B := 2 + 2 * (1000001 - (P.length + 1))) ?_ (by omega))
    refine ex_bnd (ex_follow hf hc (by omega) a) (fun t k' he h1 h2 hc' hf' hl' => ?_)
    obtain ⟨⟨⟨t', e⟩, s1⟩, eq⟩ : ∃ r, s.follow a = r := ⟨_, rfl⟩
    rw [eq] at he hc' hf' hl' ⊢
    simp only at he hc' hf' hl' ⊢
    simp only [Prod.mk.injEq] at he
    obtain ⟨rfl, rfl⟩ := he
    split
    · exact ex_rtn _ _ hc' _
    · split
      · exact ex_err _ _ hc' _
      · split
        · exact ex_rtn _ _ hc' _
        · rename_i hn hb hp
          have hwW : s1.W = s.W := by
            have q : (s.follow a).2.W = s.W := by
              unfold Wd.follow
              have g : ∀ (s : Wd) (a : Int), (s.get a).2.W = s.W := by
                intro s a
                unfold Wd.get
                split
                · rfl
                · split <;> rfl
              split
              · exact g s a
              · split
                · exact g s a
                · split
                  · exact (g _ _).trans (g s a)
                  · exact (g _ _).trans (g s a)
            rw [eq] at q
            exact q
          have hmem : t'.k ∈ s.W := follow_mem' eq hn (.inr hf)
          have hr' : Ris s1.W (P ++ [t']) t' := by rw [hwW]; exact hr.next hmem hn hb
          have q := ex_way pass m t' (ld t'.nd) (P ++ [t']) s1 k' (by rw [hf']; exact hf) hc' (by rw [hwW]; exact hl) (by simp only [List.length_append, List.length_cons, List.length_nil]; omega) hr'
          simpa using q
end Go.Proofs.Ytbdekpccddmehaa
