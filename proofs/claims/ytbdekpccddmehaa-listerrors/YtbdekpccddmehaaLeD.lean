
/- List's calls, failing at one access (layer 21), pure. No statement of the seat is proved here. -/
import Derived.Test.YtbdekpccddmehaaLeC
namespace Go.Proofs.Ytbdekpccddmehaa
open Go.RowKit

/-- Beside an error nothing is answered. -/
def Df {α : Type} (F : Wd → (α × Int) × Wd) (d : α) : Prop := ∀ s, (F s).1.2 ≠ 0 → (F s).1.1 = d
theorem df_bnd {α β : Type} {F : Wd → (α × Int) × Wd} {G : α → Wd → (β × Int) × Wd} {d : β} (h : ∀ x, Df (G x) d) : Df (bnd F G d) d := by
  intro s he
  by_cases h0 : (F s).1.2 = 0
  · have e : bnd F G d s = G (F s).1.1 (F s).2 := if_neg (fun q => q h0)
    rw [e] at he ⊢
    exact h _ _ he
  · have e : bnd F G d s = ((d, (F s).1.2), (F s).2) := if_pos h0
    rw [e]
theorem df_rtn {α : Type} (x d : α) : Df (rtn x) d := fun _ he => absurd rfl he
theorem df_err {α : Type} (d : α) (e : Int) : Df (err d e) d := fun _ _ => rfl
theorem df_unit (F : Wd → (Unit × Int) × Wd) : Df F () := fun _ _ => rfl
theorem df_eq {α : Type} {F G : Wd → (α × Int) × Wd} {d : α} (e : ∀ s, F s = G s) (h : Df G d) : Df F d := by
  intro s; rw [e]; exact h s
theorem way_zero (pass : List Sp → Sp → Bool) : ∀ (m : Nat) (b : Sp) (a : Int) (P : List Sp) (s : Wd), (way pass m b a P s).1.2 ≠ 0 → (way pass m b a P s).1.1 = Sp.zero
  | 0, b, a, P, s, h => absurd rfl h
  | m + 1, b, a, P, s, h => by
    obtain ⟨⟨⟨t, e⟩, s1⟩, eq⟩ : ∃ r, s.follow a = r := ⟨_, rfl⟩
    by_cases h1 : e ≠ 0 ∨ t.n = 0
    · rw [way_end eq h1] at h ⊢
      rcases (follow_ce eq).2.2 with q | q
      · exact absurd q h
      · exact q
    · have he : e = 0 := Classical.not_not.1 (fun q => h1 (.inl q))
      have hn : t.n ≠ 0 := fun q => h1 (.inr q)
      subst he
      by_cases hb : b.n ≠ 0 ∧ t.k ≤ b.k
      · rw [way_list eq hn hb.1 hb.2]
      · cases hp : pass P t with
        | false => rw [way_stop eq hn hb hp] at h; exact absurd rfl h
        | true =>
          rw [way_next eq hn hb hp] at h ⊢
          exact way_zero pass m t _ _ s1 h
def wayS (pass : List Sp → Sp → Bool) (l : Int) : Wd → ((Sp × List Sp) × Int) × Wd := wayF pass FU Sp.zero (ld l) []
theorem wayS_of {pass : List Sp → Sp → Bool} {l e : Int} {t : Sp} {P : List Sp} {s s1 : Wd} (h : s.way pass l = ((t, e), P, s1)) : wayS pass l s = (((t, if e ≠ 0 then [] else P), e), s1) := by
  unfold wayS wayF
  have q : way pass FU Sp.zero (ld l) [] s = ((t, e), P, s1) := h
  rw [q]
def seekF (l key : Int) : Wd → (Sp × Int) × Wd := bnd (wayS (pLt key) l) (fun x => rtn x.1) Sp.zero
theorem seek_eq (l key : Int) (s : Wd) : s.seek l key = seekF l key s := by
  obtain ⟨⟨⟨t, e⟩, P, s1⟩, eq⟩ : ∃ r, s.way (pLt key) l = r := ⟨_, rfl⟩
  unfold Wd.seek seekF
  rw [eq]
  by_cases he : e = 0
  · subst he
    rw [bnd_ok (wayS_of eq)]
    rfl
  · rw [bnd_er (wayS_of eq) he]
    have q := way_zero (pLt key) FU Sp.zero (ld l) [] s
    have q2 : way (pLt key) FU Sp.zero (ld l) [] s = ((t, e), P, s1) := eq
    rw [q2] at q
    rw [show t = Sp.zero from q he]
def hasF (l key : Int) : Wd → (Bool × Int) × Wd := bnd (seekF l key) (fun t => rtn (t.has key)) false
theorem seek_df (l key : Int) : Df (seekF l key) Sp.zero := df_bnd (fun _ => df_rtn _ _)
theorem has_eq (l key : Int) (s : Wd) : s.has l key = hasF l key s := by
  obtain ⟨⟨⟨t, e⟩, s1⟩, eq⟩ : ∃ r, seekF l key s = r := ⟨_, rfl⟩
  unfold Wd.has hasF
  rw [seek_eq, eq]
  by_cases he : e = 0
  · subst he; rw [bnd_ok eq]; rfl
  · rw [bnd_er eq he]
    have q := seek_df l key s
    rw [eq] at q
    rw [show t = Sp.zero from q he]
    rfl
def aboveF (pass : List Sp → Sp → Bool) (l : Int) : Wd → ((Int × Bool) × Int) × Wd := bnd (wayS pass l) (fun x => rtn (x.1.k, x.1.there)) (0, false)
theorem above_eq (pass : List Sp → Sp → Bool) (l : Int) (s : Wd) : ((((s.way pass l).1.1.k, (s.way pass l).1.1.there), (s.way pass l).1.2), (s.way pass l).2.2) = aboveF pass l s := by
  obtain ⟨⟨⟨t, e⟩, P, s1⟩, eq⟩ : ∃ r, s.way pass l = r := ⟨_, rfl⟩
  unfold aboveF
  rw [eq]
  by_cases he : e = 0
  · subst he; rw [bnd_ok (wayS_of eq)]; rfl
  · rw [bnd_er (wayS_of eq) he]
    have q := way_zero pass FU Sp.zero (ld l) [] s
    have q2 : way pass FU Sp.zero (ld l) [] s = ((t, e), P, s1) := eq
    rw [q2] at q
    rw [show t = Sp.zero from q he]
    rfl
def allF (l : Int) : Wd → (List Sp × Int) × Wd := bnd (fun s => s.get l) (fun x => bnd (wayS (pAll x) l) (fun q => if q.1.n ≠ 0 ∨ (q.2.length : Int) ≠ x then err [] 310 else rtn q.2) []) []
theorem all_eq (l : Int) (s : Wd) : s.all l = allF l s := by
  obtain ⟨⟨⟨x, e⟩, s1⟩, eq⟩ : ∃ r, s.get l = r := ⟨_, rfl⟩
  unfold Wd.all allF
  rw [eq]
  by_cases he : e = 0
  · subst he
    rw [bnd_ok (F := fun s => s.get l) eq]
    obtain ⟨⟨⟨t, f⟩, P, s2⟩, eq2⟩ : ∃ r, s1.way (pAll x) l = r := ⟨_, rfl⟩
    simp only [eq2]
    by_cases hf : f = 0
    · subst hf
      rw [bnd_ok (wayS_of eq2)]
      simp only [ne_eq, not_true_eq_false, if_false]
      by_cases hc : ¬ t.n = 0 ∨ ¬ (P.length : Int) = x
      · rw [if_pos hc, if_pos hc]; rfl
      · rw [if_neg hc, if_neg hc]; rfl
    · rw [bnd_er (wayS_of eq2) hf]
      simp [hf]
  · rw [bnd_er (F := fun s => s.get l) eq he]
    simp [he]
def keysF (l : Int) : Wd → (List Int × Int) × Wd := bnd (allF l) (fun L => rtn (L.map Sp.k)) []
theorem keys_eq (l : Int) (s : Wd) : s.keys l = keysF l s := by
  unfold Wd.keys keysF bnd rtn
  rw [all_eq]
def insF (r l key : Int) : Wd → (Bool × Int) × Wd := bnd (seekF l key) (fun t => if t.has key = true then rtn false else bnd (fun s => s.take r 2) (fun x => bnd (hangU t x key) (fun _ => bnd (recountU l 1) (fun _ => rtn true) false) false) false) false
theorem ins_eq (r l key : Int) (s : Wd) : s.insert r l key = insF r l key s := by
  obtain ⟨⟨⟨t, e⟩, s1⟩, eq⟩ : ∃ r, seekF l key s = r := ⟨_, rfl⟩
  unfold Wd.insert insF
  rw [seek_eq, eq]
  by_cases he : e = 0
  · subst he
    rw [bnd_ok eq]
    by_cases hh : t.has key = true
    · simp [hh, rtn]
    · simp only [ne_eq, not_true_eq_false, false_or, hh, if_false, Bool.false_eq_true]
      obtain ⟨⟨⟨x, f⟩, s2⟩, eq2⟩ : ∃ r', s1.take r 2 = r' := ⟨_, rfl⟩
      rw [eq2]
      by_cases hf : f = 0
      · subst hf
        rw [bnd_ok (F := fun s => s.take r 2) eq2]
        obtain ⟨⟨f2, s3⟩, eq3⟩ : ∃ r', s2.hang t x key = r' := ⟨_, rfl⟩
        have h3 : hangU t x key s2 = (((), f2), s3) := by unfold hangU; rw [eq3]
        simp only [eq3]
        by_cases hf2 : f2 = 0
        · subst hf2
          rw [bnd_ok h3]
          obtain ⟨⟨f3, s4⟩, eq4⟩ : ∃ r', s3.recount l 1 = r' := ⟨_, rfl⟩
          have h4 : recountU l 1 s3 = (((), f3), s4) := by unfold recountU; rw [eq4]
          simp only [eq4]
          by_cases hf3 : f3 = 0
          · subst hf3; rw [bnd_ok h4]; simp [rtn]
          · rw [bnd_er h4 hf3]; simp [hf3]
        · rw [bnd_er h3 hf2]; simp [hf2]
      · rw [bnd_er (F := fun s => s.take r 2) eq2 hf]; simp [hf]
  · rw [bnd_er eq he]; simp [he]
def remF (r l key : Int) : Wd → (Bool × Int) × Wd := bnd (seekF l key) (fun t => if t.has key = false then rtn false else bnd (unhangU t) (fun _ => bnd (recountU l 18446744073709551615) (fun _ => bnd (giveU r t.nd 2) (fun _ => rtn true) false) false) false) false
theorem rem_eq (r l key : Int) (s : Wd) : s.remove r l key = remF r l key s := by
  obtain ⟨⟨⟨t, e⟩, s1⟩, eq⟩ : ∃ r, seekF l key s = r := ⟨_, rfl⟩
  unfold Wd.remove remF
  rw [seek_eq, eq]
  by_cases he : e = 0
  · subst he
    rw [bnd_ok eq]
    by_cases hh : t.has key = false
    · simp [hh, rtn]
    · rw [if_neg (show ¬ ((0 : Int) ≠ 0 ∨ t.has key = false) from fun q => q.elim (fun z => z rfl) hh), if_neg hh]
      obtain ⟨⟨f, s2⟩, eq2⟩ : ∃ r', s1.unhang t = r' := ⟨_, rfl⟩
      have h2 : unhangU t s1 = (((), f), s2) := by unfold unhangU; rw [eq2]
      simp only [eq2]
      by_cases hf : f = 0
      · subst hf
        rw [bnd_ok h2]
        obtain ⟨⟨f2, s3⟩, eq3⟩ : ∃ r', s2.recount l 18446744073709551615 = r' := ⟨_, rfl⟩
        have h3 : recountU l 18446744073709551615 s2 = (((), f2), s3) := by unfold recountU; rw [eq3]
        simp only [eq3]
        by_cases hf2 : f2 = 0
        · subst hf2
          rw [bnd_ok h3]
          obtain ⟨⟨f3, s4⟩, eq4⟩ : ∃ r', s3.give r t.nd 2 = r' := ⟨_, rfl⟩
          have h4 : giveU r t.nd 2 s3 = (((), f3), s4) := by unfold giveU; rw [eq4]
          simp only [eq4]
          by_cases hf3 : f3 = 0
          · subst hf3; rw [bnd_ok h4]; simp [rtn]
          · rw [bnd_er h4 hf3]; simp [hf3]
        · rw [bnd_er h3 hf2]; simp [hf2]
      · rw [bnd_er h2 hf]; simp [hf]
  · rw [bnd_er eq he]; simp [he]
def givesF (r : Int) : List Sp → Wd → (Unit × Int) × Wd
  | [] => rtn ()
  | t :: L => bnd (giveU r t.nd 2) (fun _ => givesF r L) ()
theorem gives_eq (r : Int) : ∀ (L : List Sp) (s : Wd), givesU r L s = givesF r L s
  | [], s => rfl
  | t :: L, s => by
    obtain ⟨⟨f, s1⟩, eq⟩ : ∃ r', s.give r t.nd 2 = r' := ⟨_, rfl⟩
    have h2 : giveU r t.nd 2 s = (((), f), s1) := by unfold giveU; rw [eq]
    unfold givesF givesU
    by_cases hf : f = 0
    · subst hf
      rw [bnd_ok h2, ← gives_eq r L s1]
      unfold givesU
      simp [Wd.gives, eq]
    · rw [bnd_er h2 hf]
      simp [Wd.gives, eq, hf]
def giveNF (r l : Int) : Wd → (Int × Int) × Wd := bnd (allF l) (fun L => bnd (givesF r L) (fun _ => rtn (L.length : Int)) 0) 0
theorem giveN_eq (r l : Int) (s : Wd) : s.giveNodes r l = giveNF r l s := by
  obtain ⟨⟨⟨L, e⟩, s1⟩, eq⟩ : ∃ r, allF l s = r := ⟨_, rfl⟩
  unfold Wd.giveNodes giveNF
  rw [all_eq, eq]
  by_cases he : e = 0
  · subst he
    rw [bnd_ok eq]
    obtain ⟨⟨f, s2⟩, eq2⟩ : ∃ r', s1.gives r L = r' := ⟨_, rfl⟩
    have h2 : givesF r L s1 = (((), f), s2) := by rw [← gives_eq]; unfold givesU; rw [eq2]
    simp only [eq2]
    by_cases hf : f = 0
    · subst hf; rw [bnd_ok h2]; simp [rtn]
    · rw [bnd_er h2 hf]; simp [hf]
  · rw [bnd_er eq he]; simp [he]
def clearF (r l : Int) : Wd → (Int × Int) × Wd := bnd (giveNF r l) (fun x => if x = 0 then rtn 0 else bnd (emptyU l) (fun _ => rtn x) 0) 0
theorem clear_eq (r l : Int) (s : Wd) : s.clear r l = clearF r l s := by
  obtain ⟨⟨⟨x, e⟩, s1⟩, eq⟩ : ∃ r', giveNF r l s = r' := ⟨_, rfl⟩
  unfold Wd.clear clearF
  rw [giveN_eq, eq]
  by_cases he : e = 0
  · subst he
    rw [bnd_ok eq]
    by_cases hx : x = 0
    · subst hx; simp [rtn]
    · simp only [hx, if_false]
      obtain ⟨⟨f, s2⟩, eq2⟩ : ∃ r', s1.empty l = r' := ⟨_, rfl⟩
      have h2 : emptyU l s1 = (((), f), s2) := by unfold emptyU; rw [eq2]
      simp only [eq2]
      by_cases hf : f = 0
      · subst hf; rw [bnd_ok h2]; simp [rtn]
      · rw [bnd_er h2 hf]; simp [hf]
  · rw [bnd_er eq he]; simp [he]
def dropF (r l : Int) : Wd → (Unit × Int) × Wd := bnd (giveNF r l) (fun _ => giveU r l 2) ()
theorem drop_eq (r l : Int) (s : Wd) : dropU r l s = dropF r l s := by
  obtain ⟨⟨⟨x, e⟩, s1⟩, eq⟩ : ∃ r', giveNF r l s = r' := ⟨_, rfl⟩
  unfold dropU dropF Wd.drop
  rw [giveN_eq, eq]
  by_cases he : e = 0
  · subst he
    rw [bnd_ok eq]
    simp [giveU]
  · rw [bnd_er eq he]; simp [he]
end Go.Proofs.Ytbdekpccddmehaa
