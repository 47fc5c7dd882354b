
/- Rank's calls, failing at one access (layer 24), pure. No statement of the seat is proved here. -/
import Derived.Test.YtalopkllldnipaaRoM
namespace Go.Proofs.Ytalopkllldnipaa
open Go.RowKit

theorem may5 : mayN 5 := by unfold mayN; decide
theorem may2 : mayN 2 := by unfold mayN; decide
section
variable {s : Wd} {k : Nat}
theorem ex_turn0 (s : Wd) (k : Nat) (_ : s.f < 0) (hc : Cn s k) (_ : k + 0 < TOP) : Ex turn0 0 s k 0 := ex_rtn _ _ hc 0
theorem ex_lay (r : Int) (l : List Int) (hl : l.length = 5) (s : Wd) (k : Nat) (hf : s.f < 0) (hc : Cn s k) (hk : k + 9 < TOP) : Ex (layF r l) 0 s k 9 := by
  refine ex_bnd (B1 := 4) (B2 := 5) (ex_take hf hc (by omega) r may5) (fun n k' _ h1 h2 hc' hf' _ => ?_)
  have q := ex_puts (by rw [hf']; exact hf) hc' n l (by rw [hl]; omega)
  rw [hl] at q
  exact ex_bnd (B1 := 5) (B2 := 0) q (fun _ _ _ _ _ hc'' _ _ => ex_rtn _ _ hc'' 0)
theorem ex_mld (hf : s.f < 0) (hc : Cn s k) (hk : k + 1418 < TOP) (a b : Int) : Ex (mldF a b) 0 s k 1418 := by
  unfold mldF
  split
  · exact ex_rtn _ _ hc _
  · split
    · exact ex_rtn _ _ hc _
    · refine ex_bnd (B1 := 5) (B2 := 1413) (ex_tre hf hc (by omega) a) (fun x k1 _ _ g1 hc1 hf1 _ => ?_)
      refine ex_bnd (B1 := 5) (B2 := 1408) (ex_tre (by rw [hf1]; exact hf) hc1 (by omega) b) (fun y k2 _ _ g2 hc2 hf2 _ => ?_)
      exact ex_bnd (B1 := 1408) (B2 := 0) (ex_uni turn0 0 ex_turn0 128 x y _ k2 (by rw [hf2, hf1]; exact hf) hc2 (by omega)) (fun _ _ _ _ _ hc3 _ _ => ex_rtn _ _ hc3 0)
theorem ex_hep (hf : s.f < 0) (hc : Cn s k) (hk : k + 2 < TOP) (h : Int) : Ex (hepF h) (0, 0) s k 2 := by
  refine ex_bnd (B1 := 2) (B2 := 0) (ex_gets hf hc h 2 hk) (fun l k1 _ _ _ hc1 _ _ => ?_)
  split
  · exact ex_err _ _ hc1 0
  · exact ex_rtn _ _ hc1 0
theorem ex_bec (hf : s.f < 0) (hc : Cn s k) (hk : k + 2 < TOP) (h : Int) (had : Int × Int) (n r : Int) : Ex (becU h had n r) () s k 2 := ex_chg hf hc h [had.1, had.2] [n, r] hk
theorem ex_fol (hf : s.f < 0) (hc : Cn s k) (hk : k + 5 < TOP) (n : Int) (p : Option Tr) (x : Int) (F : List Tr) : Ex (folF n p x F) none s k 5 := by
  unfold folF
  split
  · exact ex_rtn _ _ hc 5
  · split
    · exact ex_err _ _ hc 5
    · refine ex_bnd (B1 := 5) (B2 := 0) (ex_tre hf hc hk x) (fun q k1 _ _ _ hc1 _ _ => ?_)
      cases q with
      | none => exact ex_err _ _ hc1 0
      | some t =>
        show Ex (if reK (oat t.c 0) = true ∧ (∀ u, p = some u → ¬ befE t.ent u.ent) then rtn (some t) else err none 340) none _ k1 0
        split
        · exact ex_rtn _ _ hc1 0
        · exact ex_err _ _ hc1 0
theorem ex_chi (hf : s.f < 0) (hc : Cn s k) (hk : k + 10 < TOP) (n : Int) (t : Tr) (F : List Tr) : Ex (chiF n t F) [] s k 10 := by
  refine ex_bnd (B1 := 5) (B2 := 5) (ex_fol hf hc (by omega) n (some t) _ F) (fun l k1 _ _ g1 hc1 hf1 _ => ?_)
  refine ex_bnd (B1 := 5) (B2 := 0) (ex_fol (by rw [hf1]; exact hf) hc1 (by omega) n (some t) _ _) (fun r k2 _ _ _ hc2 _ _ => ?_)
  split
  · exact ex_err _ _ hc2 0
  · exact ex_rtn _ _ hc2 0
end
theorem ex_wlk (n : Int) : ∀ (j i : Nat) (F : List Tr) (s : Wd) (k : Nat), s.f < 0 → Cn s k → k + 10 * j < TOP → Ex (wlkF n j i F) [] s k (10 * j) := by
  intro j
  induction j with
  | zero => intro i F s k hf hc hk; exact ex_err _ _ hc _
  | succ j ih =>
    intro i F s k hf hc hk
    unfold wlkF
    cases h : F[i]? with
    | none => exact ex_rtn _ _ hc _
    | some t =>
      exact ex_mono (ex_bnd (B1 := 10) (B2 := 10 * j) (ex_chi hf hc (by omega) n t F) (fun F1 k1 _ _ _ hc1 hf1 _ => ih _ F1 _ k1 (by rw [hf1]; exact hf) hc1 (by omega))) (by omega)
def BA : Nat := 21474836500
section
variable {s : Wd} {k : Nat}
theorem ex_allF (hf : s.f < 0) (hc : Cn s k) (hk : k + BA < TOP) (h : Int) : Ex (allF h) [] s k BA := by
  unfold BA at hk ⊢
  refine ex_bnd (B1 := 2) (B2 := 21474836498) (ex_hep hf hc (by omega) h) (fun p k1 _ _ g1 hc1 hf1 _ => ?_)
  split
  · exact ex_err _ _ hc1 _
  · refine ex_bnd (B1 := 5) (B2 := 21474836493) (ex_fol (by rw [hf1]; exact hf) hc1 (by omega) p.1 none p.2 []) (fun r k2 _ _ g2 hc2 hf2 _ => ?_)
    refine ex_mono (ex_bnd (B1 := 10 * 2147483649) (B2 := 0) (ex_wlk p.1 2147483649 0 r.toList _ k2 (by rw [hf2, hf1]; exact hf) hc2 (by omega)) (fun F k3 _ _ _ hc3 _ _ => ?_)) (by omega)
    split
    · exact ex_err _ _ hc3 0
    · exact ex_rtn _ _ hc3 0
theorem allF_few {h : Int} {F : List Tr} {s s1 : Wd} (e : allF h s = ((F, 0), s1)) : F.length ≤ 2147483647 := by
  obtain ⟨⟨⟨p, f⟩, s2⟩, e2⟩ : ∃ r, hepF h s = r := ⟨_, rfl⟩
  unfold allF at e
  by_cases hf : f = 0
  · subst hf
    rw [bnd_ok e2] at e
    split at e
    · unfold err at e; simp at e
    · rename_i hp
      obtain ⟨⟨⟨r, f3⟩, s3⟩, e3⟩ : ∃ q, folF p.1 none p.2 [] s2 = q := ⟨_, rfl⟩
      by_cases hf3 : f3 = 0
      · subst hf3
        rw [bnd_ok e3] at e
        obtain ⟨⟨⟨F4, f4⟩, s4⟩, e4⟩ : ∃ q, wlkF p.1 2147483649 0 r.toList s3 = q := ⟨_, rfl⟩
        by_cases hf4 : f4 = 0
        · subst hf4
          rw [bnd_ok e4] at e
          split at e
          · unfold err at e; simp at e
          · rename_i hl
            unfold rtn at e
            simp only [Prod.mk.injEq] at e
            rw [← e.1.1]
            omega
        · rw [bnd_no e4 hf4] at e
          simp only [Prod.mk.injEq] at e
          exact absurd e.1.2 hf4
      · rw [bnd_no e3 hf3] at e
        simp only [Prod.mk.injEq] at e
        exact absurd e.1.2 hf3
  · rw [bnd_no e2 hf] at e
    simp only [Prod.mk.injEq] at e
    exact absurd e.1.2 hf
end
theorem ex_gives (r : Int) : ∀ (L : List Int) (s : Wd) (k : Nat), s.f < 0 → Cn s k → k + 3 * L.length < TOP → Ex (givesU r L) () s k (3 * L.length)
  | [], s, k, hf, hc, hk => ex_rtn _ _ hc _
  | a :: L, s, k, hf, hc, hk => by
    have q : 3 * (a :: L).length = 3 + 3 * L.length := by simp; omega
    rw [q] at hk ⊢
    exact ex_bnd (ex_give hf hc (by omega) r a may5) (fun _ k' _ h1 h2 hc' hf' _ => ex_gives r L _ k' (by rw [hf']; exact hf) hc' (by omega))
def BC : Nat := 30000000000
section
variable {s : Wd} {k : Nat}
theorem ex_rpush (hf : s.f < 0) (hc : Cn s k) (hk : k + 1426 < TOP) (r h q x : Int) : Ex (Wd.rpush r h q x) () s k 1426 := by
  refine ex_bnd (B1 := 2) (B2 := 1424) (ex_hep hf hc (by omega) h) (fun p k1 _ _ g1 hc1 hf1 _ => ?_)
  refine ex_bnd (B1 := 5) (B2 := 1419) (ex_tre (by rw [hf1]; exact hf) hc1 (by omega) _) (fun t k2 _ _ g2 hc2 hf2 _ => ?_)
  refine ex_bnd (B1 := 1417) (B2 := 2) (ex_uni _ 9 (ex_lay r (lef q x).c rfl) 128 t _ _ k2 (by rw [hf2, hf1]; exact hf) hc2 (by omega)) (fun u k3 _ _ g3 hc3 hf3 _ => ?_)
  exact ex_bec (by rw [hf3, hf2, hf1]; exact hf) hc3 (by omega) _ _ _ _
theorem ex_rpop (hf : s.f < 0) (hc : Cn s k) (hk : k + 1430 < TOP) (r h : Int) : Ex (Wd.rpop r h) none s k 1430 := by
  refine ex_bnd (B1 := 2) (B2 := 1428) (ex_hep hf hc (by omega) h) (fun p k1 _ _ g1 hc1 hf1 _ => ?_)
  split
  · exact ex_rtn _ _ hc1 _
  · refine ex_bnd (B1 := 5) (B2 := 1423) (ex_tre (by rw [hf1]; exact hf) hc1 (by omega) _) (fun q k2 _ _ g2 hc2 hf2 _ => ?_)
    cases q with
    | none => exact ex_err _ _ hc2 _
    | some t =>
      show Ex (if reK (oat t.c 0) = true then bnd (mldF (oat t.c 2) (oat t.c 3)) (fun top => bnd (becU h p (uw (p.1 - 1)) top) (fun _ => bnd (giveU r t.at_ 5) (fun _ => rtn (some t.ent)) none) none) none else err none 340) none _ k2 1423
      split
      · refine ex_bnd (B1 := 1418) (B2 := 5) (ex_mld (by rw [hf2, hf1]; exact hf) hc2 (by omega) _ _) (fun z k3 _ _ g3 hc3 hf3 _ => ?_)
        refine ex_bnd (B1 := 2) (B2 := 3) (ex_bec (by rw [hf3, hf2, hf1]; exact hf) hc3 (by omega) _ _ _ _) (fun _ k4 _ _ g4 hc4 hf4 _ => ?_)
        exact ex_bnd (B1 := 3) (B2 := 0) (ex_give (by rw [hf4, hf3, hf2, hf1]; exact hf) hc4 (by omega) r _ may5) (fun _ _ _ _ _ hc5 _ _ => ex_rtn _ _ hc5 0)
      · exact ex_err _ _ hc2 _
theorem ex_rfirst (hf : s.f < 0) (hc : Cn s k) (hk : k + 3 < TOP) (h : Int) : Ex (Wd.rfirst h) none s k 3 := by
  refine ex_bnd (B1 := 1) (B2 := 2) (ex_get hf hc (by unfold TOP at hk; omega) _) (fun x k1 _ _ g1 hc1 hf1 _ => ?_)
  split
  · exact ex_rtn _ _ hc1 _
  · refine ex_bnd (B1 := 2) (B2 := 0) (ex_gets (by rw [hf1]; exact hf) hc1 _ 2 (by omega)) (fun l k2 _ _ _ hc2 _ _ => ?_)
    split
    · exact ex_rtn _ _ hc2 0
    · exact ex_err _ _ hc2 0
theorem ex_rlen (hf : s.f < 0) (hc : Cn s k) (hk : k + 1 < TOP) (h : Int) : Ex (Wd.rlen h) 0 s k 1 :=
  ex_bnd (B1 := 1) (B2 := 0) (ex_get hf hc (by unfold TOP at hk; omega) _) (fun _ _ _ _ _ hc1 _ _ => ex_rtn _ _ hc1 0)
theorem ex_rjoin (hf : s.f < 0) (hc : Cn s k) (hk : k + 1426 < TOP) (h o : Int) : Ex (Wd.rjoin h o) () s k 1426 := by
  unfold Wd.rjoin
  split
  · exact ex_err _ _ hc _
  · refine ex_bnd (B1 := 2) (B2 := 1424) (ex_hep hf hc (by omega) h) (fun m k1 _ _ g1 hc1 hf1 _ => ?_)
    refine ex_bnd (B1 := 2) (B2 := 1422) (ex_hep (by rw [hf1]; exact hf) hc1 (by omega) o) (fun t k2 _ _ g2 hc2 hf2 _ => ?_)
    refine ex_bnd (B1 := 1418) (B2 := 4) (ex_mld (by rw [hf2, hf1]; exact hf) hc2 (by omega) _ _) (fun z k3 _ _ g3 hc3 hf3 _ => ?_)
    exact ex_bnd (B1 := 2) (B2 := 2) (ex_bec (by rw [hf3, hf2, hf1]; exact hf) hc3 (by omega) _ _ _ _) (fun _ k4 _ _ g4 hc4 hf4 _ => ex_bec (by rw [hf4, hf3, hf2, hf1]; exact hf) hc4 (by omega) _ _ _ _)
theorem ex_rall (hf : s.f < 0) (hc : Cn s k) (hk : k + BA < TOP) (h : Int) : Ex (Wd.rall h) [] s k BA :=
  ex_bnd (B1 := BA) (B2 := 0) (ex_allF hf hc hk h) (fun _ _ _ _ _ hc1 _ _ => ex_rtn _ _ hc1 0)
theorem ex_rclear (hf : s.f < 0) (hc : Cn s k) (hk : k + BC < TOP) (r h : Int) : Ex (Wd.rclear r h) 0 s k BC := by
  unfold BC at hk ⊢
  refine ex_bnd (B1 := BA) (B2 := 8525163500) (ex_allF hf hc (by unfold BA; omega) h) (fun F k1 he _ g1 hc1 hf1 _ => ?_)
  have hF : F.length ≤ 2147483647 := allF_few (s := s) (s1 := (allF h s).2) (h := h) (Prod.ext he rfl)
  unfold BA at g1
  refine ex_mono (ex_bnd (B1 := 3 * (F.map Tr.at_).length) (B2 := 2) (ex_gives r _ _ k1 (by rw [hf1]; exact hf) hc1 (by rw [List.length_map]; omega)) (fun _ k2 _ _ g2 hc2 hf2 _ => ?_)) (by rw [List.length_map]; omega)
  rw [List.length_map] at g2
  split
  · exact ex_rtn _ _ hc2 _
  · exact ex_bnd (B1 := 2) (B2 := 0) (ex_puts (by rw [hf2, hf1]; exact hf) hc2 h [0, 0] (by simp; omega)) (fun _ _ _ _ _ hc3 _ _ => ex_rtn _ _ hc3 0)
end
/-- A reply's parts. -/
abbrev Rt := Option (Int × Int) × Int × List (Int × Int)
def rt0 : Rt := (none, 0, [])
def mapR {α β : Type} (g : α → β) (F : Wd → (α × Int) × Wd) : Wd → (β × Int) × Wd := fun s => ((g (F s).1.1, (F s).1.2), (F s).2)
theorem ex_map {α β : Type} {F : Wd → (α × Int) × Wd} {d : α} {s : Wd} {k B : Nat} (h : Ex F d s k B) (g : α → β) : Ex (mapR g F) (g d) s k B := by
  obtain ⟨j, hj, n⟩ := h
  refine ⟨j, hj, n.cn, n.fc, n.len, fun m c hc h1 h2 => ?_, fun m c hc h1 => ?_⟩
  · have q := n.lo m c hc h1 h2
    exact ⟨by unfold mapR; rw [q.1], q.2⟩
  · have q := n.hi m c hc h1
    unfold mapR
    rw [q]
/-- The call of a step. -/
def callF (r h o kd bits wd : Int) : Wd → (Rt × Int) × Wd :=
  if kd = 1 then mapR (fun _ => rt0) (Wd.rpush r h (ofR bits.toNat) wd)
  else if kd = 2 then mapR (fun q => (q, 0, [])) (Wd.rpop r h)
  else if kd = 3 then mapR (fun q => (q, 0, [])) (Wd.rfirst h)
  else if kd = 4 then mapR (fun x => (none, x, [])) (Wd.rlen h)
  else if kd = 5 then mapR (fun l => (none, 0, l)) (Wd.rall h)
  else if kd = 6 then mapR (fun x => (none, x, [])) (Wd.rclear r h)
  else if kd = 7 then mapR (fun _ => rt0) (Wd.rjoin h o)
  else if kd = 8 then mapR (fun _ => rt0) (Wd.rjoin h h)
  else rtn rt0
theorem ex_call {s : Wd} {k : Nat} (hf : s.f < 0) (hc : Cn s k) (hk : k + BC < TOP) (r h o kd bits wd : Int) : Ex (callF r h o kd bits wd) rt0 s k BC := by
  have b1 : BA ≤ BC := by unfold BA BC; omega
  have b2 : 1430 ≤ BC := by unfold BC; omega
  unfold callF
  split
  · exact ex_mono (ex_map (ex_rpush hf hc (by omega) _ _ _ _) (fun _ => rt0)) (by omega)
  split
  · exact ex_mono (ex_map (ex_rpop hf hc (by omega) _ _) (fun q => ((q, 0, []) : Rt))) (by omega)
  split
  · exact ex_mono (ex_map (ex_rfirst hf hc (by omega) _) (fun q => ((q, 0, []) : Rt))) (by omega)
  split
  · exact ex_mono (ex_map (ex_rlen hf hc (by omega) _) (fun x => ((none, x, []) : Rt))) (by omega)
  split
  · exact ex_mono (ex_map (ex_rall hf hc (by omega) _) (fun l => ((none, 0, l) : Rt))) (by omega)
  split
  · exact ex_mono (ex_map (ex_rclear hf hc (by omega) _ _) (fun x => ((none, x, []) : Rt))) (by omega)
  split
  · exact ex_mono (ex_map (ex_rjoin hf hc (by omega) _ _) (fun _ => rt0)) (by omega)
  split
  · exact ex_mono (ex_map (ex_rjoin hf hc (by omega) _ _) (fun _ => rt0)) (by omega)
  · exact ex_rtn _ _ hc _
/-- A call, and how it fails at each of its accesses. -/
theorem fail_call (W : List Int) (r h o kd bits wd : Int) {R : Rt} {e : Int} {s1 : Wd} (heq : callF r h o kd bits wd ⟨W, 0, 0, -1, 0⟩ = ((R, e), s1)) :
    ∃ T : Nat, T ≤ BC ∧ Cn s1 T ∧ s1.W.length = W.length ∧ (∀ (n : Nat) (c : Int), c ≠ 0 → n < T → ∃ s2, callF r h o kd bits wd ⟨W, 0, 0, n, c⟩ = ((rt0, c), s2) ∧ Cn s2 (n + 1) ∧ s2.c = c) ∧ (∀ c : Int, c ≠ 0 → ∃ s2, callF r h o kd bits wd ⟨W, 0, 0, T, c⟩ = ((R, e), s2) ∧ s2.W = s1.W) := by
  obtain ⟨T, hT, q⟩ := ex_call (s := ⟨W, 0, 0, -1, 0⟩) (k := 0) (by show (-1 : Int) < 0; decide) ⟨Int.le_refl _, Int.le_refl _, rfl⟩ (by unfold TOP BC; omega) r h o kd bits wd
  refine ⟨T, hT, ?_, ?_, ?_, ?_⟩
  · have z := q.cn
    rw [heq, Nat.zero_add] at z
    exact z
  · have z := q.len
    rw [heq] at z
    exact z
  · intro n c hc hn
    have z := q.lo n c hc (Nat.zero_le _) (by omega)
    exact ⟨(callF r h o kd bits wd ⟨W, 0, 0, n, c⟩).2, Prod.ext z.1 rfl, z.2⟩
  · intro c hc
    have z := q.hi T c hc (by omega)
    have e2 : (Wd.fa ⟨W, 0, 0, -1, 0⟩ T c) = ⟨W, 0, 0, T, c⟩ := rfl
    rw [e2, heq] at z
    exact ⟨_, z, rfl⟩
end Go.Proofs.Ytalopkllldnipaa
