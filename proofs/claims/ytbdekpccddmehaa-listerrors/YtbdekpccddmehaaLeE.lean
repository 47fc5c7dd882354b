
/- The call of a step, failing at one access (layer 21), pure. No statement of the seat is proved here. -/
import Derived.Test.YtbdekpccddmehaaLeD
namespace Go.Proofs.Ytbdekpccddmehaa
open Go.RowKit

section
variable {s : Wd} {k : Nat}
theorem ex_wayS (hf : s.f < 0) (hc : Cn s k) (hl : s.W.length ≤ 1000000) (hk : k + 2000002 < TOP) (pass : List Sp → Sp → Bool) (l : Int) : Ex (wayS pass l) (Sp.zero, []) s k 2000002 :=
  ex_way pass FU Sp.zero (ld l) [] s k hf hc hl (by simpa using hk) (Ris.nil _)
theorem ex_seek (hf : s.f < 0) (hc : Cn s k) (hl : s.W.length ≤ 1000000) (hk : k + 2000002 < TOP) (l key : Int) : Ex (seekF l key) Sp.zero s k 2000002 :=
  ex_bnd (B1 := 2000002) (B2 := 0) (ex_wayS hf hc hl hk _ l) (fun _ _ _ _ _ hc' _ _ => ex_rtn _ _ hc' 0)
theorem ex_has (hf : s.f < 0) (hc : Cn s k) (hl : s.W.length ≤ 1000000) (hk : k + 2000002 < TOP) (l key : Int) : Ex (hasF l key) false s k 2000002 :=
  ex_bnd (B1 := 2000002) (B2 := 0) (ex_seek hf hc hl hk l key) (fun _ _ _ _ _ hc' _ _ => ex_rtn _ _ hc' 0)
theorem ex_above (hf : s.f < 0) (hc : Cn s k) (hl : s.W.length ≤ 1000000) (hk : k + 2000002 < TOP) (pass : List Sp → Sp → Bool) (l : Int) : Ex (aboveF pass l) (0, false) s k 2000002 :=
  ex_bnd (B1 := 2000002) (B2 := 0) (ex_wayS hf hc hl hk pass l) (fun _ _ _ _ _ hc' _ _ => ex_rtn _ _ hc' 0)
theorem ex_all (hf : s.f < 0) (hc : Cn s k) (hl : s.W.length ≤ 1000000) (hk : k + 2000003 < TOP) (l : Int) : Ex (allF l) [] s k 2000003 := by
  refine ex_bnd (B1 := 1) (B2 := 2000002) (ex_get hf hc (by unfold TOP at hk; omega) l) (fun x k' _ h1 h2 hc' hf' hl' => ?_)
  refine ex_bnd (B1 := 2000002) (B2 := 0) (ex_wayS (by rw [hf']; exact hf) hc' (by rw [hl']; exact hl) (by omega) _ l) (fun q k'' _ _ _ hc'' _ _ => ?_)
  split
  · exact ex_err _ _ hc'' 0
  · exact ex_rtn _ _ hc'' 0
theorem ex_keys (hf : s.f < 0) (hc : Cn s k) (hl : s.W.length ≤ 1000000) (hk : k + 2000003 < TOP) (l : Int) : Ex (keysF l) [] s k 2000003 :=
  ex_bnd (B1 := 2000003) (B2 := 0) (ex_all hf hc hl hk l) (fun _ _ _ _ _ hc' _ _ => ex_rtn _ _ hc' 0)
theorem ex_ins (hf : s.f < 0) (hc : Cn s k) (hl : s.W.length ≤ 1000000) (hk : k + 2000011 < TOP) (r l key : Int) : Ex (insF r l key) false s k 2000011 := by
  refine ex_bnd (B1 := 2000002) (B2 := 9) (ex_seek hf hc hl (by omega) l key) (fun t k' _ h1 h2 hc' hf' _ => ?_)
  split
  · exact ex_rtn _ _ hc' 9
  · refine ex_bnd (B1 := 4) (B2 := 5) (ex_take (by rw [hf']; exact hf) hc' (by omega) r) (fun x k2 _ h3 h4 hc2 hf2 _ => ?_)
    refine ex_bnd (B1 := 3) (B2 := 2) (ex_hang (by rw [hf2, hf']; exact hf) hc2 (by omega) t x key) (fun _ k3 _ h5 h6 hc3 hf3 _ => ?_)
    exact ex_bnd (B1 := 2) (B2 := 0) (ex_recount (by rw [hf3, hf2, hf']; exact hf) hc3 (by omega) l 1) (fun _ _ _ _ _ hc4 _ _ => ex_rtn _ _ hc4 0)
theorem ex_rem (hf : s.f < 0) (hc : Cn s k) (hl : s.W.length ≤ 1000000) (hk : k + 2000009 < TOP) (r l key : Int) : Ex (remF r l key) false s k 2000009 := by
  refine ex_bnd (B1 := 2000002) (B2 := 7) (ex_seek hf hc hl (by omega) l key) (fun t k' _ h1 h2 hc' hf' _ => ?_)
  split
  · exact ex_rtn _ _ hc' 7
  · refine ex_bnd (B1 := 2) (B2 := 5) (ex_unhang (by rw [hf']; exact hf) hc' (by omega) t) (fun _ k2 _ h3 h4 hc2 hf2 _ => ?_)
    refine ex_bnd (B1 := 2) (B2 := 3) (ex_recount (by rw [hf2, hf']; exact hf) hc2 (by omega) l _) (fun _ k3 _ h5 h6 hc3 hf3 _ => ?_)
    exact ex_bnd (B1 := 3) (B2 := 0) (ex_give (by rw [hf3, hf2, hf']; exact hf) hc3 (by omega) r t.nd) (fun _ _ _ _ _ hc4 _ _ => ex_rtn _ _ hc4 0)
end
theorem ex_gives (r : Int) : ∀ (L : List Sp) (s : Wd) (k : Nat), s.f < 0 → Cn s k → k + 3 * L.length < TOP → Ex (givesF r L) () s k (3 * L.length)
  | [], s, k, hf, hc, hk => ex_rtn _ _ hc _
  | t :: L, s, k, hf, hc, hk => by
    have q : 3 * (t :: L).length = 3 + 3 * L.length := by simp; omega
    rw [q] at hk ⊢
    exact ex_bnd (ex_give hf hc (by omega) r t.nd) (fun _ k' _ h1 h2 hc' hf' _ => ex_gives r L _ k' (by rw [hf']; exact hf) hc' (by omega))
section
variable {s : Wd} {k : Nat}
theorem ex_giveN (ok : s.Ok) (hf : s.f < 0) (hc : Cn s k) (hk : k + 5000003 < TOP) (r l : Int) : Ex (giveNF r l) 0 s k 5000003 := by
  refine ex_bnd (B1 := 2000003) (B2 := 3000000) (ex_all hf hc ok.2 (by omega) l) (fun L k' he h1 h2 hc' hf' _ => ?_)
  have hL : L.length ≤ 1000000 := by
    obtain ⟨⟨⟨L', e⟩, s1⟩, eq⟩ : ∃ r, s.all l = r := ⟨_, rfl⟩
    have q := all_len ok (.inr hf) eq
    rw [← all_eq, eq] at he
    simp only [Prod.mk.injEq] at he
    rw [← he.1]; exact q
  refine ex_mono (ex_bnd (B1 := 3 * L.length) (B2 := 0) (ex_gives r L _ k' (by rw [hf']; exact hf) hc' (by omega)) (fun _ _ _ _ _ hc'' _ _ => ex_rtn _ _ hc'' 0)) (by omega)
theorem ex_clear (ok : s.Ok) (hf : s.f < 0) (hc : Cn s k) (hk : k + 5000005 < TOP) (r l : Int) : Ex (clearF r l) 0 s k 5000005 := by
  refine ex_bnd (B1 := 5000003) (B2 := 2) (ex_giveN ok hf hc (by omega) r l) (fun x k' _ h1 h2 hc' hf' _ => ?_)
  split
  · exact ex_rtn _ _ hc' 2
  · exact ex_bnd (B1 := 2) (B2 := 0) (ex_empty (by rw [hf']; exact hf) hc' (by omega) l) (fun _ _ _ _ _ hc'' _ _ => ex_rtn _ _ hc'' 0)
theorem ex_drop (ok : s.Ok) (hf : s.f < 0) (hc : Cn s k) (hk : k + 5000006 < TOP) (r l : Int) : Ex (dropF r l) () s k 5000006 :=
  ex_bnd (B1 := 5000003) (B2 := 3) (ex_giveN ok hf hc (by omega) r l) (fun _ k' _ h1 h2 hc' hf' _ => ex_give (by rw [hf']; exact hf) hc' (by omega) r l)
end
/-- A reply's parts. -/
abbrev Rt := Int × Bool × List Int
def rt0 : Rt := (0, false, [])
def callF (r l kind key : Int) : Wd → (Rt × Int) × Wd := fun s => ((((s.call r l kind key).1.w, (s.call r l kind key).1.h, (s.call r l kind key).1.L), (s.call r l kind key).1.e), (s.call r l kind key).2)
/-- A call whose answer is a part of the reply. -/
theorem part_eq {α : Type} {F : Wd → (α × Int) × Wd} {d : α} (hd : Df F d) (g : α → Rt) (hg : g d = rt0) (s : Wd) : ((g (F s).1.1, (F s).1.2), (F s).2) = bnd F (fun x => rtn (g x)) rt0 s := by
  by_cases he : (F s).1.2 = 0
  · have e : bnd F (fun x => rtn (g x)) rt0 s = rtn (g (F s).1.1) (F s).2 := if_neg (fun q => q he)
    rw [e, he]
    rfl
  · have e : bnd F (fun x => rtn (g x)) rt0 s = ((rt0, (F s).1.2), (F s).2) := if_pos he
    rw [e, hd s he, hg]
theorem ex_part {α : Type} {F : Wd → (α × Int) × Wd} {d : α} (hd : Df F d) (g : α → Rt) (hg : g d = rt0) {s : Wd} {k B : Nat} (h : Ex F d s k B) : Ex (fun s => ((g (F s).1.1, (F s).1.2), (F s).2)) rt0 s k B := by
  refine ex_eq (part_eq hd g hg) ?_
  exact ex_bnd (B1 := B) (B2 := 0) h (fun _ _ _ _ _ hc' _ _ => ex_rtn _ _ hc' 0)
theorem df_ite {α : Type} {c : Prop} [Decidable c] {F G : Wd → (α × Int) × Wd} {d : α} (h1 : Df F d) (h2 : Df G d) : Df (if c then F else G) d := by
  split
  · exact h1
  · exact h2
theorem ex_call {s : Wd} {k : Nat} (ok : s.Ok) (hf : s.f < 0) (hc : Cn s k) (hk : k + 5000012 < TOP) (r l kind key : Int) : Ex (callF r l kind key) rt0 s k 5000012 := by
  by_cases h1 : kind = 1
  · subst h1
    refine ex_eq (G := fun s => (((fun x : Bool => ((0, x, []) : Rt)) (insF r l key s).1.1, (insF r l key s).1.2), (insF r l key s).2)) (fun s => ?_) ?_
    · unfold callF Wd.call; simp [ins_eq]
    · exact ex_mono (B := 2000011) (ex_part (F := insF r l key) (d := false) (df_bnd fun _ => df_ite (df_rtn _ _) (df_bnd fun _ => df_bnd fun _ => df_bnd fun _ => df_rtn _ _)) (fun x : Bool => ((0, x, []) : Rt)) rfl (ex_ins hf hc ok.2 (by omega) r l key)) (by omega)
  · by_cases h2 : kind = 2
    · subst h2
      refine ex_eq (G := fun s => (((fun x : Bool => ((0, x, []) : Rt)) (remF r l key s).1.1, (remF r l key s).1.2), (remF r l key s).2)) (fun s => ?_) ?_
      · unfold callF Wd.call; simp [rem_eq]
      · exact ex_mono (B := 2000009) (ex_part (F := remF r l key) (d := false) (df_bnd fun _ => df_ite (df_rtn _ _) (df_bnd fun _ => df_bnd fun _ => df_bnd fun _ => df_rtn _ _)) (fun x : Bool => ((0, x, []) : Rt)) rfl (ex_rem hf hc ok.2 (by omega) r l key)) (by omega)
    · by_cases h3 : kind = 3
      · subst h3
        refine ex_eq (G := fun s => (((fun x : Bool => ((0, x, []) : Rt)) (hasF l key s).1.1, (hasF l key s).1.2), (hasF l key s).2)) (fun s => ?_) ?_
        · unfold callF Wd.call; simp [has_eq]
        · exact ex_mono (B := 2000002) (ex_part (F := hasF l key) (d := false) (df_bnd fun _ => df_rtn _ _) (fun x : Bool => ((0, x, []) : Rt)) rfl (ex_has hf hc ok.2 (by omega) l key)) (by omega)
      · by_cases h4 : kind = 4
        · subst h4
          refine ex_eq (G := fun s => (((fun x : Int => ((x, false, []) : Rt)) (s.len l).1.1, (s.len l).1.2), (s.len l).2)) (fun s => ?_) ?_
          · unfold callF Wd.call; simp
          · refine ex_mono (B := 1) (ex_part (F := fun s => s.len l) (d := 0) ?_ (fun x : Int => ((x, false, []) : Rt)) rfl (ex_len hf hc (by omega) l)) (by omega)
            refine df_eq (G := bnd (fun s => s.get l) (fun x => rtn x) 0) (fun s => ?_) (df_bnd fun _ => df_rtn _ _)
            unfold Wd.len bnd rtn
            simp only [ne_eq]
        · by_cases h5 : kind = 5
          · subst h5
            refine ex_eq (G := fun s => (((fun x : Int × Bool => ((x.1, x.2, []) : Rt)) (aboveF (pLe key) l s).1.1, (aboveF (pLe key) l s).1.2), (aboveF (pLe key) l s).2)) (fun s => ?_) ?_
            · rw [← above_eq]; unfold callF Wd.call Wd.above; simp
            · exact ex_mono (B := 2000002) (ex_part (F := aboveF (pLe key) l) (d := (0, false)) (df_bnd fun _ => df_rtn _ _) (fun x : Int × Bool => ((x.1, x.2, []) : Rt)) rfl (ex_above hf hc ok.2 (by omega) _ l)) (by omega)
          · by_cases h6 : kind = 6
            · subst h6
              refine ex_eq (G := fun s => (((fun x : Int × Bool => ((x.1, x.2, []) : Rt)) (aboveF pNo l s).1.1, (aboveF pNo l s).1.2), (aboveF pNo l s).2)) (fun s => ?_) ?_
              · rw [← above_eq]; unfold callF Wd.call Wd.first; simp
              · exact ex_mono (B := 2000002) (ex_part (F := aboveF pNo l) (d := (0, false)) (df_bnd fun _ => df_rtn _ _) (fun x : Int × Bool => ((x.1, x.2, []) : Rt)) rfl (ex_above hf hc ok.2 (by omega) _ l)) (by omega)
            · by_cases h7 : kind = 7
              · subst h7
                refine ex_eq (G := fun s => (((fun x : List Int => ((0, false, x) : Rt)) (keysF l s).1.1, (keysF l s).1.2), (keysF l s).2)) (fun s => ?_) ?_
                · unfold callF Wd.call; simp [keys_eq]
                · exact ex_mono (B := 2000003) (ex_part (F := keysF l) (d := []) (df_bnd fun _ => df_rtn _ _) (fun x : List Int => ((0, false, x) : Rt)) rfl (ex_keys hf hc ok.2 (by omega) l)) (by omega)
              · by_cases h8 : kind = 8
                · subst h8
                  refine ex_eq (G := fun s => (((fun x : Int => ((x, false, []) : Rt)) (clearF r l s).1.1, (clearF r l s).1.2), (clearF r l s).2)) (fun s => ?_) ?_
                  · unfold callF Wd.call; simp [clear_eq]
                  · exact ex_mono (B := 5000005) (ex_part (F := clearF r l) (d := 0) (df_bnd fun _ => df_ite (df_rtn _ _) (df_bnd fun _ => df_rtn _ _)) (fun x : Int => ((x, false, []) : Rt)) rfl (ex_clear ok hf hc (by omega) r l)) (by omega)
                · by_cases h9 : kind = 9
                  · subst h9
                    refine ex_eq (G := bnd (dropF r l) (fun _ => (fun s => (((fun x : Int => ((x, false, []) : Rt)) (s.new r).1.1, (s.new r).1.2), (s.new r).2))) rt0) (fun s => ?_) ?_
                    · unfold bnd
                      rw [← drop_eq]
                      unfold callF Wd.call dropU
                      by_cases he : (s.drop r l).1 = 0
                      · simp [he]
                      · simp [he, rt0]
                    · refine ex_mono (B := 5000006 + 6) (ex_bnd (B1 := 5000006) (B2 := 6) (ex_drop ok hf hc (by omega) r l) (fun _ k' _ h1 h2 hc' hf' _ => ?_)) (by omega)
                      refine ex_part (F := fun s => s.new r) (d := 0) ?_ (fun x : Int => ((x, false, []) : Rt)) rfl (ex_new (by rw [hf']; exact hf) hc' (by omega) r)
                      refine df_eq (G := bnd (fun s => s.take r 2) (fun x => bnd (emptyU x) (fun _ => rtn x) 0) 0) (fun s => ?_) (df_bnd fun _ => df_bnd fun _ => df_rtn _ _)
                      unfold Wd.new bnd emptyU rtn
                      simp only [ne_eq]
                  · refine ex_eq (G := rtn rt0) (fun s => ?_) (ex_rtn _ _ hc _)
                    unfold callF Wd.call rtn rt0
                    simp [h1, h2, h3, h4, h5, h6, h7, h8, h9]
end Go.Proofs.Ytbdekpccddmehaa
