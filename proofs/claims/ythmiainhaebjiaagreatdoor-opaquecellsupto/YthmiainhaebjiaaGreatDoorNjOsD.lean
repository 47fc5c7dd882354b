import Derived.Test.YthmiainhaebjiaaGreatDoorNiOsC
import Derived.Test.YthmiainhaebjiaaGreatDoorM27OrH
import Derived.Test.YthmiainhaebjiaaGreatDoorM21OpZ

/- The cells that stood behind no number of commits, the document's way: pure (layer 16). No statement of the seat is proved here. -/
namespace Go.Proofs.YthmiainhaebjiaaGreatDoor
open Go.RowKit Go.Shelf

theorem insF_mem (p : Int × Int) : ∀ (cs l : List (Int × Int)), p ∈ cs.foldl insS l ↔ p ∈ l ∨ p ∈ cs
  | [], l => by simp
  | c :: cs, l => by
    rw [List.foldl_cons, insF_mem p cs, insS_mem, List.mem_cons]
    constructor
    · rintro ((h | h) | h)
      · exact .inl h
      · exact .inr (.inl h)
      · exact .inr (.inr h)
    · rintro (h | h | h)
      · exact .inl (.inl h)
      · exact .inl (.inr h)
      · exact .inr h
theorem insF_up : ∀ (cs l : List (Int × Int)), l.Pairwise (fun p q => ltP p q = true) → (cs.foldl insS l).Pairwise (fun p q => ltP p q = true)
  | [], _, h => h
  | c :: cs, l, h => by rw [List.foldl_cons]; exact insF_up cs _ (insS_up l c h)
theorem insF_len : ∀ (cs l : List (Int × Int)), (cs.foldl insS l).length ≤ l.length + cs.length
  | [], l => by simp
  | c :: cs, l => by
    have h1 := insF_len cs (insS l c)
    have h2 := insS_len l c
    rw [List.foldl_cons, List.length_cons]
    omega
theorem ltP_irr (p : Int × Int) : ltP p p = false := by
  unfold ltP
  rw [decide_eq_false_iff_not]
  omega
theorem ltP_as {p q : Int × Int} (h : ltP p q = true) : ltP q p = false := by
  unfold ltP at h ⊢
  rw [decide_eq_true_eq] at h
  rw [decide_eq_false_iff_not]
  omega
/-- Two lists that rise and hold the same are one. -/
theorem up_ext : ∀ (A B : List (Int × Int)), A.Pairwise (fun p q => ltP p q = true) → B.Pairwise (fun p q => ltP p q = true) → (∀ p, p ∈ A ↔ p ∈ B) → A = B
  | [], [], _, _, _ => rfl
  | [], b :: B, _, _, h => by have := (h b).2 List.mem_cons_self; simp at this
  | a :: A, [], _, _, h => by have := (h a).1 List.mem_cons_self; simp at this
  | a :: A, b :: B, hA, hB, h => by
    have hA2 := List.pairwise_cons.1 hA
    have hB2 := List.pairwise_cons.1 hB
    have hab : a = b := by
      rcases List.mem_cons.1 ((h a).1 List.mem_cons_self) with e | e
      · exact e
      · rcases List.mem_cons.1 ((h b).2 List.mem_cons_self) with e2 | e2
        · exact e2.symm
        · have h1 := hB2.1 a e
          have h2 := hA2.1 b e2
          rw [ltP_as h1] at h2
          cases h2
    subst hab
    rw [up_ext A B hA2.2 hB2.2 (fun p => ?_)]
    constructor
    · intro hp
      rcases List.mem_cons.1 ((h p).1 (List.mem_cons_of_mem _ hp)) with e | e
      · have := hA2.1 p hp
        rw [e, ltP_irr] at this
        cases this
      · exact e
    · intro hp
      rcases List.mem_cons.1 ((h p).2 (List.mem_cons_of_mem _ hp)) with e | e
      · have := hB2.1 p hp
        rw [e, ltP_irr] at this
        cases this
      · exact e
/-- What is sorted rises where each that is like the one ahead of it is left out. -/
theorem ddP_up {Z : List (Int × Int)} (hZ : Z.Pairwise (fun p q => p.1 < q.1 ∨ p.1 = q.1 ∧ p.2 ≤ q.2)) : ∀ m, m ≤ Z.length → (ddP Z m).Pairwise (fun p q => ltP p q = true)
  | 0, _ => by simp [ddP]
  | m + 1, hm => by
    have ih := ddP_up hZ m (by omega)
    have hlt : m < Z.length := by omega
    have hg := List.pairwise_iff_getElem.1 hZ
    rw [ddP]
    split
    · exact ih
    · rename_i hne
      rw [List.getElem?_eq_getElem hlt]
      refine List.pairwise_append.2 ⟨ih, by simp, fun p hp q hq => ?_⟩
      simp only [Option.toList_some, List.mem_singleton] at hq
      subst hq
      obtain ⟨j, hj, rfl⟩ := List.getElem_of_mem ((ddP_mem Z p m (by omega)).1 hp)
      rw [List.length_take] at hj
      have hjm : j < m := by omega
      rw [List.getElem_take]
      have h1 := hg (m - 1) m (by omega) hlt (by omega)
      have h2 : Z[m - 1]'(by omega) ≠ Z[m] := fun e => hne ⟨by omega, by rw [List.getElem?_eq_getElem hlt, List.getElem?_eq_getElem (by omega), e]⟩
      have h3 : ¬ ((Z[m - 1]'(by omega)).1 = (Z[m]).1 ∧ (Z[m - 1]'(by omega)).2 = (Z[m]).2) := fun e => h2 (Prod.ext e.1 e.2)
      unfold ltP
      rw [decide_eq_true_eq]
      by_cases hjj : j = m - 1
      · subst hjj
        omega
      · have h4 := hg j (m - 1) (by omega) (by omega) (by omega)
        omega
/-- The reads that stood behind no number of commits. -/
def nvE (F : List Int) (W : List Pt) (e : Ev) : Bool := decide (e.kd = 2) && !e.own && !((List.range (W.length + 1)).any fun n => stdL (stN F W n) [(e.ad, e.wd)])
def nvD (F : List Int) (W : List Pt) (L : List Ev) : List (Int × Int) := ((L.filter (nvE F W)).map fun e => (e.ad, e.wd)).foldl insS []
theorem nvD_succ (F : List Int) (W : List Pt) {L : List Ev} {k : Nat} (hk : k < L.length) : nvD F W (L.take (k + 1)) = if nvE F W (L[k]) = true then insS (nvD F W (L.take k)) ((L[k]).ad, (L[k]).wd) else nvD F W (L.take k) := by
  unfold nvD
  rw [List.take_succ_eq_append_getElem hk, List.filter_append]
  by_cases h : nvE F W (L[k]) = true
  · have e : List.filter (nvE F W) [L[k]] = [L[k]] := by simp [h]
    rw [if_pos h, e, List.map_append, List.foldl_append]
    rfl
  · have e : List.filter (nvE F W) [L[k]] = [] := by simp [h]
    rw [if_neg h, e, List.append_nil]
theorem nvD_len (F : List Int) (W : List Pt) (L : List Ev) : (nvD F W L).length ≤ L.length := by
  have h := insF_len ((L.filter (nvE F W)).map fun e => (e.ad, e.wd)) []
  rw [List.length_map] at h
  have := List.length_filter_le (nvE F W) L
  unfold nvD
  simp only [List.length_nil] at h
  omega
theorem nvE_iff (F : List Int) (W : List Pt) (e : Ev) : nvE F W e = true ↔ e.kd = 2 ∧ e.own = false ∧ ∀ m, m ≤ W.length → wdAt (stN F W m) e.ad ≠ e.wd := by
  unfold nvE stdL
  simp only [Bool.and_eq_true, decide_eq_true_eq, Bool.not_eq_true', List.any_eq_false, List.mem_range, List.all_cons, List.all_nil, Bool.and_true, and_assoc, ne_eq]
  constructor
  · rintro ⟨h1, h2, h3⟩
    exact ⟨h1, h2, fun m hm => h3 m (by omega)⟩
  · rintro ⟨h1, h2, h3⟩
    exact ⟨h1, h2, fun m hm => h3 m (by omega)⟩
/-- What was read and stood there behind no number of commits is among them. -/
theorem nev_back {F : List Int} {W : List Pt} {P : List Pt} {N Ys : List (Int × Int)} (h : NevOf F W P N Ys) (hS : SInv F (setN F W W.length) W.length (fun m => stN F W (min m.toNat W.length))) (hin : ∀ p ∈ P, ∀ r ∈ p.rs, 0 ≤ r.1 ∧ r.1 < (F.length : Int)) {r : Int × Int} (hr : ∃ p ∈ P, r ∈ p.rs) (hn : ∀ m, m ≤ W.length → wdAt (stN F W m) r.1 ≠ r.2) : r ∈ Ys := by
  obtain ⟨p, hp, hrp⟩ := hr
  obtain ⟨h0, h3⟩ := hin p hp r hrp
  refine h.pm.mem_iff.2 (List.mem_filter.2 ⟨List.mem_flatMap.2 ⟨p, hp, hrp⟩, ?_⟩)
  unfold nevB
  rw [Bool.and_eq_true, Bool.not_eq_true', decide_eq_false_iff_not, decide_eq_true_eq]
  refine ⟨fun hN => ?_, fun e => hn 0 (Nat.zero_le _) (by rw [e]; rfl)⟩
  obtain ⟨l, hs, n, hnl⟩ := (h.st r).1 hN
  have hc : crs F (setN F W W.length) r.1 = l := by unfold crs; rw [hs]; rfl
  have hcr := hS.cr r.1 h0 h3
  rw [hc] at hcr
  obtain ⟨i, hi, he⟩ := List.getElem_of_mem hnl
  have hle := hcr.le _ hnl
  dsimp only at hle
  have hv := hS.val r.1 h0 h3 n hle.1
  rw [hc, valF_at hcr.up hi (by rw [he]; exact Int.le_refl _) (fun h2 => by
    have := List.pairwise_iff_getElem.1 hcr.up i (i + 1) hi h2 (by omega)
    rw [he] at this
    exact this), he] at hv
  have h5 : n.toNat ≤ W.length := by omega
  rw [Nat.min_eq_left h5] at hv
  exact hn n.toNat h5 hv.symm
/-- The document's list is the program's list. -/
theorem nv_eq {F : List Int} {W : List Pt} {P : List Pt} {L : List Ev} {N Ys : List (Int × Int)} (h : NevOf F W P N Ys) (hS : SInv F (setN F W W.length) W.length (fun m => stN F W (min m.toNat W.length))) (hin : ∀ p ∈ P, ∀ r ∈ p.rs, 0 ≤ r.1 ∧ r.1 < (F.length : Int)) (hrd : ∀ r : Int × Int, (∃ p ∈ P, r ∈ p.rs) ↔ ∃ e ∈ L, e.kd = 2 ∧ e.own = false ∧ (e.ad, e.wd) = r) : nvD F W L = ddP Ys Ys.length := by
  refine up_ext _ _ (insF_up _ _ List.Pairwise.nil) (ddP_up h.up _ (Nat.le_refl _)) (fun r => ?_)
  rw [ddP_mem Ys r _ (Nat.le_refl _), List.take_length]
  unfold nvD
  rw [insF_mem]
  simp only [List.not_mem_nil, false_or, List.mem_map, List.mem_filter]
  constructor
  · rintro ⟨e, ⟨he, hn⟩, rfl⟩
    obtain ⟨h1, h2, h3⟩ := (nvE_iff F W e).1 hn
    exact nev_back h hS hin ((hrd _).2 ⟨e, he, h1, h2, rfl⟩) h3
  · intro hr
    obtain ⟨h1, h2⟩ := nev_stood h hS hin hr
    obtain ⟨e, he, h3, h4, rfl⟩ := (hrd r).1 h1
    exact ⟨e, ⟨he, (nvE_iff F W e).2 ⟨h3, h4, h2⟩⟩, rfl⟩
end Go.Proofs.YthmiainhaebjiaaGreatDoor

/- What the blocks of a history read are its reads from the cells: pure (layer 16). No statement of the seat is proved here. -/
namespace Go.Proofs.YthmiainhaebjiaaGreatDoor
open Go.RowKit Go.Shelf

theorem noteP_rd (p : Pt) (k : Int) (e : Ev) (r : Int × Int) : r ∈ (noteP p k e).rs ↔ r ∈ p.rs ∨ (e.kd = 2 ∧ e.own = false ∧ (e.ad, e.wd) = r) := by
  by_cases h2 : e.kd = 2
  · unfold noteP
    rw [if_neg (by omega), if_pos h2]
    cases ho : e.own with
    | true => simp
    | false =>
      simp only [Bool.false_eq_true, if_false, List.mem_append, List.mem_singleton, h2, true_and]
      constructor
      · rintro (h | h)
        · exact .inl h
        · exact .inr h.symm
      · rintro (h | h)
        · exact .inl h
        · exact .inr h.symm
  · have : (noteP p k e).rs = p.rs := by
      unfold noteP; (repeat' split) <;> first | rfl | omega
    rw [this]
    constructor
    · exact .inl
    · rintro (h | h)
      · exact h
      · exact absurd h.1 h2
theorem rd_step {S : St} {T : Wt} {k : Nat} {e : Ev} (hO : POpen S T) (hL : LInv S T) (he : errE S e = 0) (r : Int × Int) : (∃ p ∈ (stepW T k e).l, r ∈ p.rs) ↔ (∃ p ∈ T.l, r ∈ p.rs) ∨ (e.kd = 2 ∧ e.own = false ∧ (e.ad, e.wd) = r) := by
  obtain ⟨hf, ht⟩ := err_turn he
  obtain ⟨f0, f1, f2, f3⟩ := formed_in hf
  unfold stepW openW
  by_cases k1 : e.kd = 1
  · rw [if_pos k1]
    unfold markW
    simp only [if_true]
    have hg : ((T.l ++ [freshP e.th k])[T.l.length]?).getD pt0 = freshP e.th k := by simp
    simp only [hg]
    rw [List.set_append_right _ _ (Nat.le_refl _), Nat.sub_self, List.set_cons_zero]
    constructor
    · rintro ⟨p, hp, hr⟩
      rcases List.mem_append.1 hp with q | q
      · exact .inl ⟨p, q, hr⟩
      · rw [List.mem_singleton] at q
        subst q
        rcases (noteP_rd _ _ _ _).1 hr with c | c
        · simp [freshP] at c
        · exact .inr c
    · rintro (⟨p, hp, hr⟩ | c)
      · exact ⟨p, List.mem_append.2 (.inl hp), hr⟩
      · omega
  · rw [if_neg k1]
    unfold markW
    cases hto : T.o e.th with
    | none =>
      constructor
      · exact .inl
      · rintro (h | h)
        · exact h
        · have hs : (S.sd e.th.toNat).st = 2 := by
            unfold turnN at ht
            by_cases q1 : (S.sd e.th.toNat).st = 1
            · rw [if_pos q1] at ht; exact absurd (by (repeat' split) <;> omega) ht
            · rw [if_neg q1] at ht
              by_cases q2 : (S.sd e.th.toNat).st = 2
              · exact q2
              · rw [if_neg q2] at ht; exact absurd (by (repeat' split) <;> omega) ht
          obtain ⟨n, p, o1, _⟩ := hL.a e.th f0 f1 (.inl hs)
          rw [hto] at o1; cases o1
    | some m =>
      obtain ⟨n, p, o1, o2, o3, o4⟩ := hL.a e.th f0 f1 (hO.inn _ _ hto).2.2
      rw [hto] at o1; cases o1
      simp only [o2, Option.getD_some]
      obtain ⟨hm, hpm⟩ := List.getElem?_eq_some_iff.1 o2
      have hx : noteP p k e ∈ T.l.set m (noteP p k e) := List.mem_iff_getElem.2 ⟨m, by simpa using hm, by simp⟩
      constructor
      · rintro ⟨q, hq, hr⟩
        rcases List.mem_or_eq_of_mem_set hq with c | c
        · exact .inl ⟨q, c, hr⟩
        · subst c
          rcases (noteP_rd _ _ _ _).1 hr with d | d
          · exact .inl ⟨p, hpm ▸ List.getElem_mem hm, d⟩
          · exact .inr d
      · rintro (⟨q, hq, hr⟩ | c)
        · obtain ⟨j, hj, rfl⟩ := List.getElem_of_mem hq
          by_cases hjm : j = m
          · subst hjm
            rw [hpm] at hr
            exact ⟨_, hx, (noteP_rd _ _ _ _).2 (.inl hr)⟩
          · exact ⟨T.l[j], List.mem_iff_getElem.2 ⟨j, by simpa using hj, by rw [List.getElem_set_ne (fun c => hjm c.symm)]⟩, hr⟩
        · exact ⟨_, hx, (noteP_rd _ _ _ _).2 (.inr c)⟩
theorem rd_all (r : Int × Int) : ∀ (g : List Ev) (S : St) (T : Wt) (k : Nat), POpen S T → LInv S T → (chk S g k).2 = 0 → ((∃ p ∈ (partsF T g k).l, r ∈ p.rs) ↔ (∃ p ∈ T.l, r ∈ p.rs) ∨ ∃ e ∈ g, e.kd = 2 ∧ e.own = false ∧ (e.ad, e.wd) = r)
  | [], S, T, k, _, _, _ => by simp [partsF]
  | e :: g, S, T, k, hO, hL, hc => by
    rw [chk] at hc
    by_cases he : errE S e = 0
    · rw [if_pos he] at hc
      rw [partsF, rd_all r g _ _ _ (popen_step hO he g).1 (linv_step hO hL he) hc, rd_step hO hL he r]
      constructor
      · rintro ((h | h) | ⟨x, hx, h⟩)
        · exact .inl h
        · exact .inr ⟨e, List.mem_cons_self, h⟩
        · exact .inr ⟨x, List.mem_cons_of_mem _ hx, h⟩
      · rintro (h | ⟨x, hx, h⟩)
        · exact .inl (.inl h)
        · rcases List.mem_cons.1 hx with rfl | hx
          · exact .inl (.inr h)
          · exact .inr ⟨x, hx, h⟩
    · rw [if_neg he] at hc; exact absurd hc he
theorem parts_rd {L : List Ev} (hz : (checkL L).2 = 0) (r : Int × Int) : (∃ p ∈ partsL L, r ∈ p.rs) ↔ ∃ e ∈ L, e.kd = 2 ∧ e.own = false ∧ (e.ad, e.wd) = r := by
  have h := rd_all r L st0 wt0 0 popen0 linv0 hz
  have h0 : ¬ ∃ p ∈ wt0.l, r ∈ p.rs := by simp [wt0]
  unfold partsL
  rw [h]
  constructor
  · rintro (c | c)
    · exact absurd c h0
    · exact c
  · exact .inr
end Go.Proofs.YthmiainhaebjiaaGreatDoor
