
/- The attempts of a history, each by itself from its Begin on (pure). No statement of the seat is proved here. -/
import Derived.Test.YthgkbmfnidehbaaDoorEvBb
namespace Go.Proofs.YthgkbmfnidehbaaDoor

/-- An event noted as the document does. -/
def noteR (t : Ty) (at_ : Int) (e : Ev) : Ty := ⟨t.th, t.fi, at_, if e.kd = 4 then e.wd else t.sn, if endB e.kd then e.kd else t.how, if e.kd = 2 ∧ e.own = false then t.rd + 1 else t.rd, if e.kd = 3 then t.wr + 1 else t.wr⟩
/-- An attempt from a place on. -/
def tryG (t : Ty) : List Ev → Nat → Ty
  | [], _ => t
  | e :: h, k => if e.th ≠ t.th then tryG t h (k + 1) else if endB e.kd then noteR t k e else tryG (noteR t k e) h (k + 1)
def newT (e : Ev) (k : Nat) : Ty := ⟨e.th, k, k, e.wd, 0, 0, 0⟩
def begs : List Ev → Nat → List Ty
  | [], _ => []
  | e :: h, k => if e.kd = 1 then tryG (newT e k) h (k + 1) :: begs h (k + 1) else begs h (k + 1)
def shutT (g : List Ev) (k : Nat) (t : Ty) : Ty := if t.how = 0 then tryG t g k else t
theorem note_eq {t : Ty} {k : Int} {e : Ev} (h : e.kd ≠ 1) : noteR t k e = noteT t k e := by
  unfold noteR noteT; simp [h]
/-- Open attempts and threads that are inside one another. -/
structure TOpen (S : St) (T : Tr) : Prop where
  o8 : T.o.length = 8
  own : ∀ (i : Nat) (t : Ty), T.l[i]? = some t → t.how = 0 → 0 ≤ t.th ∧ t.th < 8 ∧ T.at t.th.toNat = i + 1
  th : ∀ (i : Nat), T.at i ≠ 0 → ∃ t, T.l[T.at i - 1]? = some t ∧ t.th = (i : Int) ∧ t.how = 0
theorem topen0 : TOpen st0 tr0 := ⟨rfl, fun i t h => by simp [tr0] at h, fun i hi => by
    exfalso; apply hi
    simp only [Tr.at, tr0, List.getElem?_replicate]
    split <;> rfl⟩
theorem shut_map {l : List Ty} {e : Ev} {g : List Ev} {k : Nat} (h : ∀ t ∈ l, t.how = 0 → e.th ≠ t.th) : l.map (shutT (e :: g) k) = l.map (shutT g (k + 1)) := by
  apply List.map_congr_left
  intro t ht
  unfold shutT
  split
  · rename_i h0
    rw [tryG, if_pos (h t ht h0)]
  · rfl
theorem open_step {S : St} {T : Tr} {k : Nat} {e : Ev} (hO : TOpen S T) (hC : TCnt S T k) (he : errE S e = 0) (g : List Ev) :
    TOpen (nextS S e) (stepT T k e) ∧ (stepT T k e).l.map (shutT g (k + 1)) ++ begs g (k + 1) = T.l.map (shutT (e :: g) k) ++ begs (e :: g) k := by
  obtain ⟨hf, ht⟩ := err_turn he
  obtain ⟨f0, f1, f2, f3⟩ := formed_in hf
  have hil : e.th.toNat < T.o.length := by rw [hO.o8]; omega
  have eth : ((e.th.toNat : Nat) : Int) = e.th := by omega
  unfold stepT openT
  by_cases h1 : e.kd = 1
  · have hs1 : (S.sd e.th.toNat).st = 1 := by
      unfold turnN at ht
      by_cases q1 : (S.sd e.th.toNat).st = 1
      · exact q1
      · by_cases q2 : (S.sd e.th.toNat).st = 2
        · simp [q2, h1] at ht
        · by_cases q3 : (S.sd e.th.toNat).st = 3
          · simp [q3, h1] at ht
          · simp [q1, q2, q3] at ht
    have hat := hC.out e.th.toNat (by omega) (by omega) (by omega)
    rw [if_pos h1]
    have hA : (⟨T.l ++ [⟨e.th, k, 0, 0, 0, 0, 0⟩], T.o.set e.th.toNat (T.l.length + 1)⟩ : Tr).at e.th.toNat = T.l.length + 1 := by rw [at_set, if_pos ⟨rfl, hil⟩]
    unfold markT
    simp only [hA]
    rw [if_neg (by omega)]
    have hg : ((T.l ++ [(⟨e.th, k, 0, 0, 0, 0, 0⟩ : Ty)])[T.l.length + 1 - 1]?).getD ty0 = ⟨e.th, k, 0, 0, 0, 0, 0⟩ := by
      rw [List.getElem?_append_right (by omega)]; simp
    have hnt : noteT (⟨e.th, k, 0, 0, 0, 0, 0⟩ : Ty) k e = newT e k := by
      simp [noteT, newT, endB, h1]
    rw [hg, hnt]
    have hset : (T.l ++ [(⟨e.th, k, 0, 0, 0, 0, 0⟩ : Ty)]).set (T.l.length + 1 - 1) (newT e k) = T.l ++ [newT e k] := by
      rw [Nat.add_sub_cancel, List.set_append_right _ _ (Nat.le_refl _)]; simp
    rw [hset]
    have hnone : ∀ (i : Nat) (t : Ty), T.l[i]? = some t → t.how = 0 → e.th ≠ t.th := fun i t hi h0 hth => by
      have := hO.own i t hi h0
      rw [← hth, hat] at this; omega
    simp only [show (newT e k).how = 0 from rfl, if_true]
    refine ⟨⟨by simpa using hO.o8, fun i t hi h0 => ?_, fun i hi => ?_⟩, ?_⟩
    · rcases Nat.lt_or_ge i T.l.length with hlt | hge
      · rw [List.getElem?_append_left hlt] at hi
        have hne := hnone i t hi h0
        obtain ⟨a1, a2, a3⟩ := hO.own i t hi h0
        refine ⟨a1, a2, ?_⟩
        rw [at_set, if_neg (fun q => hne (by omega))]
        exact a3
      · rw [List.getElem?_append_right hge] at hi
        have hi0 : i - T.l.length = 0 := by
          rcases Nat.eq_zero_or_pos (i - T.l.length) with q | q
          · exact q
          · rw [List.getElem?_eq_none (by simp only [List.length_singleton]; omega)] at hi; cases hi
        rw [hi0] at hi
        simp at hi
        subst hi
        refine ⟨f0, f1, ?_⟩
        show (⟨_, T.o.set e.th.toNat (T.l.length + 1)⟩ : Tr).at e.th.toNat = i + 1
        rw [at_set, if_pos ⟨rfl, hil⟩]; omega
    · rw [at_set] at hi ⊢
      by_cases hie : i = e.th.toNat ∧ e.th.toNat < T.o.length
      · rw [if_pos hie]
        exact ⟨newT e k, by simp, by show e.th = (i : Int); omega, rfl⟩
      · rw [if_neg hie] at hi ⊢
        obtain ⟨t, q1, q2, q3⟩ := hO.th i hi
        exact ⟨t, by show (T.l ++ _)[_]? = _; rw [List.getElem?_append_left (List.getElem?_eq_some_iff.1 q1).1]; exact q1, q2, q3⟩
    · rw [shut_map (fun t ht h0 => by obtain ⟨i, hi⟩ := List.getElem?_of_mem ht; exact hnone i t hi h0)]
      rw [begs, if_pos h1]
      simp [shutT, newT]
  · rw [if_neg h1, begs, if_neg h1]
    unfold markT
    by_cases h0 : T.at e.th.toNat = 0
    · rw [if_pos h0]
      refine ⟨⟨hO.o8, hO.own, hO.th⟩, ?_⟩
      rw [shut_map (fun t ht hw hth => by
        obtain ⟨i, hi⟩ := List.getElem?_of_mem ht
        have := hO.own i t hi hw
        rw [← hth, h0] at this; omega)]
    · rw [if_neg h0]
      obtain ⟨t, htt, hth, hw⟩ := hO.th _ h0
      have hg : (T.l[T.at e.th.toNat - 1]?).getD ty0 = t := by rw [htt]; rfl
      simp only [hg]
      obtain ⟨hlt, hte⟩ := List.getElem?_eq_some_iff.1 htt
      have hte' : t.th = e.th := by omega
      have hnth : (noteT t k e).th = e.th := hte'
      have oth : ∀ (i : Nat) (u : Ty), i ≠ T.at e.th.toNat - 1 → T.l[i]? = some u → u.how = 0 → e.th ≠ u.th := fun i u hi hu hh hc => by
        have := hO.own i u hu hh
        rw [← hc] at this; omega
      have hmap : (T.l.set (T.at e.th.toNat - 1) (noteT t k e)).map (shutT g (k + 1)) = T.l.map (shutT (e :: g) k) := by
        apply List.ext_getElem?
        intro i
        rw [List.getElem?_map, List.getElem?_map, List.getElem?_set]
        by_cases hi : T.at e.th.toNat - 1 = i
        · rw [if_pos hi, if_pos (by omega), ← hi, htt]
          simp only [Option.map_some, Option.some.injEq]
          have e1 : shutT (e :: g) k t = tryG t (e :: g) k := by unfold shutT; rw [if_pos hw]
          rw [e1, tryG, if_neg (by rw [hte']; simp), note_eq h1]
          unfold shutT
          by_cases hE : endB e.kd = true
          · rw [if_pos hE, if_neg]
            simp [noteT, hE]; omega
          · rw [if_neg hE, if_pos]
            simp [noteT, hE, hw]
        · rw [if_neg hi]
          cases hu : T.l[i]? with
          | none => rfl
          | some u =>
            simp only [Option.map_some, Option.some.injEq]
            unfold shutT
            split
            · rename_i hh
              rw [tryG, if_pos (oth i u (fun q => hi q.symm) hu hh)]
            · rfl
      by_cases hn : (noteT t k e).how = 0
      · simp only [if_pos hn]
        refine ⟨⟨hO.o8, fun i u hi hh => ?_, fun i hi => ?_⟩, by rw [hmap]⟩
        · by_cases hie : T.at e.th.toNat - 1 = i
          · subst hie
            rw [List.getElem?_set_self hlt] at hi
            cases hi
            refine ⟨by omega, by omega, ?_⟩
            rw [hnth]; show T.at e.th.toNat = _; omega
          · rw [List.getElem?_set_ne hie] at hi
            exact hO.own i u hi hh
        · by_cases hie : i = e.th.toNat
          · subst hie
            exact ⟨noteT t k e, List.getElem?_set_self hlt, by rw [hnth]; omega, hn⟩
          · obtain ⟨u, q1, q2, q3⟩ := hO.th i hi
            refine ⟨u, ?_, q2, q3⟩
            show (T.l.set _ _)[T.at i - 1]? = _
            rw [List.getElem?_set_ne]
            · exact q1
            · intro hc
              rw [← hc, htt] at q1
              cases q1; omega
      · simp only [if_neg hn]
        refine ⟨⟨by simpa using hO.o8, fun i u hi hh => ?_, fun i hi => ?_⟩, by rw [hmap]⟩
        · by_cases hie : T.at e.th.toNat - 1 = i
          · subst hie
            rw [List.getElem?_set_self hlt] at hi
            cases hi
            exact absurd hh hn
          · rw [List.getElem?_set_ne hie] at hi
            obtain ⟨a1, a2, a3⟩ := hO.own i u hi hh
            refine ⟨a1, a2, ?_⟩
            rw [at_set, if_neg]
            · exact a3
            · rintro ⟨q, -⟩
              rw [q] at a3; omega
        · rw [at_set] at hi ⊢
          by_cases hie : i = e.th.toNat ∧ e.th.toNat < T.o.length
          · rw [if_pos hie] at hi; exact absurd rfl hi
          · rw [if_neg hie] at hi ⊢
            obtain ⟨u, q1, q2, q3⟩ := hO.th i hi
            refine ⟨u, ?_, q2, q3⟩
            show (T.l.set _ _)[T.at i - 1]? = _
            rw [List.getElem?_set_ne]
            · exact q1
            · intro hc
              rw [← hc, htt] at q1
              cases q1
              exact hie ⟨by omega, hil⟩
theorem tries_each : ∀ (g : List Ev) (S : St) (T : Tr) (k : Nat), TOpen S T → TCnt S T k → TInv T k → (chk S g k).2 = 0 → (triesF T g k).l = T.l.map (shutT g k) ++ begs g k
  | [], S, T, k, _, _, _, _ => by
    have : T.l.map (shutT [] k) = T.l := by
      conv => rhs; rw [← List.map_id T.l]
      apply List.map_congr_left
      intro t _
      unfold shutT tryG
      split <;> rfl
    rw [triesF, this, begs, List.append_nil]
  | e :: g, S, T, k, hO, hC, hI, hz => by
    rw [chk] at hz
    by_cases he : errE S e = 0
    · rw [if_pos he] at hz
      obtain ⟨o1, o2⟩ := open_step hO hC he g
      rw [triesF, tries_each g (nextS S e) (stepT T k e) (k + 1) o1 (cnt_step hC hI he) (mark_inv (open_inv hI e).1 e).1 hz, o2]
    · rw [if_neg he] at hz; exact absurd hz he
/-- The attempts of a history that can be, each by itself. -/
theorem tries_begs {L : List Ev} (hz : (checkL L).2 = 0) : triesL L = begs L 0 := by
  have := tries_each L st0 tr0 0 topen0 cnt0 tr0_inv hz
  unfold triesL
  rw [this]; rfl
end Go.Proofs.YthgkbmfnidehbaaDoor
