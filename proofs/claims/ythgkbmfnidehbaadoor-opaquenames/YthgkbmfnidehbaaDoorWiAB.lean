/-
  No statement of the seat is proved here. (Several texts in one: WiA, WiB.)
-/
import Derived.Test.YthgkbmfnidehbaaDoorEvBb

/- Blocks of a history (pure): event by event, and each by itself from its Begin on. No statement of the seat is proved here. -/
namespace Go.Proofs.YthgkbmfnidehbaaDoor

/-- A block, and what its place in the order hangs on. -/
structure Pt where
  th : Int
  kd : Int
  fi : Int
  la : Int
  nu : Int
  wr : Bool
  er : Int
  rs : List (Int × Int)
  ws : List (Int × Int)
  si : Int
  lk : Bool
def pt0 : Pt := ⟨0, 0, 0, 0, 0, false, 0, [], [], 0, false⟩
/-- An event of a block is noted. -/
def noteP (p : Pt) (k : Int) (e : Ev) : Pt :=
  if e.kd = 1 ∨ e.kd = 4 then { p with la := k, kd := 5, nu := e.wd / 2, si := k }
  else if e.kd = 2 then (if e.own then { p with la := k } else { p with la := k, rs := p.rs ++ [(e.ad, e.wd)] })
  else if e.kd = 3 then { p with la := k, ws := p.ws ++ [(e.ad, e.wd)] }
  else if e.kd = 5 then { p with la := k, lk := true }
  else if e.kd = 6 then { p with la := k, kd := 1, nu := e.wd, wr := p.lk }
  else if e.kd = 8 then { p with la := k, kd := 2 }
  else if e.kd = 9 then { p with la := k, kd := 3, er := e.er }
  else if e.kd = 7 then { p with la := k, kd := 4 }
  else { p with la := k }
def freshP (th : Int) (k : Int) : Pt := ⟨th, 0, k, 0, 0, false, 0, [], [], 0, false⟩
/-- The blocks so far, and which one of a thread is going on. -/
structure Wt where
  l : List Pt
  o : Int → Option Nat
def wt0 : Wt := ⟨[], fun _ => none⟩
def openW (T : Wt) (k : Nat) (e : Ev) : Wt := if e.kd = 1 then ⟨T.l ++ [freshP e.th k], fun t => if t = e.th then some T.l.length else T.o t⟩ else T
def markW (T : Wt) (k : Nat) (e : Ev) : Wt :=
  match T.o e.th with
  | none => T
  | some n => ⟨T.l.set n (noteP ((T.l[n]?).getD pt0) k e), if (noteP ((T.l[n]?).getD pt0) k e).kd = 5 then T.o else fun t => if t = e.th then none else T.o t⟩
def stepW (T : Wt) (k : Nat) (e : Ev) : Wt := markW (openW T k e) k e
def partsF : Wt → List Ev → Nat → Wt
  | T, [], _ => T
  | T, e :: h, k => partsF (stepW T k e) h (k + 1)
def partsL (h : List Ev) : List Pt := (partsF wt0 h 0).l
theorem partsF_append : ∀ (T : Wt) (h g : List Ev) (k : Nat), partsF T (h ++ g) k = partsF (partsF T h k) g (k + h.length)
  | T, [], g, k => by simp [partsF]
  | T, e :: h, g, k => by
    rw [List.cons_append, partsF, partsF, partsF_append]
    simp only [List.length_cons]
    rw [show k + 1 + h.length = k + (h.length + 1) by omega]
theorem parts_push (h : List Ev) (e : Ev) : partsF wt0 (h ++ [e]) 0 = stepW (partsF wt0 h 0) h.length e := by
  rw [partsF_append]; simp [partsF]

/-- A block from a place on. -/
def blkG (p : Pt) : List Ev → Nat → Pt
  | [], _ => p
  | e :: h, k => if e.th ≠ p.th then blkG p h (k + 1) else if endB e.kd then noteP p k e else blkG (noteP p k e) h (k + 1)
def newP (e : Ev) (k : Nat) : Pt := noteP (freshP e.th k) k e
def begP : List Ev → Nat → List Pt
  | [], _ => []
  | e :: h, k => if e.kd = 1 then blkG (newP e k) h (k + 1) :: begP h (k + 1) else begP h (k + 1)
def shutP (g : List Ev) (k : Nat) (p : Pt) : Pt := if p.kd = 5 then blkG p g k else p

theorem noteP_th (p : Pt) (k : Int) (e : Ev) : (noteP p k e).th = p.th := by
  unfold noteP; (repeat' split) <;> rfl
theorem noteP_fi (p : Pt) (k : Int) (e : Ev) : (noteP p k e).fi = p.fi := by
  unfold noteP; (repeat' split) <;> rfl
theorem noteP_la (p : Pt) (k : Int) (e : Ev) : (noteP p k e).la = k := by
  unfold noteP; (repeat' split) <;> rfl
theorem noteP_end {p : Pt} {k : Int} {e : Ev} (h : endB e.kd = true) : (noteP p k e).kd ≠ 5 := by
  unfold endB at h
  simp only [decide_eq_true_eq] at h
  have : e.kd = 6 ∨ e.kd = 7 ∨ e.kd = 8 ∨ e.kd = 9 := by omega
  unfold noteP
  rcases this with q | q | q | q <;> simp [q]
theorem noteP_goes {p : Pt} {k : Int} {e : Ev} (hp : p.kd = 5) (h : ¬ endB e.kd = true) : (noteP p k e).kd = 5 := by
  unfold endB at h
  simp only [decide_eq_true_eq] at h
  unfold noteP
  by_cases h1 : e.kd = 1 ∨ e.kd = 4
  · rw [if_pos h1]
  · rw [if_neg h1, if_neg (c := e.kd = 6) (by omega), if_neg (c := e.kd = 8) (by omega), if_neg (c := e.kd = 9) (by omega), if_neg (c := e.kd = 7) (by omega)]
    (repeat' split) <;> exact hp
theorem newP_kd {e : Ev} (k : Nat) (h : e.kd = 1) : (newP e k).kd = 5 := by simp [newP, noteP, h]
theorem newP_th (e : Ev) (k : Nat) : (newP e k).th = e.th := noteP_th _ _ _

/-- Which threads are inside, and which blocks are going on. -/
structure POpen (S : St) (T : Wt) : Prop where
  t8 : S.t.length = 8
  inn : ∀ t i, T.o t = some i → 0 ≤ t ∧ t < 8 ∧ ((S.sd t.toNat).st = 2 ∨ (S.sd t.toNat).st = 3)
  own : ∀ (i : Nat) (p : Pt), T.l[i]? = some p → p.kd = 5 → T.o p.th = some i
  th : ∀ t i, T.o t = some i → ∃ p, T.l[i]? = some p ∧ p.th = t ∧ p.kd = 5
theorem popen0 : POpen st0 wt0 := ⟨rfl, fun t i h => by simp [wt0] at h, fun i p h => by simp [wt0] at h, fun t i h => by simp [wt0] at h⟩
theorem shutP_map {l : List Pt} {e : Ev} {g : List Ev} {k : Nat} (h : ∀ p ∈ l, p.kd = 5 → e.th ≠ p.th) : l.map (shutP (e :: g) k) = l.map (shutP g (k + 1)) := by
  apply List.map_congr_left
  intro p hp
  unfold shutP
  split
  · rename_i h0
    rw [blkG, if_pos (h p hp h0)]
  · rfl
theorem popen_step {S : St} {T : Wt} {k : Nat} {e : Ev} (hO : POpen S T) (he : errE S e = 0) (g : List Ev) :
    POpen (nextS S e) (stepW T k e) ∧ (stepW T k e).l.map (shutP g (k + 1)) ++ begP g (k + 1) = T.l.map (shutP (e :: g) k) ++ begP (e :: g) k := by
  obtain ⟨hf, ht⟩ := err_turn he
  obtain ⟨f0, f1, f2, f3⟩ := formed_in hf
  have hsd := next_sd (S := S) (e := e) hO.t8 f0 f1
  have hst : ((nextS S e).sd e.th.toNat).st = turnN (S.sd e.th.toNat).st e := by rw [hsd, if_pos rfl]; rfl
  have hoth : ∀ j, j ≠ e.th.toNat → (nextS S e).sd j = S.sd j := fun j hj => by rw [hsd, if_neg hj]
  have ht8 : (nextS S e).t.length = 8 := by simp [nextS, hO.t8]
  unfold stepW openW
  by_cases h1 : e.kd = 1
  · have hs1 : (S.sd e.th.toNat).st = 1 := by
      unfold turnN at ht
      by_cases q1 : (S.sd e.th.toNat).st = 1
      · exact q1
      · by_cases q2 : (S.sd e.th.toNat).st = 2
        · simp [q2, h1] at ht
        · by_cases q3 : (S.sd e.th.toNat).st = 3
          · simp [q3, h1] at ht
          · simp [q1, q2, q3] at ht
    have hto : T.o e.th = none := by
      cases hq : T.o e.th with
      | none => rfl
      | some i => have := hO.inn _ _ hq; omega
    have hs2 : ((nextS S e).sd e.th.toNat).st = 2 := by rw [hst, hs1]; simp [turnN, h1]
    rw [if_pos h1]
    have hm : markW ⟨T.l ++ [freshP e.th k], fun t => if t = e.th then some T.l.length else T.o t⟩ k e = ⟨T.l ++ [newP e k], fun t => if t = e.th then some T.l.length else T.o t⟩ := by
      unfold markW
      simp only [if_true]
      have hg : ((T.l ++ [freshP e.th k])[T.l.length]?).getD pt0 = freshP e.th k := by simp
      simp only [hg]
      rw [show noteP (freshP e.th k) k e = newP e k from rfl, if_pos (newP_kd k h1)]
      congr 1
      rw [List.set_append_right _ _ (Nat.le_refl _)]; simp
    rw [hm]
    have hnone : ∀ (i : Nat) (p : Pt), T.l[i]? = some p → p.kd = 5 → e.th ≠ p.th := fun i p hi h0 hth => by
      have := hO.own i p hi h0
      rw [← hth, hto] at this; cases this
    refine ⟨⟨ht8, fun t i hi => ?_, fun i p hi h0 => ?_, fun t i hi => ?_⟩, ?_⟩
    · by_cases hte : t = e.th
      · subst hte; exact ⟨f0, f1, .inl hs2⟩
      · simp only [if_neg hte] at hi
        have := hO.inn t i hi
        rw [hoth _ (by omega)]; exact this
    · simp only at hi ⊢
      rcases Nat.lt_or_ge i T.l.length with hlt | hge
      · rw [List.getElem?_append_left hlt] at hi
        rw [if_neg (fun q => hnone i p hi h0 q.symm)]
        exact hO.own i p hi h0
      · rw [List.getElem?_append_right hge] at hi
        have hi0 : i - T.l.length = 0 := by
          rcases Nat.eq_zero_or_pos (i - T.l.length) with q | q
          · exact q
          · rw [List.getElem?_eq_none (by simp only [List.length_singleton]; omega)] at hi; cases hi
        rw [hi0] at hi
        simp at hi
        subst hi
        rw [newP_th, if_pos rfl]; congr 1; omega
    · by_cases hte : t = e.th
      · subst hte
        simp only [if_true, Option.some.injEq] at hi
        subst hi
        exact ⟨newP e k, by simp, newP_th e k, newP_kd k h1⟩
      · simp only [if_neg hte] at hi
        obtain ⟨p, q1, q2, q3⟩ := hO.th t i hi
        exact ⟨p, by show (T.l ++ _)[_]? = _; rw [List.getElem?_append_left (List.getElem?_eq_some_iff.1 q1).1]; exact q1, q2, q3⟩
    · rw [shutP_map (fun p hp h0 => by obtain ⟨i, hi⟩ := List.getElem?_of_mem hp; exact hnone i p hi h0)]
      rw [begP, if_pos h1]
      simp [shutP, newP_kd k h1]
  · rw [if_neg h1, begP, if_neg h1]
    unfold markW
    cases hto : T.o e.th with
    | none =>
      refine ⟨⟨ht8, fun t i hi => ?_, hO.own, hO.th⟩, ?_⟩
      · have := hO.inn t i hi
        rw [hoth _ (fun q => by rw [show t = e.th by omega, hto] at hi; cases hi)]; exact this
      · rw [shutP_map (fun p hp hw hth => by
          obtain ⟨i, hi⟩ := List.getElem?_of_mem hp
          have := hO.own i p hi hw
          rw [← hth, hto] at this; cases this)]
    | some n =>
      obtain ⟨p, hpp, hth, hw⟩ := hO.th _ _ hto
      have hg : (T.l[n]?).getD pt0 = p := by rw [hpp]; rfl
      simp only [hg]
      obtain ⟨hlt, hpe⟩ := List.getElem?_eq_some_iff.1 hpp
      have hnth : (noteP p k e).th = e.th := by rw [noteP_th, hth]
      have oth : ∀ (i : Nat) (u : Pt), i ≠ n → T.l[i]? = some u → u.kd = 5 → e.th ≠ u.th := fun i u hi hu hh hc => by
        have := hO.own i u hu hh
        rw [← hc, hto] at this; cases this; exact hi rfl
      have hmap : (T.l.set n (noteP p k e)).map (shutP g (k + 1)) = T.l.map (shutP (e :: g) k) := by
        apply List.ext_getElem?
        intro i
        rw [List.getElem?_map, List.getElem?_map, List.getElem?_set]
        by_cases hi : n = i
        · rw [if_pos hi, if_pos (by omega), ← hi, hpp]
          simp only [Option.map_some, Option.some.injEq]
          have e1 : shutP (e :: g) k p = blkG p (e :: g) k := by unfold shutP; rw [if_pos hw]
          rw [e1, blkG, if_neg (by rw [hth]; simp)]
          unfold shutP
          by_cases hE : endB e.kd = true
          · rw [if_pos hE, if_neg (noteP_end hE)]
          · rw [if_neg hE, if_pos (noteP_goes hw hE)]
        · rw [if_neg hi]
          cases hu : T.l[i]? with
          | none => rfl
          | some u =>
            simp only [Option.map_some, Option.some.injEq]
            unfold shutP
            split
            · rename_i hh
              rw [blkG, if_pos (oth i u (fun q => hi q.symm) hu hh)]
            · rfl
      have hin := hO.inn _ _ hto
      by_cases hn : (noteP p k e).kd = 5
      · have hne : ¬ endB e.kd = true := fun q => noteP_end q hn
        have hst2 : ((nextS S e).sd e.th.toNat).st = 2 ∨ ((nextS S e).sd e.th.toNat).st = 3 := by
          rw [hst]
          unfold endB at hne
          simp only [decide_eq_true_eq] at hne
          unfold turnN at ht ⊢
          rcases hin.2.2 with q | q
          · rw [q] at ht ⊢
            simp only [Nat.reduceEqDiff, if_false, if_true] at ht ⊢
            by_cases a1 : e.kd = 2 ∨ e.kd = 3 ∨ e.kd = 4
            · simp [a1]
            · by_cases a2 : e.kd = 5
              · simp [a2]
              · rw [if_neg a1, if_neg a2, if_neg (by omega), if_neg (by omega)] at ht; exact absurd rfl ht
          · rw [q] at ht ⊢
            simp only [Nat.reduceEqDiff, if_false, if_true] at ht ⊢
            rw [if_neg (by omega)] at ht; exact absurd rfl ht
        simp only [if_pos hn]
        refine ⟨⟨ht8, fun t i hi => ?_, fun i u hi hh => ?_, fun t i hi => ?_⟩, by rw [hmap]⟩
        · by_cases hte : t = e.th
          · subst hte; exact ⟨f0, f1, hst2⟩
          · have := hO.inn t i hi
            rw [hoth _ (by omega)]; exact this
        · by_cases hie : n = i
          · subst hie
            rw [List.getElem?_set_self hlt] at hi
            cases hi
            rw [hnth]; exact hto
          · rw [List.getElem?_set_ne hie] at hi
            exact hO.own i u hi hh
        · by_cases hie : t = e.th
          · subst hie
            rw [hto] at hi; cases hi
            exact ⟨noteP p k e, List.getElem?_set_self hlt, hnth, hn⟩
          · obtain ⟨u, q1, q2, q3⟩ := hO.th t i hi
            refine ⟨u, ?_, q2, q3⟩
            show (T.l.set _ _)[i]? = _
            rw [List.getElem?_set_ne]
            · exact q1
            · intro hc
              rw [← hc, hpp] at q1
              cases q1; exact hie (q2.symm.trans hth)
      · simp only [if_neg hn]
        refine ⟨⟨ht8, fun t i hi => ?_, fun i u hi hh => ?_, fun t i hi => ?_⟩, by rw [hmap]⟩
        · by_cases hte : t = e.th
          · simp [hte] at hi
          · simp only [if_neg hte] at hi
            have := hO.inn t i hi
            rw [hoth _ (by omega)]; exact this
        · by_cases hie : n = i
          · subst hie
            rw [List.getElem?_set_self hlt] at hi
            cases hi
            exact absurd hh hn
          · rw [List.getElem?_set_ne hie] at hi
            have a3 := hO.own i u hi hh
            show (if u.th = e.th then none else T.o u.th) = _
            rw [if_neg]
            · exact a3
            · intro q
              rw [q, hto] at a3; cases a3; exact hie rfl
        · by_cases hte : t = e.th
          · simp [hte] at hi
          · simp only [if_neg hte] at hi
            obtain ⟨u, q1, q2, q3⟩ := hO.th t i hi
            refine ⟨u, ?_, q2, q3⟩
            show (T.l.set _ _)[i]? = _
            rw [List.getElem?_set_ne]
            · exact q1
            · intro hc
              rw [← hc, hpp] at q1
              cases q1
              exact hte (q2.symm.trans hth)
theorem parts_each : ∀ (g : List Ev) (S : St) (T : Wt) (k : Nat), POpen S T → (chk S g k).2 = 0 → (partsF T g k).l = T.l.map (shutP g k) ++ begP g k
  | [], S, T, k, _, _ => by
    have : T.l.map (shutP [] k) = T.l := by
      conv => rhs; rw [← List.map_id T.l]
      apply List.map_congr_left
      intro t _
      unfold shutP blkG
      split <;> rfl
    rw [partsF, this, begP, List.append_nil]
  | e :: g, S, T, k, hO, hz => by
    rw [chk] at hz
    by_cases he : errE S e = 0
    · rw [if_pos he] at hz
      obtain ⟨o1, o2⟩ := popen_step hO he g
      rw [partsF, parts_each g (nextS S e) (stepW T k e) (k + 1) o1 hz, o2]
    · rw [if_neg he] at hz; exact absurd hz he
/-- The blocks of a history that can be, each by itself. -/
theorem parts_begs {L : List Ev} (hz : (checkL L).2 = 0) : partsL L = begP L 0 := by
  have := parts_each L st0 wt0 0 popen0 hz
  unfold partsL
  rw [this]; rfl
/-- What stands behind each beginning of it. -/
theorem popen_all : ∀ (g : List Ev) (S : St) (T : Wt) (k : Nat), POpen S T → (chk S g k).2 = 0 → POpen (g.foldl nextS S) (partsF T g k)
  | [], _, _, _, h, _ => h
  | e :: g, S, T, k, hO, hz => by
    rw [chk] at hz
    by_cases he : errE S e = 0
    · rw [if_pos he] at hz
      exact popen_all g _ _ _ (popen_step hO he []).1 hz
    · rw [if_neg he] at hz; exact absurd hz he
theorem popen_take {L : List Ev} (hz : (checkL L).2 = 0) (k : Nat) : POpen (runS (L.take k)) (partsF wt0 (L.take k) 0) := popen_all _ _ _ _ popen0 (chk_take hz)
/-- A block goes on no further, or up to a later place. -/
theorem blkG_la : ∀ (h : List Ev) (p : Pt) (k : Nat), blkG p h k = p ∨ (k : Int) ≤ (blkG p h k).la
  | [], p, k => .inl rfl
  | e :: h, p, k => by
    rw [blkG]
    split
    · rcases blkG_la h p (k + 1) with q | q
      · exact .inl q
      · exact .inr (by omega)
    · split
      · right; rw [noteP_la]; omega
      · rcases blkG_la h (noteP p k e) (k + 1) with q | q
        · right; rw [q, noteP_la]; omega
        · exact .inr (by omega)
theorem blkG_th : ∀ (h : List Ev) (p : Pt) (k : Nat), (blkG p h k).th = p.th
  | [], p, k => rfl
  | e :: h, p, k => by
    rw [blkG]
    split
    · exact blkG_th h p _
    · split
      · exact noteP_th _ _ _
      · rw [blkG_th h, noteP_th]
theorem blkG_fi : ∀ (h : List Ev) (p : Pt) (k : Nat), (blkG p h k).fi = p.fi
  | [], p, k => rfl
  | e :: h, p, k => by
    rw [blkG]
    split
    · exact blkG_fi h p _
    · split
      · exact noteP_fi _ _ _
      · rw [blkG_fi h, noteP_fi]
end Go.Proofs.YthgkbmfnidehbaaDoor


/- The order of a history's blocks (pure). No statement of the seat is proved here. -/
namespace Go.Proofs.YthgkbmfnidehbaaDoor

def overB (p : Pt) : Bool := decide (p.kd = 1) || decide (p.kd = 2) || decide (p.kd = 3)
/-- Who stands ahead in the order. -/
def befB (a b : Pt) : Bool := if a.nu ≠ b.nu then decide (a.nu < b.nu) else if a.wr ≠ b.wr then a.wr else decide (a.si < b.si)
def rankP (p : Pt) : Int := if p.wr then 0 else 1
theorem rank_wr (a b : Pt) : (a.wr ≠ b.wr ↔ rankP a ≠ rankP b) ∧ (rankP a < rankP b → a.wr = true) ∧ (rankP b < rankP a → a.wr = false) := by
  unfold rankP
  cases a.wr <;> cases b.wr <;> simp
theorem bef_iff (a b : Pt) : befB a b = true ↔ a.nu < b.nu ∨ a.nu = b.nu ∧ (rankP a < rankP b ∨ rankP a = rankP b ∧ a.si < b.si) := by
  unfold befB
  by_cases h1 : a.nu = b.nu
  · rw [if_neg (by simpa using h1)]
    unfold rankP
    cases a.wr <;> cases b.wr <;> simp [h1]
  · rw [if_pos h1]
    simp [h1]
theorem bef_no (a b : Pt) : befB a b = false ↔ b.nu < a.nu ∨ a.nu = b.nu ∧ (rankP b < rankP a ∨ rankP a = rankP b ∧ b.si ≤ a.si) := by
  rw [← Bool.not_eq_true, bef_iff]
  omega
/-- An element is put ahead of the first one that it stands ahead of. -/
def insO (f : Nat → Nat → Bool) (i : Nat) : List Nat → List Nat
  | [] => [i]
  | x :: xs => if f i x then i :: x :: xs else x :: insO f i xs
theorem insO_perm (f : Nat → Nat → Bool) (i : Nat) : ∀ l, (insO f i l).Perm (i :: l)
  | [] => List.Perm.refl _
  | x :: xs => by
    rw [insO]
    split
    · exact List.Perm.refl _
    · exact ((insO_perm f i xs).cons x).trans (List.Perm.swap i x xs)
theorem insO_pass {f : Nat → Nat → Bool} {i : Nat} : ∀ (A B : List Nat), (∀ x ∈ A, f i x = false) → insO f i (A ++ B) = A ++ insO f i B
  | [], B, _ => rfl
  | x :: A, B, h => by
    rw [List.cons_append, insO, h x (by simp)]
    simp [insO_pass A B (fun y hy => h y (by simp [hy]))]
theorem insO_at {f : Nat → Nat → Bool} {i : Nat} (A B : List Nat) (hA : ∀ x ∈ A, f i x = false) (hB : B = [] ∨ ∃ x xs, B = x :: xs ∧ f i x = true) : insO f i (A ++ B) = A ++ i :: B := by
  rw [insO_pass A B hA]
  rcases hB with rfl | ⟨x, xs, rfl, h⟩
  · rfl
  · rw [insO, if_pos h]
def at0 (l : List Pt) (i : Nat) : Pt := (l[i]?).getD pt0
def befI (l : List Pt) (a b : Nat) : Bool := befB (at0 l a) (at0 l b)
/-- The order of the blocks up to a number. -/
def ordK (l : List Pt) (n : Nat) : List Nat := (List.range n).foldl (fun out i => if overB (at0 l i) then insO (befI l) i out else out) []
theorem ordK_succ (l : List Pt) (n : Nat) : ordK l (n + 1) = if overB (at0 l n) then insO (befI l) n (ordK l n) else ordK l n := by
  unfold ordK; rw [List.range_succ, List.foldl_append]; rfl
theorem ordK_perm (l : List Pt) : ∀ n, (ordK l n).Perm ((List.range n).filter fun i => overB (at0 l i))
  | 0 => List.Perm.refl _
  | n + 1 => by
    rw [ordK_succ, List.range_succ, List.filter_append]
    by_cases h : overB (at0 l n) = true
    · rw [if_pos h]
      refine (insO_perm _ _ _).trans ?_
      have : [n].filter (fun i => overB (at0 l i)) = [n] := by simp [h]
      rw [this]
      exact ((ordK_perm l n).cons n).trans (List.perm_append_singleton n _).symm
    · rw [if_neg h]
      have : [n].filter (fun i => overB (at0 l i)) = [] := by simp [h]
      rw [this, List.append_nil]; exact ordK_perm l n
theorem insO_sorted (l : List Pt) (i : Nat) : ∀ L : List Nat, L.Pairwise (fun x y => befI l y x = false) → (insO (befI l) i L).Pairwise (fun x y => befI l y x = false)
  | [], _ => by simp [insO]
  | x :: xs, h => by
    rw [insO]
    rw [List.pairwise_cons] at h
    have tr : ∀ a b c : Nat, befI l b a = false → befI l c b = false → befI l c a = false := fun a b c h1 h2 => by
      unfold befI at *; rw [bef_no] at *; omega
    split
    · rename_i hx
      have hxi : befI l x i = false := by unfold befI at *; rw [bef_iff] at hx; rw [bef_no]; omega
      rw [List.pairwise_cons]
      refine ⟨fun y hy => ?_, by rw [List.pairwise_cons]; exact h⟩
      rcases List.mem_cons.1 hy with rfl | hy
      · exact hxi
      · exact tr _ _ _ hxi (h.1 y hy)
    · rename_i hx
      rw [List.pairwise_cons]
      refine ⟨fun y hy => ?_, insO_sorted l i xs h.2⟩
      rcases List.mem_cons.1 ((insO_perm _ _ _).mem_iff.1 hy) with rfl | hy
      · simpa using hx
      · exact h.1 y hy
theorem ordK_sorted (l : List Pt) : ∀ n, (ordK l n).Pairwise (fun x y => befI l y x = false)
  | 0 => List.Pairwise.nil
  | n + 1 => by
    rw [ordK_succ]
    split
    · exact insO_sorted l n _ (ordK_sorted l n)
    · exact ordK_sorted l n
/-- No two have their last Begin or Moved in common. -/
def Dist (l : List Pt) : Prop := (l.map (·.si)).Nodup
theorem dist_at {l : List Pt} (h : Dist l) {a b : Nat} (ha : a < l.length) (hb : b < l.length) (e : (at0 l a).si = (at0 l b).si) : a = b := by
  have e1 : (l.map (·.si))[a]'(by simpa using ha) = (l.map (·.si))[b]'(by simpa using hb) := by
    simp only [List.getElem_map]
    simpa [at0, ha, hb] using e
  rcases Nat.lt_trichotomy a b with q | q | q
  · exact absurd e1 ((List.pairwise_iff_getElem.1 h) a b (by simpa using ha) (by simpa using hb) q)
  · exact q
  · exact absurd e1.symm ((List.pairwise_iff_getElem.1 h) b a (by simpa using hb) (by simpa using ha) q)
theorem ord_merge {l : List Pt} (h : Dist l) (E : List Nat) (hE : E.Perm ((List.range l.length).filter fun i => overB (at0 l i))) : E.mergeSort (fun x y => !befI l y x) = ordK l l.length := by
  refine List.Perm.eq_of_pairwise (le := fun x y : Nat => befI l y x = false) ?_ ?_ (ordK_sorted l _) (((List.mergeSort_perm E _).trans hE).trans (ordK_perm l _).symm)
  · intro x y hx hy h1 h2
    have mx : x < l.length := by
      have := ((List.mergeSort_perm E _).trans hE).mem_iff.1 hx
      simp at this; exact this.1
    have my : y < l.length := by
      have := (ordK_perm l _).mem_iff.1 hy
      simp at this; exact this.1
    apply dist_at h mx my
    unfold befI at h1 h2
    rw [bef_no] at h1 h2; omega
  · have := List.pairwise_mergeSort (le := fun x y : Nat => !befI l y x) (fun a b c h1 h2 => by
      unfold befI at *; simp only [Bool.not_eq_true'] at *; rw [bef_no] at *; omega) (fun a b => by
      unfold befI at *
      simp only [Bool.or_eq_true, Bool.not_eq_true']
      rw [bef_no, bef_no]; omega) E
    exact this.imp fun h => by simpa using h
/-- What all blocks keep to. -/
structure PInv (T : Wt) (k : Nat) : Prop where
  dist : Dist T.l
  len : T.l.length ≤ k
  bd : ∀ p ∈ T.l, (0 ≤ p.fi ∧ p.fi < k) ∧ (0 ≤ p.la ∧ p.la < k) ∧ (0 ≤ p.si ∧ p.si < k) ∧ p.rs.length ≤ k ∧ p.ws.length ≤ k
  o : ∀ t i, T.o t = some i → i < T.l.length
theorem pinv0 : PInv wt0 0 := ⟨List.nodup_nil, Nat.le_refl _, fun p hp => by simp [wt0] at hp, fun t i h => by simp [wt0] at h⟩
theorem noteP_si (p : Pt) (k : Int) (e : Ev) : (noteP p k e).si = p.si ∨ (noteP p k e).si = k := by
  unfold noteP; (repeat' split) <;> simp
theorem noteP_rs (p : Pt) (k : Int) (e : Ev) : (noteP p k e).rs.length ≤ p.rs.length + 1 ∧ (noteP p k e).ws.length ≤ p.ws.length + 1 := by
  unfold noteP; (repeat' split) <;> simp
theorem pinv_step {T : Wt} {k : Nat} (h : PInv T k) (e : Ev) : PInv (stepW T k e) (k + 1) := by
  unfold stepW openW
  by_cases h1 : e.kd = 1
  · have hm : markW ⟨T.l ++ [freshP e.th k], fun t => if t = e.th then some T.l.length else T.o t⟩ k e = ⟨T.l ++ [newP e k], fun t => if t = e.th then some T.l.length else T.o t⟩ := by
      unfold markW
      simp only [if_true]
      have hg : ((T.l ++ [freshP e.th k])[T.l.length]?).getD pt0 = freshP e.th k := by simp
      simp only [hg]
      rw [show noteP (freshP e.th k) k e = newP e k from rfl, if_pos (newP_kd k h1)]
      congr 1
      rw [List.set_append_right _ _ (Nat.le_refl _)]; simp
    rw [if_pos h1, hm]
    have hn : newP e k = ⟨e.th, 5, k, k, e.wd / 2, false, 0, [], [], k, false⟩ := by simp [newP, noteP, freshP, h1]
    refine ⟨?_, by simp; exact h.len, fun p hp => ?_, fun t i hi => ?_⟩
    · unfold Dist
      rw [List.map_append, List.nodup_append]
      refine ⟨h.dist, by simp, fun a ha b hb => ?_⟩
      simp [hn] at hb
      subst hb
      obtain ⟨p, hp, rfl⟩ := List.mem_map.1 ha
      have := (h.bd p hp).2.2.1; omega
    · rcases List.mem_append.1 hp with hp | hp
      · have := h.bd p hp; omega
      · simp only [List.mem_singleton] at hp
        subst hp
        rw [hn]; simp; omega
    · simp only [List.length_append, List.length_singleton]
      simp only at hi
      split at hi
      · cases hi; omega
      · have := h.o t i hi; omega
  · rw [if_neg h1]
    unfold markW
    cases hto : T.o e.th with
    | none => exact ⟨h.dist, by show T.l.length ≤ k + 1; have := h.len; omega, fun p hp => by have := h.bd p hp; omega, h.o⟩
    | some n =>
      have hn := h.o _ _ hto
      have hg : (T.l[n]?).getD pt0 = T.l[n] := by simp [hn]
      simp only [hg]
      have hb := h.bd _ (List.getElem_mem hn)
      have hs := noteP_si (T.l[n]) k e
      have hr := noteP_rs (T.l[n]) k e
      refine ⟨?_, by simp; have := h.len; omega, fun p hp => ?_, fun t i hi => ?_⟩
      · unfold Dist
        rw [List.map_set]
        rcases hs with q | q
        · rw [q]
          have : (T.l.map (·.si)).set n (T.l[n]).si = T.l.map (·.si) := by
            apply List.ext_getElem?
            intro i
            rw [List.getElem?_set]
            split
            · rename_i hi
              subst hi
              simp [hn]
            · rfl
          rw [this]; exact h.dist
        · rw [q]
          have hk : ∀ x ∈ T.l.map (·.si), x ≠ (k : Int) := fun x hx => by
            obtain ⟨p, hp, rfl⟩ := List.mem_map.1 hx
            have := (h.bd p hp).2.2.1; omega
          have hd := h.dist
          unfold Dist at hd
          generalize T.l.map (·.si) = M at hk hd
          clear hg hb hr hn hto q
          induction M generalizing n with
          | nil => simp
          | cons x M ih =>
            rw [List.nodup_cons] at hd
            cases n with
            | zero =>
              rw [List.set_cons_zero, List.nodup_cons]
              exact ⟨fun q => hk _ (List.mem_cons_of_mem _ q) rfl, hd.2⟩
            | succ n =>
              rw [List.set_cons_succ, List.nodup_cons]
              refine ⟨fun q => ?_, ih n (fun y hy => hk y (List.mem_cons_of_mem _ hy)) hd.2⟩
              rcases List.mem_or_eq_of_mem_set q with q | q
              · exact hd.1 q
              · exact hk x (List.mem_cons_self) q
      · rcases List.mem_or_eq_of_mem_set hp with q | q
        · have := h.bd p q; omega
        · have hs := noteP_si (T.l[n]) k e
          rw [q, noteP_fi, noteP_la]
          rcases hs with q | q <;> rw [q] <;> omega
      · simp only [List.length_set]
        simp only at hi
        split at hi
        · exact h.o t i hi
        · by_cases hte : t = e.th
          · simp [hte] at hi
          · simp only [if_neg hte] at hi
            exact h.o t i hi
theorem pinv_all : ∀ (g : List Ev) (T : Wt) (k : Nat), PInv T k → PInv (partsF T g k) (k + g.length)
  | [], T, k, h => h
  | e :: g, T, k, h => by
    have := pinv_all g _ (k + 1) (pinv_step h e)
    rw [partsF]
    simpa [Nat.add_assoc, Nat.add_comm 1] using this
theorem pinv_parts (L : List Ev) : PInv (partsF wt0 L 0) L.length := by simpa using pinv_all L wt0 0 pinv0
/-- The document's answer about two places. -/
def aheadB (l : List Pt) (a b : Int) : Bool := decide (0 ≤ a ∧ a < l.length ∧ 0 ≤ b ∧ b < l.length ∧ (at0 l a.toNat).kd ≠ 5 ∧ (at0 l a.toNat).la < (at0 l b.toNat).fi)
end Go.Proofs.YthgkbmfnidehbaaDoor
