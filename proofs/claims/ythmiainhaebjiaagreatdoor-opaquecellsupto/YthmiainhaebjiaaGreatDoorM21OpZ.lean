/-
  No statement of the seat is proved here. (Several texts in one: OpZ, EvL.)
-/
import Derived.Test.YthmiainhaebjiaaGreatDoorM18EvDa
import Derived.Test.YthmiainhaebjiaaGreatDoorM12EvK

/- What the document goes over, and the blocks (pure): places of writing commits, what a block reads and writes, where it begins. No statement of the seat is proved here. -/
namespace Go.Proofs.YthmiainhaebjiaaGreatDoor

/-- The places of the writing commits, from a place on. -/
def wpos (S : St) : List Ev → Nat → List Int
  | [], _ => []
  | e :: h, k => if e.kd = 6 ∧ (S.sd e.th.toNat).st = 3 then (k : Int) :: wpos (nextS S e) h (k + 1) else wpos (nextS S e) h (k + 1)
theorem wpos_ge : ∀ (h : List Ev) (S : St) (k : Nat), ∀ x ∈ wpos S h k, (k : Int) ≤ x
  | [], _, _, x, hx => by simp [wpos] at hx
  | e :: h, S, k, x, hx => by
    rw [wpos] at hx
    split at hx
    · rcases List.mem_cons.1 hx with rfl | hx
      · omega
      · have := wpos_ge h _ _ x hx; omega
    · have := wpos_ge h _ _ x hx; omega
theorem wpos_up : ∀ (h : List Ev) (S : St) (k : Nat), (wpos S h k).Pairwise (· < ·)
  | [], _, _ => List.Pairwise.nil
  | e :: h, S, k => by
    rw [wpos]
    split
    · exact List.pairwise_cons.2 ⟨fun x hx => by have := wpos_ge h _ _ x hx; omega, wpos_up h _ _⟩
    · exact wpos_up h _ _
/-- Which blocks are going on, and whether they have locked. -/
structure LInv (S : St) (T : Wt) : Prop where
  a : ∀ t : Int, 0 ≤ t → t < 8 → (S.sd t.toNat).st = 2 ∨ (S.sd t.toNat).st = 3 → ∃ n p, T.o t = some n ∧ T.l[n]? = some p ∧ p.lk = decide ((S.sd t.toNat).st = 3) ∧ p.wr = false
theorem linv0 : LInv st0 wt0 := by
  refine ⟨fun t h0 h1 h => ?_⟩
  have : (st0.sd t.toNat).st = 1 := by
    have ht : t.toNat < 8 := by omega
    simp only [St.sd, st0]
    rw [List.getElem?_replicate, if_pos ht]; rfl
  omega
theorem noteP_ends {p : Pt} {k : Int} {e : Ev} (h : e.kd ≠ 6) : (noteP p k e).wr = p.wr := by
  unfold noteP; (repeat' split) <;> first | rfl | omega
theorem noteP_lk {p : Pt} {k : Int} {e : Ev} : (noteP p k e).lk = if e.kd = 5 then true else p.lk := by
  by_cases h : e.kd = 5
  · rw [if_pos h]; unfold noteP; simp [h]
  · rw [if_neg h]; unfold noteP; (repeat' split) <;> first | rfl | omega
theorem noteP_com {p : Pt} {k : Int} {e : Ev} (h : e.kd = 6) : (noteP p k e).wr = p.lk := by
  unfold noteP; simp [h]
theorem newP_wr {e : Ev} {k : Nat} (h : e.kd = 1) : (newP e k).wr = false ∧ (newP e k).lk = false := by
  unfold newP noteP; simp [h, freshP]
theorem turn_two {s : Nat} {e : Ev} (h : turnN s e = 2 ∨ turnN s e = 3) : s = 1 ∧ e.kd = 1 ∧ turnN s e = 2 ∨ s = 2 ∧ (e.kd = 2 ∨ e.kd = 3 ∨ e.kd = 4) ∧ turnN s e = 2 ∨ s = 2 ∧ e.kd = 5 ∧ turnN s e = 3 := by
  unfold turnN at h ⊢
  by_cases h1 : s = 1
  · rw [if_pos h1] at h ⊢
    left
    by_cases q : e.kd = 1
    · rw [if_pos q]; exact ⟨h1, q, rfl⟩
    · rw [if_neg q] at h; (repeat' split at h) <;> omega
  · rw [if_neg h1] at h ⊢
    right
    by_cases h2 : s = 2
    · rw [if_pos h2] at h ⊢
      by_cases q : e.kd = 2 ∨ e.kd = 3 ∨ e.kd = 4
      · rw [if_pos q]; exact .inl ⟨h2, q, rfl⟩
      · rw [if_neg q] at h ⊢
        by_cases q5 : e.kd = 5
        · rw [if_pos q5]; exact .inr ⟨h2, q5, rfl⟩
        · rw [if_neg q5] at h; (repeat' split at h) <;> omega
    · rw [if_neg h2] at h; (repeat' split at h) <;> omega
theorem linv_step {S : St} {T : Wt} {k : Nat} {e : Ev} (hO : POpen S T) (hL : LInv S T) (he : errE S e = 0) : LInv (nextS S e) (stepW T k e) := by
  obtain ⟨hf, ht⟩ := err_turn he
  obtain ⟨f0, f1, f2, f3⟩ := formed_in hf
  have hsd := next_sd (S := S) (e := e) hO.t8 f0 f1
  have hst : ((nextS S e).sd e.th.toNat).st = turnN (S.sd e.th.toNat).st e := by rw [hsd, if_pos rfl]; rfl
  have hoth : ∀ j, j ≠ e.th.toNat → (nextS S e).sd j = S.sd j := fun j hj => by rw [hsd, if_neg hj]
  refine ⟨fun t h0 h1 h => ?_⟩
  unfold stepW openW
  by_cases hte : t = e.th
  · subst hte
    rw [hst] at h ⊢
    rcases turn_two h with ⟨s1, k1, t1⟩ | ⟨s1, k1, t1⟩ | ⟨s1, k1, t1⟩
    · rw [if_pos k1]
      unfold markW
      simp only [if_true]
      have hg : ((T.l ++ [freshP e.th k])[T.l.length]?).getD pt0 = freshP e.th k := by simp
      simp only [hg]
      rw [show noteP (freshP e.th k) k e = newP e k from rfl, if_pos (newP_kd k k1)]
      refine ⟨T.l.length, newP e k, by simp, ?_, ?_, (newP_wr k1).1⟩
      · show ((T.l ++ [freshP e.th k]).set T.l.length (newP e k))[T.l.length]? = _
        rw [List.getElem?_set, if_pos rfl, if_pos (by simp)]
      · rw [(newP_wr k1).2, t1]; rfl
    · obtain ⟨n, p, o1, o2, o3, o4⟩ := hL.a e.th h0 h1 (.inl s1)
      rw [if_neg (by omega)]
      unfold markW
      simp only [o1, o2, Option.getD_some]
      obtain ⟨p2, q1, q2, q3⟩ := hO.th _ _ o1
      rw [o2] at q1; cases q1
      rw [if_pos (noteP_goes q3 (by unfold endB; simp only [decide_eq_true_eq]; omega))]
      refine ⟨n, noteP p k e, o1, ?_, ?_, ?_⟩
      · rw [List.getElem?_set, if_pos rfl, if_pos (List.getElem?_eq_some_iff.1 o2).1]
      · rw [noteP_lk, if_neg (by omega), o3, t1, s1]
      · rw [noteP_ends (by omega), o4]
    · obtain ⟨n, p, o1, o2, o3, o4⟩ := hL.a e.th h0 h1 (.inl s1)
      rw [if_neg (by omega)]
      unfold markW
      simp only [o1, o2, Option.getD_some]
      obtain ⟨p2, q1, q2, q3⟩ := hO.th _ _ o1
      rw [o2] at q1; cases q1
      rw [if_pos (noteP_goes q3 (by unfold endB; simp only [decide_eq_true_eq]; omega))]
      refine ⟨n, noteP p k e, o1, ?_, ?_, ?_⟩
      · rw [List.getElem?_set, if_pos rfl, if_pos (List.getElem?_eq_some_iff.1 o2).1]
      · rw [noteP_lk, if_pos k1, t1]; rfl
      · rw [noteP_ends (by omega), o4]
  · rw [hoth _ (by omega)] at h ⊢
    obtain ⟨n, p, o1, o2, o3, o4⟩ := hL.a t h0 h1 h
    have hn := (List.getElem?_eq_some_iff.1 o2).1
    by_cases k1 : e.kd = 1
    · rw [if_pos k1]
      unfold markW
      simp only [if_true]
      refine ⟨n, p, ?_, ?_, o3, o4⟩
      · split <;> simp [hte, o1]
      · show ((T.l ++ [freshP e.th k]).set T.l.length _)[n]? = _
        rw [List.getElem?_set, if_neg (by omega), List.getElem?_append_left hn]; exact o2
    · rw [if_neg k1]
      unfold markW
      cases hto : T.o e.th with
      | none => exact ⟨n, p, o1, o2, o3, o4⟩
      | some m =>
        have hmn : m ≠ n := fun q => by
          obtain ⟨p1, a1, a2, _⟩ := hO.th _ _ hto
          obtain ⟨p2, b1, b2, _⟩ := hO.th _ _ o1
          rw [q, b1] at a1; cases a1
          exact hte (b2.symm.trans a2)
        refine ⟨n, p, ?_, ?_, o3, o4⟩
        · simp only; split <;> simp [hte, o1]
        · rw [List.getElem?_set, if_neg hmn]; exact o2
theorem filter_set_no {q : Pt → Bool} : ∀ (l : List Pt) (n : Nat) (p x : Pt), l[n]? = some p → q p = false → q x = false → (l.set n x).filter q = l.filter q
  | [], _, _, _, h, _, _ => by simp at h
  | a :: l, 0, p, x, h, hp, hx => by simp at h; subst h; simp [hp, hx]
  | a :: l, n + 1, p, x, h, hp, hx => by
    simp only [List.getElem?_cons_succ] at h
    rw [List.set_cons_succ, List.filter_cons, List.filter_cons, filter_set_no l n p x h hp hx]
theorem filter_set_yes {q : Pt → Bool} : ∀ (l : List Pt) (n : Nat) (p x : Pt), l[n]? = some p → q p = false → q x = true → ((l.set n x).filter q).Perm (x :: l.filter q)
  | [], _, _, _, h, _, _ => by simp at h
  | a :: l, 0, p, x, h, hp, hx => by simp at h; subst h; simp [hp, hx]
  | a :: l, n + 1, p, x, h, hp, hx => by
    simp only [List.getElem?_cons_succ] at h
    have ih := filter_set_yes l n p x h hp hx
    rw [List.set_cons_succ, List.filter_cons, List.filter_cons]
    split
    · exact (ih.cons a).trans (List.Perm.swap x a _)
    · exact ih
theorem wr_step {S : St} {T : Wt} {k : Nat} {e : Ev} (hO : POpen S T) (hL : LInv S T) (he : errE S e = 0) :
    (((stepW T k e).l.filter fun p => p.wr).map (·.la)).Perm (((T.l.filter fun p => p.wr).map (·.la)) ++ (if e.kd = 6 ∧ (S.sd e.th.toNat).st = 3 then [(k : Int)] else [])) := by
  obtain ⟨hf, ht⟩ := err_turn he
  obtain ⟨f0, f1, f2, f3⟩ := formed_in hf
  unfold stepW openW
  by_cases k1 : e.kd = 1
  · rw [if_pos k1, if_neg (by omega), List.append_nil]
    unfold markW
    simp only [if_true]
    have hg : ((T.l ++ [freshP e.th k])[T.l.length]?).getD pt0 = freshP e.th k := by simp
    simp only [hg]
    rw [show noteP (freshP e.th k) k e = newP e k from rfl, List.set_append_right _ _ (Nat.le_refl _)]
    simp [List.filter_append, (newP_wr (k := k) k1).1]
  · rw [if_neg k1]
    unfold markW
    cases hto : T.o e.th with
    | none =>
      have : ¬ (e.kd = 6 ∧ (S.sd e.th.toNat).st = 3) := fun h => by
        obtain ⟨n, p, o1, _⟩ := hL.a e.th f0 f1 (.inr h.2)
        rw [hto] at o1; cases o1
      rw [if_neg this, List.append_nil]
    | some m =>
      obtain ⟨n, p, o1, o2, o3, o4⟩ := hL.a e.th f0 f1 (hO.inn _ _ hto).2.2
      rw [hto] at o1; cases o1
      simp only [o2, Option.getD_some]
      by_cases k6 : e.kd = 6
      · by_cases hs : (S.sd e.th.toNat).st = 3
        · rw [if_pos ⟨k6, hs⟩]
          have hw : (noteP p k e).wr = true := by rw [noteP_com k6, o3]; simp [hs]
          refine ((filter_set_yes (q := fun p => p.wr) T.l m p _ o2 o4 hw).map (·.la)).trans ?_
          rw [List.map_cons, noteP_la]
          exact (List.perm_append_singleton _ _).symm
        · rw [if_neg (fun h => hs h.2), List.append_nil]
          have hw : (noteP p k e).wr = false := by rw [noteP_com k6, o3]; simp [hs]
          rw [filter_set_no (q := fun p => p.wr) T.l m p _ o2 o4 hw]
      · rw [if_neg (fun h => k6 h.1), List.append_nil]
        rw [filter_set_no (q := fun p => p.wr) T.l m p _ o2 o4 (by rw [noteP_ends k6, o4])]
theorem wr_all : ∀ (g : List Ev) (S : St) (T : Wt) (k : Nat), POpen S T → LInv S T → (chk S g k).2 = 0 → (((partsF T g k).l.filter fun p => p.wr).map (·.la)).Perm (((T.l.filter fun p => p.wr).map (·.la)) ++ wpos S g k)
  | [], S, T, k, _, _, _ => by rw [partsF, wpos, List.append_nil]
  | e :: g, S, T, k, hO, hL, hc => by
    rw [chk] at hc
    by_cases he : errE S e = 0
    · rw [if_pos he] at hc
      rw [partsF, wpos]
      refine (wr_all g _ _ _ (popen_step hO he g).1 (linv_step hO hL he) hc).trans ?_
      refine ((wr_step hO hL he).append_right _).trans ?_
      rw [List.append_assoc]
      split <;> simp
    · rw [if_neg he] at hc; exact absurd hc he
/-- The writing commits' places are those that the document goes over. -/
theorem wpos_wr {L : List Ev} (hz : (checkL L).2 = 0) {W : List Pt} (hW : WrOf (partsL L) W) : wpos st0 L 0 = W.map (·.la) := by
  have h := wr_all L st0 wt0 0 popen0 linv0 hz
  have h0 : (wt0.l.filter fun p => p.wr).map (·.la) = [] := rfl
  rw [h0, List.nil_append] at h
  have h1 : (W.map (·.la)).Perm (wpos st0 L 0) := (hW.perm.map (·.la)).trans h
  exact (h1.eq_of_pairwise (fun a b _ _ p q => by omega) (List.pairwise_map.2 hW.up) (wpos_up L st0 0)).symm
/-- What a thread's event reads from the cells, and what it writes. -/
def rdE (t : Int) (e : Ev) : Option (Int × Int) := if e.th = t ∧ e.kd = 2 ∧ e.own = false then some (e.ad, e.wd) else none
def wrE (t : Int) (e : Ev) : Option (Int × Int) := if e.th = t ∧ e.kd = 3 then some (e.ad, e.wd) else none
theorem noteP_rsE (p : Pt) (k : Int) (e : Ev) (h : e.th = p.th) : (noteP p k e).rs = p.rs ++ (rdE p.th e).toList := by
  unfold rdE
  by_cases h2 : e.kd = 2
  · unfold noteP
    cases e.own <;> simp [h2, h]
  · rw [if_neg (by omega)]
    unfold noteP
    simp only [Option.toList_none, List.append_nil]
    (repeat' split) <;> first | rfl | omega
theorem noteP_wsE (p : Pt) (k : Int) (e : Ev) (h : e.th = p.th) : (noteP p k e).ws = p.ws ++ (wrE p.th e).toList := by
  unfold wrE
  by_cases h2 : e.kd = 3
  · unfold noteP
    simp [h2, h]
  · rw [if_neg (by omega)]
    unfold noteP
    simp only [Option.toList_none, List.append_nil]
    (repeat' split) <;> first | rfl | omega
theorem fm_cons {f : Ev → Option (Int × Int)} (e : Ev) (h : List Ev) : (e :: h).filterMap f = (f e).toList ++ h.filterMap f := by
  rw [List.filterMap_cons]
  cases f e <;> rfl
theorem blkG_rs : ∀ (h : List Ev) (p : Pt) (k : Nat), p.la < k → (blkG p h k).rs = p.rs ++ (h.take (((blkG p h k).la + 1 - k).toNat)).filterMap (rdE p.th) ∧ (blkG p h k).ws = p.ws ++ (h.take (((blkG p h k).la + 1 - k).toNat)).filterMap (wrE p.th)
  | [], p, k, _ => by simp [blkG]
  | e :: h, p, k, hp => by
    rw [blkG]
    by_cases q : e.th ≠ p.th
    · rw [if_pos q]
      obtain ⟨i1, i2⟩ := blkG_rs h p (k + 1) (by omega)
      have n1 : rdE p.th e = none := by unfold rdE; rw [if_neg (fun c => q c.1)]
      have n2 : wrE p.th e = none := by unfold wrE; rw [if_neg (fun c => q c.1)]
      by_cases hl : (k : Int) ≤ (blkG p h (k + 1)).la
      · have e1 : ((blkG p h (k + 1)).la + 1 - k).toNat = ((blkG p h (k + 1)).la + 1 - ((k + 1 : Nat) : Int)).toNat + 1 := by omega
        rw [e1, List.take_succ_cons, fm_cons, fm_cons, n1, n2]
        exact ⟨i1, i2⟩
      · have e1 : ((blkG p h (k + 1)).la + 1 - k).toNat = 0 := by omega
        have e2 : ((blkG p h (k + 1)).la + 1 - ((k + 1 : Nat) : Int)).toNat = 0 := by omega
        rw [e2] at i1 i2
        rw [e1]
        exact ⟨i1, i2⟩
    · rw [if_neg q]
      have hq : e.th = p.th := Classical.not_not.1 q
      by_cases r : endB e.kd = true
      · rw [if_pos r, noteP_la, noteP_rsE p k e hq, noteP_wsE p k e hq]
        have e1 : ((k : Int) + 1 - k).toNat = 0 + 1 := by omega
        rw [e1, List.take_succ_cons, fm_cons, fm_cons]
        simp
      · rw [if_neg r]
        obtain ⟨i1, i2⟩ := blkG_rs h (noteP p k e) (k + 1) (by rw [noteP_la]; omega)
        rw [noteP_th] at i1 i2
        have hl : (k : Int) ≤ (blkG (noteP p k e) h (k + 1)).la := by
          rcases blkG_la h (noteP p k e) (k + 1) with c | c
          · rw [c, noteP_la]; omega
          · omega
        have e1 : ((blkG (noteP p k e) h (k + 1)).la + 1 - k).toNat = ((blkG (noteP p k e) h (k + 1)).la + 1 - ((k + 1 : Nat) : Int)).toNat + 1 := by omega
        rw [e1, List.take_succ_cons, fm_cons, fm_cons, i1, i2, noteP_rsE p k e hq, noteP_wsE p k e hq]
        simp only [List.append_assoc, and_self]
/-- The events from a place to another. -/
def seg (L : List Ev) (i j : Int) : List Ev := (L.drop i.toNat).take ((j + 1 - i).toNat)
theorem begP_rs : ∀ (h g : List Ev), ∀ p ∈ begP h g.length, p.rs = (seg (g ++ h) p.fi p.la).filterMap (rdE p.th) ∧ p.ws = (seg (g ++ h) p.fi p.la).filterMap (wrE p.th)
  | [], g, p, hp => by simp [begP] at hp
  | e :: h, g, p, hp => by
    rw [begP] at hp
    have ih := begP_rs h (g ++ [e])
    rw [List.length_append, List.length_singleton, List.append_assoc, List.singleton_append] at ih
    by_cases q : e.kd = 1
    · rw [if_pos q] at hp
      rcases List.mem_cons.1 hp with rfl | hp
      · have hla : (newP e g.length).la = g.length := noteP_la _ _ _
        obtain ⟨i1, i2⟩ := blkG_rs h (newP e g.length) (g.length + 1) (by rw [hla]; omega)
        have hl : (g.length : Int) ≤ (blkG (newP e g.length) h (g.length + 1)).la := by
          rcases blkG_la h (newP e g.length) (g.length + 1) with c | c
          · rw [c, hla]; omega
          · omega
        have n0 : (newP e g.length).rs = [] ∧ (newP e g.length).ws = [] := by unfold newP noteP; simp [q, freshP]
        have n1 : rdE (newP e g.length).th e = none := by unfold rdE; rw [if_neg (by omega)]
        have n2 : wrE (newP e g.length).th e = none := by unfold wrE; rw [if_neg (by omega)]
        have hfi : (blkG (newP e g.length) h (g.length + 1)).fi = g.length := by rw [blkG_fi]; exact noteP_fi _ _ _
        rw [n0.1] at i1
        rw [n0.2] at i2
        rw [i1, i2, hfi, blkG_th]
        unfold seg
        have e0 : ((g.length : Nat) : Int).toNat = g.length := by omega
        have e1 : ((blkG (newP e g.length) h (g.length + 1)).la + 1 - (g.length : Int)).toNat = ((blkG (newP e g.length) h (g.length + 1)).la + 1 - ((g.length + 1 : Nat) : Int)).toNat + 1 := by omega
        rw [e0, List.drop_left, e1, List.take_succ_cons, fm_cons, fm_cons, n1, n2]
        exact ⟨rfl, rfl⟩
      · exact ih p hp
    · rw [if_neg q] at hp
      exact ih p hp
/-- What a block has read and written, by the history alone. -/
theorem parts_rs {L : List Ev} (hz : (checkL L).2 = 0) : ∀ p ∈ partsL L, p.rs = (seg L p.fi p.la).filterMap (rdE p.th) ∧ p.ws = (seg L p.fi p.la).filterMap (wrE p.th) := fun p hp => by
  rw [parts_begs hz] at hp
  exact begP_rs L [] p hp
/-- Where the document finds a beginning, from a place downwards. -/
def begD (L : List Ev) (t : Int) : Nat → Int
  | 0 => 0
  | i + 1 => if ((L[i]?).map fun e => decide (e.th = t ∧ e.kd = 1)) = some true then (i : Int) else begD L t i
theorem begD_yes {L : List Ev} {t : Int} {k : Nat} {e : Ev} (h : L[k]? = some e) (h1 : e.th = t) (h2 : e.kd = 1) : begD L t (k + 1) = k := by
  rw [begD, h, Option.map_some, if_pos (by simp [h1, h2])]
theorem begD_no {L : List Ev} {t : Int} {k : Nat} {e : Ev} (h : L[k]? = some e) (h1 : ¬ (e.th = t ∧ e.kd = 1)) : begD L t (k + 1) = begD L t k := by
  rw [begD, h, Option.map_some, if_neg (by simp only [Option.some.injEq, decide_eq_true_eq]; exact h1)]
/-- Blocks begin where the document says. -/
structure BInv (L : List Ev) (k : Nat) (T : Wt) : Prop where
  op : ∀ t n p, T.o t = some n → T.l[n]? = some p → p.fi = begD L t k
  all : ∀ p ∈ T.l, p.fi = begD L p.th (p.la.toNat + 1)
  com : ∀ p ∈ T.l, p.wr = true → ∃ e, L[p.la.toNat]? = some e ∧ e.kd = 6 ∧ e.th = p.th
theorem binv_step {L : List Ev} {S : St} {T : Wt} {k : Nat} {e : Ev} (hO : POpen S T) (hL : LInv S T) (he : errE S e = 0) (hk : L[k]? = some e) (hB : BInv L k T) : BInv L (k + 1) (stepW T k e) := by
  obtain ⟨hf, ht⟩ := err_turn he
  obtain ⟨f0, f1, f2, f3⟩ := formed_in hf
  unfold stepW openW
  by_cases k1 : e.kd = 1
  · rw [if_pos k1]
    have hm : markW ⟨T.l ++ [freshP e.th k], fun t => if t = e.th then some T.l.length else T.o t⟩ k e = ⟨T.l ++ [newP e k], fun t => if t = e.th then some T.l.length else T.o t⟩ := by
      unfold markW
      simp only [if_true]
      have hg : ((T.l ++ [freshP e.th k])[T.l.length]?).getD pt0 = freshP e.th k := by simp
      simp only [hg]
      rw [show noteP (freshP e.th k) k e = newP e k from rfl, if_pos (newP_kd k k1)]
      congr 1
      rw [List.set_append_right _ _ (Nat.le_refl _)]; simp
    rw [hm]
    have hfi : (newP e k).fi = k := noteP_fi _ _ _
    have hla : (newP e k).la = k := noteP_la _ _ _
    refine ⟨fun t n p h1 h2 => ?_, fun p hp => ?_, fun p hp hw => ?_⟩
    · simp only at h1 h2
      by_cases hte : t = e.th
      · rw [if_pos hte] at h1
        cases h1
        rw [List.getElem?_append_right (Nat.le_refl _), Nat.sub_self] at h2
        simp only [List.getElem?_cons_zero, Option.some.injEq] at h2
        subst h2
        rw [hfi, begD_yes hk hte.symm k1]
      · rw [if_neg hte] at h1
        obtain ⟨p2, q1, q2, q3⟩ := hO.th _ _ h1
        have hn := (List.getElem?_eq_some_iff.1 q1).1
        rw [List.getElem?_append_left hn] at h2
        rw [hB.op t n p h1 h2, begD_no hk (fun c => hte c.1.symm)]
    · rcases List.mem_append.1 hp with hp | hp
      · exact hB.all p hp
      · simp only [List.mem_singleton] at hp
        subst hp
        rw [hfi, hla, newP_th]
        have : ((k : Int)).toNat = k := by omega
        rw [this, begD_yes hk rfl k1]
    · rcases List.mem_append.1 hp with hp | hp
      · exact hB.com p hp hw
      · simp only [List.mem_singleton] at hp
        subst hp
        rw [(newP_wr k1).1] at hw; cases hw
  · rw [if_neg k1]
    have hno : ∀ t, begD L t (k + 1) = begD L t k := fun t => begD_no hk (fun c => k1 c.2)
    unfold markW
    cases hto : T.o e.th with
    | none => exact ⟨fun t n p h1 h2 => by rw [hno]; exact hB.op t n p h1 h2, hB.all, hB.com⟩
    | some m =>
      obtain ⟨n, p, o1, o2, o3, o4⟩ := hL.a e.th f0 f1 (hO.inn _ _ hto).2.2
      rw [hto] at o1; cases o1
      obtain ⟨p2, q1, q2, q3⟩ := hO.th _ _ hto
      rw [o2] at q1; cases q1
      simp only [o2, Option.getD_some]
      have hkt : ((k : Int)).toNat = k := by omega
      refine ⟨fun t n u h1 h2 => ?_, fun u hu => ?_, fun u hu hw => ?_⟩
      · have h3 : T.o t = some n := by
          simp only at h1
          split at h1
          · exact h1
          · by_cases hte : t = e.th
            · simp only [if_pos hte] at h1; cases h1
            · simp only [if_neg hte] at h1; exact h1
        rw [hno]
        simp only [List.getElem?_set] at h2
        by_cases hmn : m = n
        · subst hmn
          rw [if_pos rfl, if_pos (List.getElem?_eq_some_iff.1 o2).1] at h2
          cases h2
          rw [noteP_fi]
          exact hB.op t m p h3 o2
        · rw [if_neg hmn] at h2
          exact hB.op t n u h3 h2
      · rcases List.mem_or_eq_of_mem_set hu with hu | rfl
        · exact hB.all u hu
        · rw [noteP_fi, noteP_la, noteP_th, q2, hkt, hno]
          exact hB.op _ _ _ hto o2
      · rcases List.mem_or_eq_of_mem_set hu with hu | rfl
        · exact hB.com u hu hw
        · rw [noteP_la, noteP_th, q2, hkt]
          refine ⟨e, hk, ?_, rfl⟩
          apply Classical.byContradiction
          intro h6
          rw [noteP_ends h6, o4] at hw; cases hw
theorem binv_all {L : List Ev} : ∀ (g : List Ev) (S : St) (T : Wt) (k : Nat), L.drop k = g → POpen S T → LInv S T → BInv L k T → (chk S g k).2 = 0 → BInv L (k + g.length) (partsF T g k)
  | [], _, _, _, _, _, _, hB, _ => hB
  | e :: g, S, T, k, hd, hO, hL, hB, hc => by
    rw [chk] at hc
    by_cases he : errE S e = 0
    · rw [if_pos he] at hc
      have hk : L[k]? = some e := by
        have := congrArg (fun l => l[0]?) hd
        simpa using this
      have hd2 : L.drop (k + 1) = g := by
        have := congrArg List.tail hd
        simpa using this
      have := binv_all g _ _ (k + 1) hd2 (popen_step (k := k) hO he g).1 (linv_step hO hL he) (binv_step hO hL he hk hB) hc
      rw [partsF, List.length_cons, show k + (g.length + 1) = k + 1 + g.length by omega]
      exact this
    · rw [if_neg he] at hc; exact absurd hc he
theorem binv_parts {L : List Ev} (hz : (checkL L).2 = 0) : BInv L L.length (partsF wt0 L 0) := by
  have := binv_all (L := L) L st0 wt0 0 rfl popen0 linv0 ⟨fun t n p h => by simp [wt0] at h, fun p h => by simp [wt0] at h, fun p h => by simp [wt0] at h⟩ hz
  rwa [Nat.zero_add] at this
/-- What a writing commit writes, as the document goes over it. -/
theorem wr_begin {L : List Ev} (hz : (checkL L).2 = 0) {W : List Pt} (hW : WrOf (partsL L) W) : ∀ p ∈ W, p.fi = begD L p.th (p.la.toNat + 1) ∧ (∃ e, L[p.la.toNat]? = some e ∧ e.kd = 6 ∧ e.th = p.th) ∧ p.ws = ((L.drop p.fi.toNat).take (p.la - p.fi).toNat).filterMap (wrE p.th) := fun p hp => by
  have h1 := List.mem_filter.1 (hW.perm.mem_iff.1 hp)
  have hB := binv_parts hz
  have hP := (pinv_parts L).bd p h1.1
  obtain ⟨e, c1, c2, c3⟩ := hB.com p h1.1 h1.2
  refine ⟨hB.all p h1.1, ⟨e, c1, c2, c3⟩, ?_⟩
  rw [(parts_rs hz p h1.1).2]
  unfold seg
  have hle : p.fi ≤ p.la := begP_le L 0 p (by rw [← parts_begs hz]; exact h1.1)
  have e1 : (p.la + 1 - p.fi).toNat = (p.la - p.fi).toNat + 1 := by omega
  have e2 : (L.drop p.fi.toNat)[(p.la - p.fi).toNat]? = some e := by
    rw [List.getElem?_drop, show p.fi.toNat + (p.la - p.fi).toNat = p.la.toNat by omega]; exact c1
  rw [e1, List.take_add_one, e2, List.filterMap_append]
  have n2 : wrE p.th e = none := by unfold wrE; rw [if_neg (by omega)]
  simp [n2]
end Go.Proofs.YthmiainhaebjiaaGreatDoor


/- Walks of note (package events). No statement of the seat is proved here. -/
namespace Go.Proofs.YthmiainhaebjiaaGreatDoor
open Go.RowKit Go.Shelf

set_option maxRecDepth 100000 in
set_option maxHeartbeats 4000000 in
theorem note_any (base g n cap : Nat) (L : List Ty) (j : Nat) (t : Ty) (at_ : Int) (e : Ev) (w : World) (h : OwnR Ty.cl 7 54 w base (.slice (some ⟨g, 0, none⟩) n cap) L) (hj : j < L.length) (ht : L[j] = t) (hr : 0 ≤ t.rd ∧ t.rd < 4611686018427387904) (hw : 0 ≤ t.wr ∧ t.wr < 4611686018427387904) :
    Calls Tryz.prog 62 #[.pointer (some ⟨g, j * 7, none⟩), .int .i64 at_, .agg e.cells] w fun ex w' => ex = .returned (.tuple #[]) ∧ OwnR Ty.cl 7 54 w' base (.slice (some ⟨g, 0, none⟩) n cap) (L.set j (noteT t at_ e)) ∧ Keeps (fun q => q = g) w w' := by
  obtain ⟨g', off, hgo, hc⟩ := (h.els ty_len).at j hj
  simp only [Option.some.injEq, Addr.mk.injEq, and_true] at hgo
  obtain ⟨rfl, rfl⟩ := hgo
  rw [ht] at hc
  obtain ⟨cap', cur, hv, -, hb, hsz⟩ : ∃ cap' cur, (Value.slice (some ⟨g, 0, none⟩) n cap) = .slice (some ⟨g, 0, none⟩) L.length cap' ∧ base ≤ g ∧ w.heap[g]? = some (.cells cur 54 (0, 0)) ∧ L.length * 7 ≤ cur.size := by
    obtain ⟨g2, cap', cur, h1, h2, h3, h4⟩ := h.at (by omega)
    simp only [Value.slice.injEq, Option.some.injEq, Addr.mk.injEq, and_true] at h1
    obtain ⟨rfl, rfl, rfl⟩ := h1
    exact ⟨cap, cur, rfl, h2, h3, h4⟩
  clear hv
  have hgl := lt_of_block hb
  have fz : ∀ x, w.frozen? ⟨g, x, none⟩ = false := fun x => frozen_of_block hb x
  obtain ⟨tt, fi, la, sn, how, rd, wr⟩ := t
  have c2 : w.cell? ⟨g, j * 7 + 2, none⟩ = some (.int .i64 la) := by simpa using hc 2 _ rfl
  have c3 : w.cell? ⟨g, j * 7 + 3, none⟩ = some (.int .u64 sn) := by simpa using hc 3 _ rfl
  have c4 : w.cell? ⟨g, j * 7 + 4, none⟩ = some (.int .i64 how) := by simpa using hc 4 _ rfl
  have c5 : w.cell? ⟨g, j * 7 + 5, none⟩ = some (.int .i64 rd) := by simpa using hc 5 _ rfl
  have c6 : w.cell? ⟨g, j * 7 + 6, none⟩ = some (.int .i64 wr) := by simpa using hc 6 _ rfl
  have f2 := fz (j * 7 + 2)
  have f3 := fz (j * 7 + 3)
  have f4 := fz (j * 7 + 4)
  have f5 := fz (j * 7 + 5)
  have f6 := fz (j * 7 + 6)
  clear fz hc hb hsz
  obtain ⟨th, kd, ad, wd, own, er⟩ := e
  have H1 := h.set ty_len j 2 ⟨tt, fi, at_, sn, how, rd, wr⟩ (.int .i64 at_) hj (by decide) (by rw [ht]; rfl)
  have kb : Keeps (fun q => q = g) w (w.setCell ⟨g, j * 7 + 2, none⟩ (.int .i64 at_)) := Keeps.setCell (S := fun q => q = g) (p := ⟨g, j * 7 + 2, none⟩) (Keeps.refl (fun q => q = g) w) (.inr rfl) (.int .i64 at_)
  have hj1 : j < (L.set j ⟨tt, fi, at_, sn, how, rd, wr⟩).length := by simpa using hj
  have H2 : Hid (∀ f y x, f < 7 → Ty.cl y = (Ty.cl ⟨tt, fi, at_, sn, how, rd, wr⟩).set f x → OwnR Ty.cl 7 54 (((w.setCell ⟨g, j * 7 + 2, none⟩ (.int .i64 at_)).setCell ⟨g, j * 7 + f, none⟩ x).alloc (.cells #[.int .i64 th, .int .i64 kd, .int .u64 ad, .int .u64 wd, .bool own, .int .i64 er] 60)) base (.slice (some ⟨g, 0, none⟩) n cap) (L.set j y) ∧ Keeps (fun q => q = g) w (((w.setCell ⟨g, j * 7 + 2, none⟩ (.int .i64 at_)).setCell ⟨g, j * 7 + f, none⟩ x).alloc (.cells #[.int .i64 th, .int .i64 kd, .int .u64 ad, .int .u64 wd, .bool own, .int .i64 er] 60))) := fun f y x hf hy => by
    have q := H1.set ty_len j f y x hj1 hf (by rw [List.getElem_set_self]; exact hy)
    rw [List.set_set] at q
    exact ⟨q.keeps ((Keeps.refl (fun _ => False) _).alloc _) (fun _ _ f => f), (Keeps.setCell (S := fun q => q = g) kb (.inr rfl) x).alloc _⟩
  have H1' : Hid (OwnR Ty.cl 7 54 ((w.setCell ⟨g, j * 7 + 2, none⟩ (.int .i64 at_)).alloc (.cells #[.int .i64 th, .int .i64 kd, .int .u64 ad, .int .u64 wd, .bool own, .int .i64 er] 60)) base (.slice (some ⟨g, 0, none⟩) n cap) (L.set j ⟨tt, fi, at_, sn, how, rd, wr⟩) ∧ Keeps (fun q => q = g) w ((w.setCell ⟨g, j * 7 + 2, none⟩ (.int .i64 at_)).alloc (.cells #[.int .i64 th, .int .i64 kd, .int .u64 ad, .int .u64 wd, .bool own, .int .i64 er] 60))) := ⟨H1.keeps ((Keeps.refl (fun _ => False) _).alloc _) (fun _ _ f => f), kb.alloc _⟩
  dsimp only at hr hw
  obtain ⟨r0, r1⟩ := hr
  obtain ⟨q0, q1⟩ := hw
  have rw1 : IntKind.i64.wrap (rd + 1) = rd + 1 := by rw [IntKind.wrap_i64]; omega
  have rw2 : IntKind.i64.wrap (wr + 1) = wr + 1 := by rw [IntKind.wrap_i64]; omega
  clear h H1 kb ht hj1
  show Calls Tryz.prog 62 #[.pointer (some ⟨g, j * 7, none⟩), .int .i64 at_, .agg #[.int .i64 th, .int .i64 kd, .int .u64 ad, .int .u64 wd, .bool own, .int .i64 er]] w _
  by_cases h1 : kd = 1
  · subst h1
    go_enter Tryz.func62, Tryz.ntmps62
    go_wp2_with fail
    go_end0
    exact ⟨rfl, H2.out 3 ⟨tt, fi, at_, wd, how, rd, wr⟩ (.int .u64 wd) (by decide) rfl⟩
  · by_cases h4 : kd = 4
    · subst h4
      go_enter Tryz.func62, Tryz.ntmps62
      go_wp2_with fail
      go_end0
      exact ⟨rfl, H2.out 3 ⟨tt, fi, at_, wd, how, rd, wr⟩ (.int .u64 wd) (by decide) rfl⟩
    · by_cases h2 : kd = 2
      · subst h2
        cases own
        · go_enter Tryz.func62, Tryz.ntmps62
          go_wp2_with fail
          go_end0
          exact ⟨rfl, H2.out 5 ⟨tt, fi, at_, sn, how, rd + 1, wr⟩ (.int .i64 (rd + 1)) (by decide) rfl⟩
        · go_enter Tryz.func62, Tryz.ntmps62
          go_wp2_with fail
          go_end0
          exact ⟨rfl, H1'.out⟩
      · by_cases h3 : kd = 3
        · subst h3
          go_enter Tryz.func62, Tryz.ntmps62
          go_wp2_with fail
          go_end0
          exact ⟨rfl, H2.out 6 ⟨tt, fi, at_, sn, how, rd, wr + 1⟩ (.int .i64 (wr + 1)) (by decide) rfl⟩
        · by_cases hE : 6 ≤ kd ∧ kd ≤ 9
          · have e0 : noteT ⟨tt, fi, la, sn, how, rd, wr⟩ at_ ⟨th, kd, ad, wd, own, er⟩ = ⟨tt, fi, at_, sn, kd, rd, wr⟩ := by simp [noteT, endB, h1, h4, h2, h3, hE]
            rw [e0]
            have h2' := fun k => H2.out 4 ⟨tt, fi, at_, sn, k, rd, wr⟩ (.int .i64 k) (by decide) rfl
            rcases (by omega : kd = 6 ∨ kd = 7 ∨ kd = 8 ∨ kd = 9) with rfl | rfl | rfl | rfl
            all_goals
              go_enter Tryz.func62, Tryz.ntmps62
              go_wp2_with fail
              go_end0
              exact ⟨rfl, h2' _⟩
          · have e0 : noteT ⟨tt, fi, la, sn, how, rd, wr⟩ at_ ⟨th, kd, ad, wd, own, er⟩ = ⟨tt, fi, at_, sn, how, rd, wr⟩ := by
              have : endB kd = false := by unfold endB; exact decide_eq_false hE
              simp [noteT, this, h1, h4, h2, h3]
            rw [e0]
            have h6 : ¬ kd = 6 := by omega
            have h7 : ¬ kd = 7 := by omega
            have h8 : ¬ kd = 8 := by omega
            have h9 : ¬ kd = 9 := by omega
            go_enter Tryz.func62, Tryz.ntmps62
            go_wp2_with fail
            go_end0
            exact ⟨rfl, H1'.out⟩
end Go.Proofs.YthmiainhaebjiaaGreatDoor
