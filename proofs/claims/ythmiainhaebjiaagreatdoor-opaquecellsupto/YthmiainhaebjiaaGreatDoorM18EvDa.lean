/-
  No statement of the seat is proved here. (Several texts in one: EvDa, OpP.)
-/
import Derived.Test.YthmiainhaebjiaaGreatDoorM04EvG
import Derived.Test.YthmiainhaebjiaaGreatDoorM17OpO

/- The attempts of a history, each by itself from its Begin on (pure). No statement of the seat is proved here. -/
namespace Go.Proofs.YthmiainhaebjiaaGreatDoor

/-- An event noted as the document does. -/
def noteR (t : Ty) (at_ : Int) (e : Ev) : Ty := ⟨t.th, t.fi, at_, if e.kd = 4 then e.wd else t.sn, if endB e.kd then e.kd else t.how, if e.kd = 2 ∧ e.own = false then t.rd + 1 else t.rd, if e.kd = 3 then t.wr + 1 else t.wr⟩
/-- An attempt from a place on. -/
def tryG (t : Ty) : List Ev → Nat → Ty
  | [], _ => t
  | e :: h, k => if e.th ≠ t.th then tryG t h (k + 1) else if endB e.kd then noteR t k e else tryG (noteR t k e) h (k + 1)
def newT (e : Ev) (k : Nat) : Ty := ⟨e.th, k, k, e.wd, 0, 0, 0⟩
def begs : List Ev → Nat → List Ty
  | [], _ => []
  | e :: h, k => if e.kd = 1 then tryG (newT e k) h (k + 1) :: begs h (k + 1) else begs h (k + 1)
def shutT (g : List Ev) (k : Nat) (t : Ty) : Ty := if t.how = 0 then tryG t g k else t
theorem note_eq {t : Ty} {k : Int} {e : Ev} (h : e.kd ≠ 1) : noteR t k e = noteT t k e := by
  unfold noteR noteT; simp [h]
/-- Open attempts and threads that are inside one another. -/
structure TOpen (S : St) (T : Tr) : Prop where
  o8 : T.o.length = 8
  own : ∀ (i : Nat) (t : Ty), T.l[i]? = some t → t.how = 0 → 0 ≤ t.th ∧ t.th < 8 ∧ T.at t.th.toNat = i + 1
  th : ∀ (i : Nat), T.at i ≠ 0 → ∃ t, T.l[T.at i - 1]? = some t ∧ t.th = (i : Int) ∧ t.how = 0
theorem topen0 : TOpen st0 tr0 := ⟨rfl, fun i t h => by simp [tr0] at h, fun i hi => by
    exfalso; apply hi
    simp only [Tr.at, tr0, List.getElem?_replicate]
    split <;> rfl⟩
theorem shut_map {l : List Ty} {e : Ev} {g : List Ev} {k : Nat} (h : ∀ t ∈ l, t.how = 0 → e.th ≠ t.th) : l.map (shutT (e :: g) k) = l.map (shutT g (k + 1)) := by
  apply List.map_congr_left
  intro t ht
  unfold shutT
  split
  · rename_i h0
    rw [tryG, if_pos (h t ht h0)]
  · rfl
theorem open_step {S : St} {T : Tr} {k : Nat} {e : Ev} (hO : TOpen S T) (hC : TCnt S T k) (he : errE S e = 0) (g : List Ev) :
    TOpen (nextS S e) (stepT T k e) ∧ (stepT T k e).l.map (shutT g (k + 1)) ++ begs g (k + 1) = T.l.map (shutT (e :: g) k) ++ begs (e :: g) k := by
  obtain ⟨hf, ht⟩ := err_turn he
  obtain ⟨f0, f1, f2, f3⟩ := formed_in hf
  have hil : e.th.toNat < T.o.length := by rw [hO.o8]; omega
  have eth : ((e.th.toNat : Nat) : Int) = e.th := by omega
  unfold stepT openT
  by_cases h1 : e.kd = 1
  · have hs1 : (S.sd e.th.toNat).st = 1 := by
      unfold turnN at ht
      by_cases q1 : (S.sd e.th.toNat).st = 1
      · exact q1
      · by_cases q2 : (S.sd e.th.toNat).st = 2
        · simp [q2, h1] at ht
        · by_cases q3 : (S.sd e.th.toNat).st = 3
          · simp [q3, h1] at ht
          · simp [q1, q2, q3] at ht
    have hat := hC.out e.th.toNat (by omega) (by omega) (by omega)
    rw [if_pos h1]
    have hA : (⟨T.l ++ [⟨e.th, k, 0, 0, 0, 0, 0⟩], T.o.set e.th.toNat (T.l.length + 1)⟩ : Tr).at e.th.toNat = T.l.length + 1 := by rw [at_set, if_pos ⟨rfl, hil⟩]
    unfold markT
    simp only [hA]
    rw [if_neg (by omega)]
    have hg : ((T.l ++ [(⟨e.th, k, 0, 0, 0, 0, 0⟩ : Ty)])[T.l.length + 1 - 1]?).getD ty0 = ⟨e.th, k, 0, 0, 0, 0, 0⟩ := by
      rw [List.getElem?_append_right (by omega)]; simp
    have hnt : noteT (⟨e.th, k, 0, 0, 0, 0, 0⟩ : Ty) k e = newT e k := by
      simp [noteT, newT, endB, h1]
    rw [hg, hnt]
    have hset : (T.l ++ [(⟨e.th, k, 0, 0, 0, 0, 0⟩ : Ty)]).set (T.l.length + 1 - 1) (newT e k) = T.l ++ [newT e k] := by
      rw [Nat.add_sub_cancel, List.set_append_right _ _ (Nat.le_refl _)]; simp
    rw [hset]
    have hnone : ∀ (i : Nat) (t : Ty), T.l[i]? = some t → t.how = 0 → e.th ≠ t.th := fun i t hi h0 hth => by
      have := hO.own i t hi h0
      rw [← hth, hat] at this; omega
    simp only [show (newT e k).how = 0 from rfl, if_true]
    refine ⟨⟨by simpa using hO.o8, fun i t hi h0 => ?_, fun i hi => ?_⟩, ?_⟩
    · rcases Nat.lt_or_ge i T.l.length with hlt | hge
      · rw [List.getElem?_append_left hlt] at hi
        have hne := hnone i t hi h0
        obtain ⟨a1, a2, a3⟩ := hO.own i t hi h0
        refine ⟨a1, a2, ?_⟩
        rw [at_set, if_neg (fun q => hne (by omega))]
        exact a3
      · rw [List.getElem?_append_right hge] at hi
        have hi0 : i - T.l.length = 0 := by
          rcases Nat.eq_zero_or_pos (i - T.l.length) with q | q
          · exact q
          · rw [List.getElem?_eq_none (by simp only [List.length_singleton]; omega)] at hi; cases hi
        rw [hi0] at hi
        simp at hi
        subst hi
        refine ⟨f0, f1, ?_⟩
        show (⟨_, T.o.set e.th.toNat (T.l.length + 1)⟩ : Tr).at e.th.toNat = i + 1
        rw [at_set, if_pos ⟨rfl, hil⟩]; omega
    · rw [at_set] at hi ⊢
      by_cases hie : i = e.th.toNat ∧ e.th.toNat < T.o.length
      · rw [if_pos hie]
        exact ⟨newT e k, by simp, by show e.th = (i : Int); omega, rfl⟩
      · rw [if_neg hie] at hi ⊢
        obtain ⟨t, q1, q2, q3⟩ := hO.th i hi
        exact ⟨t, by show (T.l ++ _)[_]? = _; rw [List.getElem?_append_left (List.getElem?_eq_some_iff.1 q1).1]; exact q1, q2, q3⟩
    · rw [shut_map (fun t ht h0 => by obtain ⟨i, hi⟩ := List.getElem?_of_mem ht; exact hnone i t hi h0)]
      rw [begs, if_pos h1]
      simp [shutT, newT]
  · rw [if_neg h1, begs, if_neg h1]
    unfold markT
    by_cases h0 : T.at e.th.toNat = 0
    · rw [if_pos h0]
      refine ⟨⟨hO.o8, hO.own, hO.th⟩, ?_⟩
      rw [shut_map (fun t ht hw hth => by
        obtain ⟨i, hi⟩ := List.getElem?_of_mem ht
        have := hO.own i t hi hw
        rw [← hth, h0] at this; omega)]
    · rw [if_neg h0]
      obtain ⟨t, htt, hth, hw⟩ := hO.th _ h0
      have hg : (T.l[T.at e.th.toNat - 1]?).getD ty0 = t := by rw [htt]; rfl
      simp only [hg]
      obtain ⟨hlt, hte⟩ := List.getElem?_eq_some_iff.1 htt
      have hte' : t.th = e.th := by omega
      have hnth : (noteT t k e).th = e.th := hte'
      have oth : ∀ (i : Nat) (u : Ty), i ≠ T.at e.th.toNat - 1 → T.l[i]? = some u → u.how = 0 → e.th ≠ u.th := fun i u hi hu hh hc => by
        have := hO.own i u hu hh
        rw [← hc] at this; omega
      have hmap : (T.l.set (T.at e.th.toNat - 1) (noteT t k e)).map (shutT g (k + 1)) = T.l.map (shutT (e :: g) k) := by
        apply List.ext_getElem?
        intro i
        rw [List.getElem?_map, List.getElem?_map, List.getElem?_set]
        by_cases hi : T.at e.th.toNat - 1 = i
        · rw [if_pos hi, if_pos (by omega), ← hi, htt]
          simp only [Option.map_some, Option.some.injEq]
          have e1 : shutT (e :: g) k t = tryG t (e :: g) k := by unfold shutT; rw [if_pos hw]
          rw [e1, tryG, if_neg (by rw [hte']; simp), note_eq h1]
          unfold shutT
          by_cases hE : endB e.kd = true
          · rw [if_pos hE, if_neg]
            simp [noteT, hE]; omega
          · rw [if_neg hE, if_pos]
            simp [noteT, hE, hw]
        · rw [if_neg hi]
          cases hu : T.l[i]? with
          | none => rfl
          | some u =>
            simp only [Option.map_some, Option.some.injEq]
            unfold shutT
            split
            · rename_i hh
              rw [tryG, if_pos (oth i u (fun q => hi q.symm) hu hh)]
            · rfl
      by_cases hn : (noteT t k e).how = 0
      · simp only [if_pos hn]
        refine ⟨⟨hO.o8, fun i u hi hh => ?_, fun i hi => ?_⟩, by rw [hmap]⟩
        · by_cases hie : T.at e.th.toNat - 1 = i
          · subst hie
            rw [List.getElem?_set_self hlt] at hi
            cases hi
            refine ⟨by omega, by omega, ?_⟩
            rw [hnth]; show T.at e.th.toNat = _; omega
          · rw [List.getElem?_set_ne hie] at hi
            exact hO.own i u hi hh
        · by_cases hie : i = e.th.toNat
          · subst hie
            exact ⟨noteT t k e, List.getElem?_set_self hlt, by rw [hnth]; omega, hn⟩
          · obtain ⟨u, q1, q2, q3⟩ := hO.th i hi
            refine ⟨u, ?_, q2, q3⟩
            show (T.l.set _ _)[T.at i - 1]? = _
            rw [List.getElem?_set_ne]
            · exact q1
            · intro hc
              rw [← hc, htt] at q1
              cases q1; omega
      · simp only [if_neg hn]
        refine ⟨⟨by simpa using hO.o8, fun i u hi hh => ?_, fun i hi => ?_⟩, by rw [hmap]⟩
        · by_cases hie : T.at e.th.toNat - 1 = i
          · subst hie
            rw [List.getElem?_set_self hlt] at hi
            cases hi
            exact absurd hh hn
          · rw [List.getElem?_set_ne hie] at hi
            obtain ⟨a1, a2, a3⟩ := hO.own i u hi hh
            refine ⟨a1, a2, ?_⟩
            rw [at_set, if_neg]
            · exact a3
            · rintro ⟨q, -⟩
              rw [q] at a3; omega
        · rw [at_set] at hi ⊢
          by_cases hie : i = e.th.toNat ∧ e.th.toNat < T.o.length
          · rw [if_pos hie] at hi; exact absurd rfl hi
          · rw [if_neg hie] at hi ⊢
            obtain ⟨u, q1, q2, q3⟩ := hO.th i hi
            refine ⟨u, ?_, q2, q3⟩
            show (T.l.set _ _)[T.at i - 1]? = _
            rw [List.getElem?_set_ne]
            · exact q1
            · intro hc
              rw [← hc, htt] at q1
              cases q1
              exact hie ⟨by omega, hil⟩
theorem tries_each : ∀ (g : List Ev) (S : St) (T : Tr) (k : Nat), TOpen S T → TCnt S T k → TInv T k → (chk S g k).2 = 0 → (triesF T g k).l = T.l.map (shutT g k) ++ begs g k
  | [], S, T, k, _, _, _, _ => by
    have : T.l.map (shutT [] k) = T.l := by
      conv => rhs; rw [← List.map_id T.l]
      apply List.map_congr_left
      intro t _
      unfold shutT tryG
      split <;> rfl
    rw [triesF, this, begs, List.append_nil]
  | e :: g, S, T, k, hO, hC, hI, hz => by
    rw [chk] at hz
    by_cases he : errE S e = 0
    · rw [if_pos he] at hz
      obtain ⟨o1, o2⟩ := open_step hO hC he g
      rw [triesF, tries_each g (nextS S e) (stepT T k e) (k + 1) o1 (cnt_step hC hI he) (mark_inv (open_inv hI e).1 e).1 hz, o2]
    · rw [if_neg he] at hz; exact absurd hz he
/-- The attempts of a history that can be, each by itself. -/
theorem tries_begs {L : List Ev} (hz : (checkL L).2 = 0) : triesL L = begs L 0 := by
  have := tries_each L st0 tr0 0 topen0 cnt0 tr0_inv hz
  unfold triesL
  rw [this]; rfl
end Go.Proofs.YthmiainhaebjiaaGreatDoor


/- Attempts and blocks of one history; a past as it lies; how many commits stand ahead. No statement of the seat is proved here. -/
namespace Go.Proofs.YthmiainhaebjiaaGreatDoor
open Go.RowKit Go.Shelf

theorem rel_tp : ∀ (h : List Ev) (t : Ty) (p : Pt) (k : Nat), t.th = p.th → t.fi = p.fi → t.la = p.la → (tryG t h k).th = (blkG p h k).th ∧ (tryG t h k).fi = (blkG p h k).fi ∧ (tryG t h k).la = (blkG p h k).la
  | [], _, _, _, h1, h2, h3 => ⟨h1, h2, h3⟩
  | e :: h, t, p, k, h1, h2, h3 => by
    rw [tryG, blkG, h1]
    by_cases q : e.th ≠ p.th
    · rw [if_pos q, if_pos q]; exact rel_tp h t p _ h1 h2 h3
    · rw [if_neg q, if_neg q]
      by_cases r : endB e.kd = true
      · rw [if_pos r, if_pos r]
        exact ⟨by rw [noteP_th]; exact h1, by rw [noteP_fi]; exact h2, by rw [noteP_la]; rfl⟩
      · rw [if_neg r, if_neg r]
        exact rel_tp h _ _ _ (by rw [noteP_th]; exact h1) (by rw [noteP_fi]; exact h2) (by rw [noteP_la]; rfl)
def key3 (p : Pt) : Int × Int × Int := (p.th, p.fi, p.la)
def key3T (t : Ty) : Int × Int × Int := (t.th, t.fi, t.la)
theorem begs_rel : ∀ (h : List Ev) (k : Nat), (begs h k).map key3T = (begP h k).map key3
  | [], _ => rfl
  | e :: h, k => by
    rw [begs, begP]
    by_cases q : e.kd = 1
    · rw [if_pos q, if_pos q, List.map_cons, List.map_cons, begs_rel h]
      obtain ⟨a, b, c⟩ := rel_tp h (newT e k) (newP e k) (k + 1) (newP_th e k).symm (by rw [show (newP e k).fi = k from noteP_fi _ _ _]; rfl) (by rw [show (newP e k).la = k from noteP_la _ _ _]; rfl)
      unfold key3 key3T
      rw [a, b, c]
    · rw [if_neg q, if_neg q]; exact begs_rel h _
theorem begP_le : ∀ (h : List Ev) (k : Nat), ∀ p ∈ begP h k, p.fi ≤ p.la
  | [], _, p, hp => by simp [begP] at hp
  | e :: h, k, p, hp => by
    rw [begP] at hp
    by_cases q : e.kd = 1
    · rw [if_pos q] at hp
      rcases List.mem_cons.1 hp with rfl | hp
      · rw [blkG_fi]
        have h1 : (newP e k).fi = k := noteP_fi _ _ _
        have h2 : (newP e k).la = k := noteP_la _ _ _
        rcases blkG_la h (newP e k) (k + 1) with q | q
        · rw [q]; omega
        · omega
      · exact begP_le h _ p hp
    · rw [if_neg q] at hp; exact begP_le h _ p hp
/-- Attempts and blocks go together. -/
theorem tries_parts {L : List Ev} (hz : (checkL L).2 = 0) : (triesL L).map key3T = (partsL L).map key3 := by
  rw [tries_begs hz, parts_begs hz]; exact begs_rel L 0
theorem tries_le {L : List Ev} (hz : (checkL L).2 = 0) : ∀ t ∈ triesL L, t.fi ≤ t.la := fun t ht => by
  have h1 : key3T t ∈ (partsL L).map key3 := by rw [← tries_parts hz]; exact List.mem_map.2 ⟨t, ht, rfl⟩
  obtain ⟨p, hp, e⟩ := List.mem_map.1 h1
  have h2 := begP_le L 0 p (by rw [← parts_begs hz]; exact hp)
  unfold key3 key3T at e
  injection e with _ e
  injection e with e1 e2
  omega
/-- How many writing commits stand ahead of a place. -/
def cntL (W : List Pt) (t : Int) : Nat := W.countP (fun p => decide (p.la < t))
theorem cntL_at {W : List Pt} {t : Int} {c : Nat} (hc : c ≤ W.length) (h1 : ∀ j (hj : j < W.length), j < c → (W[j]).la < t) (h2 : ∀ j (hj : j < W.length), c ≤ j → t ≤ (W[j]).la) : cntL W t = c := by
  unfold cntL
  rw [← List.take_append_drop c W, List.countP_append]
  have e1 : (W.take c).countP (fun p => decide (p.la < t)) = c := by
    have : (W.take c).countP (fun p => decide (p.la < t)) = (W.take c).length := by
      rw [List.countP_eq_length]
      intro p hp
      obtain ⟨j, hj, rfl⟩ := List.getElem_of_mem hp
      rw [List.length_take] at hj
      rw [List.getElem_take, decide_eq_true_eq]
      exact h1 j (by omega) (by omega)
    rw [this, List.length_take]; omega
  have e2 : (W.drop c).countP (fun p => decide (p.la < t)) = 0 := by
    rw [List.countP_eq_zero]
    intro p hp
    obtain ⟨j, hj, rfl⟩ := List.getElem_of_mem hp
    rw [List.length_drop] at hj
    rw [List.getElem_drop, decide_eq_true_eq]
    have := h2 (c + j) (by omega) (by omega)
    omega
  rw [e1, e2, Nat.add_zero]
theorem cntL_le (W : List Pt) (t : Int) : cntL W t ≤ W.length := List.countP_le_length
theorem cntL_mono (W : List Pt) {t u : Int} (h : t ≤ u) : cntL W t ≤ cntL W u := by
  unfold cntL
  apply List.countP_mono_left
  intro p _ hp
  rw [decide_eq_true_eq] at hp ⊢
  omega
/-- What is said of an attempt. -/
structure Sg where
  t : Ty
  fr : Int
  up : Int
  at_ : Int
@[reducible] def Sg.cl (s : Sg) : List Value := [.int .i64 s.t.th, .int .i64 s.t.fi, .int .i64 s.t.la, .int .u64 s.t.sn, .int .i64 s.t.how, .int .i64 s.t.rd, .int .i64 s.t.wr, .int .i64 s.fr, .int .i64 s.up, .int .i64 s.at_]
theorem sg_len (s : Sg) : s.cl.length = 10 := rfl
theorem sg_ne (s : Sg) : s.cl ≠ [] := by simp
theorem sg_one (s : Sg) : ∀ u ∈ s.cl, u.oneCell' = true := by
  intro u hu
  simp at hu
  rcases hu with rfl | rfl | rfl | rfl | rfl | rfl | rfl | rfl | rfl | rfl <;> rfl
theorem info_sg : (Tryz.prog.info? 56).map (fun i => (i.zero, i.size, i.bytes)) = some (some (.agg #[.int .i64 0, .int .i64 0, .int .i64 0, .int .u64 0, .int .i64 0, .int .i64 0, .int .i64 0, .int .i64 0, .int .i64 0, .int .i64 0]), 10, 80) := by kernel_rfl
abbrev SR (w : World) (base : Nat) (v : Value) (L : List Sg) : Prop := OwnR Sg.cl 10 56 w base v L
def lastT (l : List Int) : Int := (l.getLast?).getD (-1)
def sgOf (F : List Int) (W : List Pt) (t : Ty) (rs : List (Int × Int)) : Sg := ⟨t, cntL W t.fi, cntL W (t.la + 1), lastT (togL F W (cntL W t.fi) (cntL W (t.la + 1)) rs)⟩
def sgK (F : List Int) (W : List Pt) (T : List Ty) (P : List Pt) (k : Nat) : List Sg := (List.range k).map fun j => sgOf F W ((T[j]?).getD ty0) ((P[j]?).getD pt0).rs
theorem sgK_len (F : List Int) (W : List Pt) (T : List Ty) (P : List Pt) (k : Nat) : (sgK F W T P k).length = k := by simp [sgK]
theorem sgK_succ (F : List Int) (W : List Pt) (T : List Ty) (P : List Pt) (k : Nat) (h1 : k < T.length) (h2 : k < P.length) : sgK F W T P (k + 1) = sgK F W T P k ++ [sgOf F W (T[k]) (P[k]).rs] := by
  unfold sgK
  rw [List.range_succ, List.map_append]
  simp [h1, h2]
/-- A past as it lies. -/
structure PaAt (w : World) (pb mb b2 : Nat) (vF vT vB vW : Value) (F : List Int) (T : List Ty) (X Y : List Bx) (f : Int → Option Sl) : Prop where
  blk : w.heap[pb]? = some (pastC vF vT vB vW mb)
  ws : WsAt w vF F
  tr : ElsAt Ty.cl 7 w vT T
  bl : ElsAt Bx.cb 9 w vB X
  rd : ∀ x ∈ X, ElsAt enC 3 w x.r.v x.p.rs
  wt : ∀ x ∈ X, ElsAt enC 3 w x.s.v x.p.ws
  wr : ElsAt Bx.cb 9 w vW Y
  st : StAt w mb b2 f (setN F (Y.map (·.p)) Y.length)
/-- What is known of it. -/
structure PuA (F : List Int) (T : List Ty) (X Y : List Bx) : Prop where
  up : Y.Pairwise (fun p q => p.p.la < q.p.la)
  perm : Y.Perm (X.filter fun x => x.p.wr)
  xl : X.length ≤ 1050000
  tl : T.length = X.length
  inr : ∀ x ∈ X, (∀ e ∈ x.p.rs, 0 ≤ e.1 ∧ e.1 < (F.length : Int)) ∧ (∀ e ∈ x.p.ws, 0 ≤ e.1 ∧ e.1 < (F.length : Int))
  rl : ∀ x ∈ X, x.p.rs.length ≤ 1050000 ∧ x.p.ws.length ≤ 1050000
  fl : F.length ≤ 65536
  tle : ∀ t ∈ T, t.fi ≤ t.la ∧ 0 ≤ t.fi ∧ t.la < 1100000
theorem PuA.yX {F : List Int} {T : List Ty} {X Y : List Bx} (h : PuA F T X Y) {y : Bx} (hy : y ∈ Y) : y ∈ X := (List.mem_filter.1 (h.perm.mem_iff.1 hy)).1
theorem PuA.yl {F : List Int} {T : List Ty} {X Y : List Bx} (h : PuA F T X Y) : Y.length ≤ 1050000 := by
  have := h.perm.length_eq
  have := List.length_filter_le (fun x : Bx => x.p.wr) X
  have := h.xl
  omega
theorem PaAt.keeps {w w' : World} {pb mb b2 : Nat} {vF vT vB vW : Value} {F : List Int} {T : List Ty} {X Y : List Bx} {f : Int → Option Sl} (h : PaAt w pb mb b2 vF vT vB vW F T X Y f) (k : Keeps (fun _ => False) w w') : PaAt w' pb mb b2 vF vT vB vW F T X Y f :=
  ⟨(k.block pb (lt_of_block h.blk) (fun f => f)).trans h.blk, h.ws.keeps wC_ne k, h.tr.keeps ty_ne k, h.bl.keeps cb_ne k, fun x hx => (h.rd x hx).keeps en_ne k, fun x hx => (h.wt x hx).keeps en_ne k, h.wr.keeps cb_ne k, h.st.keeps k (fun f => f) (fun _ _ _ f => f)⟩
theorem PaAt.pa {w : World} {pb mb b2 : Nat} {vF vT vB vW : Value} {F : List Int} {T : List Ty} {X Y : List Bx} {f : Int → Option Sl} (h : PaAt w pb mb b2 vF vT vB vW F T X Y f) (u : PuA F T X Y) : PA w pb mb b2 vF F f (Y.map (·.p)) := by
  refine ⟨by rw [cell_of_block h.blk]; rfl, by rw [cell_of_block h.blk]; rfl, h.ws, by rw [List.length_map]; exact h.st, ?_, by rw [List.length_map]; exact u.yl⟩
  refine sinv_all (fun p hp e he => ?_) _ (Nat.le_refl _)
  obtain ⟨y, hy, rfl⟩ := List.mem_map.1 hp
  exact (u.inr y (u.yX hy)).2 e he
theorem ahead_cnt (pb : Nat) (v : Value) (Y : List Bx) (t : Int) (hl : Y.length ≤ 1100000) (hs : Y.Pairwise (fun p q => p.p.la < q.p.la)) (w : World) (c3 : w.cell? ⟨pb, 3, none⟩ = some v) (h : ElsAt Bx.cb 9 w v Y) : Calls Tryz.prog 60 #[.pointer (some ⟨pb, 0, none⟩), .int .i64 t] w fun ex w' => ex = .returned (.int .i64 (cntL (Y.map (·.p)) t : Int)) ∧ Keeps (fun _ => False) w w' := by
  refine (oahead_any pb v Y t hl hs w c3 h).mono ?_
  rintro ex w' ⟨c, rfl, h1, h2, h3, k⟩
  have : cntL (Y.map (·.p)) t = c := cntL_at (by simpa using h1) (fun j hj q => by rw [List.getElem_map]; exact h2 j (by simpa using hj) q) (fun j hj q => by rw [List.getElem_map]; exact h3 j (by simpa using hj) q)
  rw [this]
  exact ⟨rfl, k⟩
end Go.Proofs.YthmiainhaebjiaaGreatDoor
