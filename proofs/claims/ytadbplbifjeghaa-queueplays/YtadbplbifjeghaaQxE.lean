
/- Pure (layer 23): Take and Drop of a queue in a room; the looks. No statement of the seat is proved here. -/
import Derived.Test.YtadbplbifjeghaaQxM
import Derived.Test.YtadbplbifjeghaaQwF
namespace Go.Proofs.Ytadbplbifjeghaa
open Go.RowKit

theorem pcq_cons (a n : Int) (ns : List Int) (R : List (Int × Int)) : (pcq ⟨a, n :: ns⟩ ++ R).Perm ((n, (2 : Int)) :: (pcq ⟨a, ns⟩ ++ R)) := by
  show ((a, (3 : Int)) :: (n, 2) :: (ns.map (fun n => (n, (2 : Int))) ++ R)).Perm ((n, 2) :: (a, 3) :: (ns.map (fun n => (n, (2 : Int))) ++ R))
  exact List.Perm.swap _ _ _
theorem lastL_cons {a b : Int} : ∀ {n : Int} {ns : List Int}, ns ≠ [] → lastL a (n :: ns) = lastL b ns
  | _, [], h => absurd rfl h
  | _, _ :: _, _ => rfl
section
variable {s r : Wd} {N K : Int} {bk : Nat → List Int} {R : List (Int × Int)} {q : Qu}
theorem take_none (hs : Rm s 18 N (pcq q ++ R) bk) (gs : Gd s K) (hK : K + 40 < 4611686018427387904) (hwh : Wh s.W q.a q.ns) (h0 : q.ns = []) :
    ∃ s', Wd.qtake 0 q.a s = (((0, false), 0), s') ∧ s'.W = s.W ∧ Gd s' (K + 40) := by
  obtain ⟨s1, p1, w1, m1, g1⟩ := get_out' hs gs (by omega) (c := q.a) (mem_q q R) (by omega) (by omega)
  have e : oat s.W q.a.toNat = 0 := by have p := hwh.2.2.2.2.1; rw [h0] at p; exact p
  rw [e] at p1
  refine ⟨s1, ?_, w1, g1.more (by omega) hK⟩
  unfold Wd.qtake
  rw [bnd_ok p1]
  rfl
set_option maxRecDepth 100000 in
theorem take_one {n : Int} {ns : List Int} (hq : q.ns = n :: ns) (hs : Rm s 18 N (pcq q ++ R) bk) (hr : Rm r 18 N (pcq q ++ R) bk) (hn : nx s = nx r) (gs : Gd s K) (gr : Gd r K) (hK : K + 40 < 4611686018427387904) (hwh : Wh s.W q.a q.ns) :
    ∃ bk' s' r', Wd.qtake 0 q.a s = (((oat s.W n.toNat, true), 0), s') ∧ r.give 0 n 2 = (0, r') ∧ Rm s' 18 N (pcq ⟨q.a, ns⟩ ++ R) bk' ∧ Rm r' 18 N (pcq ⟨q.a, ns⟩ ++ R) bk' ∧ nx s' = nx r' ∧ Wh s'.W q.a ns ∧ Qu.ws s'.W ⟨q.a, ns⟩ = Qu.ws s.W ⟨q.a, ns⟩ ∧ (∀ c, inP R c → oat s'.W c.toNat = oat s.W c.toNat) ∧ s'.W.length = s.W.length ∧ Gd s' (K + 40) ∧ Gd r' (K + 40) ∧ nx s' = nx s := by
  obtain ⟨qa, qns⟩ := q
  dsimp only at hq hwh ⊢
  subst hq
  have ap : Ap ⟨qa, n :: ns⟩ R := hs.ap
  have bq := hs.inb (mem_q ⟨qa, n :: ns⟩ R)
  dsimp only at bq
  have bn : ∀ m ∈ n :: ns, 18 ≤ m ∧ m + 2 ≤ N := fun m hm => by have := hs.inb (mem_n (q := ⟨qa, n :: ns⟩) (R := R) hm); omega
  have bn0 := bn n List.mem_cons_self
  have nq : ∀ m ∈ n :: ns, ∀ c, m ≤ c → c < m + 2 → ∀ c', qa ≤ c' → c' < qa + 3 → c ≠ c' := fun m hm c h1 h2 c' h3 h4 => (pd_ne (ap.qn m hm) (c := c') (c' := c) h3 h4 h1 h2).symm
  obtain ⟨w0, wl, wc, wm, wk, wlast⟩ := hwh
  obtain ⟨s1, p1, w1, m1, g1⟩ := get_out' hs gs (by omega) (c := qa) (mem_q _ R) (by show qa ≤ qa; omega) (by show qa < qa + 3; omega)
  rw [wk.1] at p1
  have en : nodeA (n + 1) = n := by rw [nodeA_of (by omega) ⟨by omega, by omega⟩]; omega
  have l1 : (s1.W.length : Int) = N := by rw [w1]; omega
  have g2 := gets2_in (s := s1) (a := n) g1.lk (by omega) (by omega) (by omega) g1.ok.2
  rw [w1] at g2
  have gd2 : Gd s1.dec.dec (K + 1 + 1 + 1) := ⟨(g1.lk.dec (by omega)).dec (by omega), g1.ok⟩
  have m2 : Rm s1.dec.dec 18 N (pcq ⟨qa, n :: ns⟩ ++ R) bk := m1.same rfl
  have hnx : isW (oat s.W (n + 1).toNat) := oat_isW gs.ok.1 _
  have wkk := wk.2.2.2
  -- unhang
  obtain ⟨s3, p3, w3, m3, g3⟩ := put_out m2 gd2 (by omega) (x := oat s.W (n + 1).toNat) (c := qa) (mem_q _ R) (by show qa ≤ qa; omega) (by show qa < qa + 3; omega) hnx
  have ws2 : s1.dec.dec.W = s.W := w1
  obtain ⟨s4, hu, w4, m4, g4, o41, o4⟩ : ∃ s4, unhangU qa (oat s.W (n + 1).toNat) s1.dec.dec = (((), 0), s4) ∧ s4.W.length = s.W.length ∧ Rm s4 18 N (pcq ⟨qa, n :: ns⟩ ++ R) bk ∧ Gd s4 (K + 6) ∧ oat s4.W (qa + 1).toNat = lastL 0 ns ∧ (∀ c, 0 ≤ c → c ≠ qa + 1 → oat s4.W c.toNat = oat (s.W.set qa.toNat (oat s.W (n + 1).toNat)) c.toNat) := by
    cases hns : ns with
    | nil =>
      rw [hns] at wkk
      have z : oat s.W (n + 1).toNat = 0 := wkk
      obtain ⟨s4, p4, w4, m4, g4⟩ := put_out m3 g3 (by omega) (x := 0) (c := qa + 1) (mem_q _ R) (by show qa ≤ qa + 1; omega) (by show qa + 1 < qa + 3; omega) zero_isW'
      refine ⟨s4, ?_, by rw [w4, w3, ws2]; simp, by rw [← hns]; exact m4, g4.more (by omega) (by omega), ?_, fun c hc hca => ?_⟩
      · unfold unhangU
        rw [bnd_ok (putU_of p3), if_pos z, q1_of (by omega) (by omega)]
        exact putU_of p4
      · rw [w4]
        exact oat_set_eq (by omega) (by rw [w3, List.length_set, ws2]; omega)
      · rw [w4, oat_set_ne (by omega) (by omega) (Ne.symm hca), w3, ws2]
    | cons k ks =>
      rw [hns] at wkk
      have hk0 := (bn k (by rw [hns]; simp)).1
      have z : oat s.W (n + 1).toNat ≠ 0 := by have := wkk.1; omega
      refine ⟨s3, ?_, by rw [w3, ws2]; simp, by rw [← hns]; exact m3, g3.more (by omega) (by omega), ?_, fun c hc hca => by rw [w3, ws2]⟩
      · unfold unhangU
        rw [bnd_ok (putU_of p3), if_neg z]
        rfl
      · rw [w3, ws2, oat_set_ne (by omega) (by omega) (by omega), wlast, hns]
        rfl
  obtain ⟨s5, p5, w5, m5, g5⟩ := get_out' m4 g4 (by omega) (c := qa + 2) (mem_q _ R) (by show qa ≤ qa + 2; omega) (by show qa + 2 < qa + 3; omega)
  have v5 : oat s4.W (qa + 2).toNat = ((n :: ns).length : Int) := by
    rw [o4 _ (by omega) (by omega), oat_set_ne (by omega) (by omega) (by omega)]
    exact wc
  rw [v5] at p5
  obtain ⟨s6, p6, w6, m6, g6⟩ := put_out m5 g5 (by omega) (x := (ns.length : Int)) (c := qa + 2) (mem_q _ R) (by show qa ≤ qa + 2; omega) (by show qa + 2 < qa + 3; omega) ⟨by omega, by simp at wm; omega⟩
  have hrec : recountU qa oneFewer s4 = (((), 0), s6) := by
    unfold recountU
    rw [q2_of (by omega) (by omega), bnd_ok p5]
    have e : uw (((n :: ns).length : Int) + oneFewer) = (ns.length : Int) := by
      unfold uw oneFewer
      rw [IntKind.wrap_u64]
      simp at wm ⊢
      omega
    rw [e]
    exact putU_of p6
  have perm := pcq_cons qa n ns R
  obtain ⟨s7, p7, m7, n7, o7, l7, g7⟩ := gave_one m6 g6 (by omega) 2 (by omega) (by omega) n perm
  obtain ⟨r7, q7, mr7, nr7, _, _, gr7⟩ := gave_one hr gr (by omega) 2 (by omega) (by omega) n perm
  have l6 : s6.W.length = s.W.length := by rw [w6, List.length_set, w5]; exact w4
  have hlen : s7.W.length = s.W.length := l7.trans l6
  have o6 : ∀ c, 0 ≤ c → c ≠ qa + 1 → c ≠ qa + 2 → oat s6.W c.toNat = oat (s.W.set qa.toNat (oat s.W (n + 1).toNat)) c.toNat := fun c h0 h1 h2 => by
    rw [w6, oat_set_ne (by omega) (by omega) (Ne.symm h2), w5]
    exact o4 c h0 h1
  have oq : oat s7.W qa.toNat = oat s.W (n + 1).toNat := by
    rw [o7 _ (by omega) (toNat_ne (by omega) (by omega) (nq n List.mem_cons_self n (by omega) (by omega) qa (by omega) (by omega)).symm), o6 _ (by omega) (by omega) (by omega)]
    exact oat_set_eq (by omega) (by omega)
  have oq1 : oat s7.W (qa + 1).toNat = lastL 0 ns := by
    rw [o7 _ (by omega) (toNat_ne (by omega) (by omega) (nq n List.mem_cons_self n (by omega) (by omega) (qa + 1) (by omega) (by omega)).symm), w6, oat_set_ne (by omega) (by omega) (by omega), w5]
    exact o41
  have oq2 : oat s7.W (qa + 2).toNat = ns.length := by
    rw [o7 _ (by omega) (toNat_ne (by omega) (by omega) (nq n List.mem_cons_self n (by omega) (by omega) (qa + 2) (by omega) (by omega)).symm), w6]
    exact oat_set_eq (by omega) (by rw [w5, w4]; omega)
  have oc : ∀ c, 18 ≤ c → c ≠ n → c ≠ qa → c ≠ qa + 1 → c ≠ qa + 2 → oat s7.W c.toNat = oat s.W c.toNat := fun c h0 h1 h2 h3 h4 => by
    rw [o7 _ (by omega) (toNat_ne (by omega) (by omega) h1), o6 c (by omega) h3 h4]
    exact oat_set_ne (by omega) (by omega) (Ne.symm h2)
  have onode : ∀ m ∈ ns, ∀ c, m ≤ c → c < m + 2 → oat s7.W c.toNat = oat s.W c.toNat := fun m hm c h1 h2 => by
    have hm' := List.mem_cons_of_mem n hm
    have bm := bn m hm'
    have hnm : n ≠ m := fun e => (List.nodup_cons.1 ap.nd).1 (by rw [e]; exact hm)
    have t := pd_ne (ap.nn n List.mem_cons_self m hm' hnm) (c := n) (c' := c) (by show n ≤ n; omega) (by show n < n + 2; omega) h1 h2
    exact oc c (by omega) t.symm (nq m hm' c h1 h2 qa (by omega) (by omega)) (nq m hm' c h1 h2 (qa + 1) (by omega) (by omega)) (nq m hm' c h1 h2 (qa + 2) (by omega) (by omega))
  have n7' : nx s6 = nx s := by
    show oat s6.W 0 = oat s.W 0
    have e := o6 0 (by omega) (by omega) (by omega)
    have z : (0 : Int).toNat = 0 := rfl
    rw [z] at e
    rw [e]
    exact oat_ne (by omega)
  refine ⟨_, s7, r7, ?_, q7, m7, mr7, by rw [n7, nr7, n7', hn], ⟨w0, by rw [hlen]; exact wl, oq2, by simp at wm; omega, ?_, oq1⟩, ?_, fun c hc => ?_, hlen, g7.more (by omega) hK, gr7.more (by omega) hK, by rw [n7, n7']⟩
  · unfold Wd.qtake
    rw [bnd_ok p1, if_neg (by omega), en, bnd_ok g2]
    have e0 : oat [oat s.W n.toNat, oat s.W (n + 1).toNat] 0 = oat s.W n.toNat := rfl
    have e1 : oat [oat s.W n.toNat, oat s.W (n + 1).toNat] 1 = oat s.W (n + 1).toNat := rfl
    rw [e0, e1, bnd_ok hu, bnd_ok hrec]
    have eg : giveU 0 n 2 s6 = (((), 0), s7) := by unfold giveU; rw [show s6.give 0 n 2 = (0, s7) from p7]
    rw [bnd_ok eg]
    rfl
  · rw [oq]
    exact lk_same hlen (fun m hm => onode m hm (m + 1) (by omega) (by omega)) wkk
  · unfold Qu.ws
    exact List.map_congr_left fun m hm => onode m hm m (by omega) (by omega)
  · obtain ⟨p, hp, c1, c2⟩ := hc
    have bp := hs.inb (a := p.1) (n := p.2) (List.mem_append_right _ hp)
    have t1 := ap.qR p hp
    have t2 := ap.nR n List.mem_cons_self p hp
    exact oc c (by omega) (pd_ne t2 (c := n) (c' := c) (by show n ≤ n; omega) (by show n < n + 2; omega) c1 c2).symm (pd_ne t1 (c := qa) (c' := c) (by show qa ≤ qa; omega) (by show qa < qa + 3; omega) c1 c2).symm (pd_ne t1 (c := qa + 1) (c' := c) (by show qa ≤ qa + 1; omega) (by show qa + 1 < qa + 3; omega) c1 c2).symm (pd_ne t1 (c := qa + 2) (c' := c) (by show qa ≤ qa + 2; omega) (by show qa + 2 < qa + 3; omega) c1 c2).symm

/-- Many nodes given back. -/
theorem gives_ok : ∀ (ns : List Int) (f : Int → Int) (s : Wd) (K : Int) (bk : Nat → List Int) (P : List (Int × Int)), Rm s 18 N (ns.map (fun n => (n, (2 : Int))) ++ P) bk → Gd s K → K + 4 * ns.length + 40 < 4611686018427387904 →
    ∃ s', givesU 0 (ns.map fun n => (n, f n)) s = (((), 0), s') ∧ Rm s' 18 N P (updL bk 2 (bk 2 ++ ns)) ∧ nx s' = nx s ∧ (∀ c, 18 ≤ c → (∀ n ∈ ns, c ≠ n.toNat) → oat s'.W c = oat s.W c) ∧ s'.W.length = s.W.length ∧ Gd s' (K + 4 * ns.length)
  | [], f, s, K, bk, P, h, gs, hK => by
    have e : updL bk 2 (bk 2 ++ []) = bk := by
      funext m
      unfold updL
      split
      · subst_vars; simp
      · rfl
    refine ⟨s, rfl, by rw [e]; exact h, rfl, fun c _ _ => rfl, rfl, gs.more (by simp) (by simpa using (by omega : K < 4611686018427387904))⟩
  | n :: ns, f, s, K, bk, P, h, gs, hK => by
    obtain ⟨s1, p1, m1, n1, o1, l1, g1⟩ := gave_one h gs (by simp at hK; omega) 2 (by omega) (by omega) n (List.Perm.refl _)
    obtain ⟨s2, p2, m2, n2, o2, l2, g2⟩ := gives_ok ns f s1 (K + 4) _ P m1 g1 (by simp at hK; omega)
    have e : updL (updL bk 2 (bk 2 ++ [n])) 2 (updL bk 2 (bk 2 ++ [n]) 2 ++ ns) = updL bk 2 (bk 2 ++ n :: ns) := by
      funext m
      unfold updL
      split <;> simp
    rw [e] at m2
    refine ⟨s2, ?_, m2, n2.trans n1, fun c hc hn => ?_, l2.trans l1, g2.more (by simp; omega) (by simp at hK ⊢; omega)⟩
    · show bnd (giveU 0 n 2) (fun _ => givesU 0 (ns.map fun n => (n, f n))) () s = _
      have eg : giveU 0 n 2 s = (((), 0), s1) := by unfold giveU; rw [show s.give 0 n 2 = (0, s1) from p1]
      rw [bnd_ok eg]
      exact p2
    · rw [o2 c hc (fun m hm => hn m (List.mem_cons_of_mem _ hm)), o1 c hc (hn n List.mem_cons_self)]
/-- Drop. -/
theorem drop_ok (hs : Rm s 18 N (pcq q ++ R) bk) (hr : Rm r 18 N (pcq q ++ R) bk) (hn : nx s = nx r) (gs : Gd s K) (gr : Gd r K) (hK : K + 400000 < 4611686018427387904) (hwh : Wh s.W q.a q.ns) :
    ∃ bk' s' r1 r', Wd.qdrop 0 q.a s = (((), 0), s') ∧ givesU 0 (q.ns.map fun n => (n, 0)) r = (((), 0), r1) ∧ r1.give 0 q.a 3 = (0, r') ∧ Rm s' 18 N R bk' ∧ Rm r' 18 N R bk' ∧ nx s' = nx r' ∧ (∀ c, inP R c → oat s'.W c.toNat = oat s.W c.toNat) ∧ s'.W.length = s.W.length ∧ Gd s' (K + 400000) ∧ Gd r' (K + 400000) := by
  have ap : Ap q R := hs.ap
  have bq := hs.inb (mem_q q R)
  have bn : ∀ m ∈ q.ns, 18 ≤ m ∧ m + 2 ≤ N := fun m hm => by have := hs.inb (mem_n (R := R) hm); omega
  have hlen : q.ns.length ≤ 1000 := nd_len 1000 q.ns ap.nd (fun m hm => by have := bn m hm; omega)
  obtain ⟨s1, hc, hw1, hl1⟩ : ∃ s1, Wd.chain q.a s = ((prs s.W q.ns, 0), s1) ∧ s1.W = s.W ∧ Lk s1 (K + 131080) := by
    rcases chain_all gs.ok gs.lk (by omega) (q := q.a) ⟨by omega, by omega⟩ with ⟨ns, s', a1, a2, a3, a4⟩ | ⟨no, _⟩
    · obtain rfl := lk_det a1.2.2.2.2.1 hwh.2.2.2.2.1
      exact ⟨s', a2, a3, a4⟩
    · exact absurd ⟨_, hwh⟩ no
  have g1 : Gd s1 (K + 131080) := ⟨hl1, by unfold Wd.Ok; rw [hw1]; exact gs.ok⟩
  have perm : (pcq q ++ R).Perm (q.ns.map (fun n => (n, (2 : Int))) ++ (q.a, (3 : Int)) :: R) := List.perm_middle.symm
  obtain ⟨s2, p2, m2, n2, o2, l2, g2⟩ := gives_ok q.ns (fun n => oat s.W n.toNat) s1 (K + 131080) bk _ ((hs.same hw1).perm perm) g1 (by omega)
  obtain ⟨r2, q2', mr2, nr2, _, _, gr2⟩ := gives_ok q.ns (fun _ => 0) r K bk _ (hr.perm perm) gr (by omega)
  obtain ⟨s3, p3, m3, n3, o3, l3, g3⟩ := gave_one m2 g2 (by omega) 3 (by omega) (by omega) q.a (List.Perm.refl _)
  obtain ⟨r3, q3, mr3, nr3, _, _, gr3⟩ := gave_one mr2 gr2 (by omega) 3 (by omega) (by omega) q.a (List.Perm.refl _)
  refine ⟨_, s3, r2, r3, ?_, q2', q3, m3, mr3, ?_, fun c hcR => ?_, by rw [l3, l2, hw1], g3.more (by omega) (by omega), gr3.more (by omega) (by omega)⟩
  · unfold Wd.qdrop
    rw [bnd_ok hc, bnd_ok (show givesU 0 (prs s.W q.ns) s1 = (((), 0), s2) from p2)]
    unfold giveU
    rw [show s2.give 0 q.a 3 = (0, s3) from p3]
  · rw [n3, n2, nr3, nr2]
    show oat s1.W 0 = oat r.W 0
    rw [hw1]; exact hn
  · obtain ⟨p, hp, c1, c2⟩ := hcR
    have bp := hs.inb (a := p.1) (n := p.2) (List.mem_append_right _ hp)
    rw [o3 _ (by omega) (toNat_ne (by omega) (by omega) (pd_ne (ap.qR p hp) (c := q.a) (c' := c) (by show q.a ≤ q.a; omega) (by show q.a < q.a + 3; omega) c1 c2).symm), o2 _ (by omega) (fun m hm => by have := bn m hm; exact toNat_ne (by omega) (by omega) (pd_ne (ap.nR m hm p hp) (c := m) (c' := c) (by show m ≤ m; omega) (by show m < m + 2; omega) c1 c2).symm), hw1]
/-- First. -/
theorem first_ok (hs : Rm s 18 N (pcq q ++ R) bk) (gs : Gd s K) (hK : K + 40 < 4611686018427387904) (hwh : Wh s.W q.a q.ns) :
    ∃ s', Wd.qfirst q.a s = (((oat (q.ws s.W) 0, !q.ns.isEmpty), 0), s') ∧ s'.W = s.W ∧ Gd s' (K + 40) := by
  obtain ⟨s1, p1, w1, m1, g1⟩ := get_out' hs gs (by omega) (c := q.a) (mem_q q R) (by omega) (by omega)
  have wk := hwh.2.2.2.2.1
  cases hns : q.ns with
  | nil =>
    rw [hns] at wk
    have e : oat s.W q.a.toNat = 0 := wk
    rw [e] at p1
    refine ⟨s1, ?_, w1, g1.more (by omega) hK⟩
    unfold Wd.qfirst
    rw [bnd_ok p1]
    simp [rtn, Qu.ws, hns, oat]
  | cons n ns =>
    rw [hns] at wk
    have hm : n ∈ q.ns := by rw [hns]; simp
    have bm := hs.inb (mem_n (R := R) hm)
    rw [wk.1] at p1
    obtain ⟨s2, p2, w2, m2, g2⟩ := get_out' m1 g1 (by omega) (c := n) (mem_n (R := R) hm) (by omega) (by omega)
    have en : nodeA (n + 1) = n := by rw [nodeA_of (by omega) ⟨by omega, by omega⟩]; omega
    refine ⟨s2, ?_, w2.trans w1, g2.more (by omega) hK⟩
    unfold Wd.qfirst
    rw [bnd_ok p1, if_neg (by omega), en, bnd_ok p2, w1]
    simp [rtn, Qu.ws, hns, oat]
/-- Len. -/
theorem len_ok (hs : Rm s 18 N (pcq q ++ R) bk) (gs : Gd s K) (hK : K + 40 < 4611686018427387904) (hwh : Wh s.W q.a q.ns) :
    ∃ s', Wd.qlen q.a s = (((q.ns.length : Int), 0), s') ∧ s'.W = s.W ∧ Gd s' (K + 40) := by
  have b := hs.inb (mem_q q R)
  obtain ⟨s1, p1, w1, m1, g1⟩ := get_out' hs gs (by omega) (c := q.a + 2) (mem_q q R) (by omega) (by omega)
  rw [hwh.2.2.1] at p1
  refine ⟨s1, ?_, w1, g1.more (by omega) hK⟩
  unfold Wd.qlen
  rw [q2_of (by omega) (by omega), bnd_ok p1]
  rfl
end
end Go.Proofs.Ytadbplbifjeghaa
