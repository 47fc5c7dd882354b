
/- Pure (layer 23): Put on a queue in a room. No statement of the seat is proved here. -/
import Derived.Test.YtadbplbifjeghaaQxC
namespace Go.Proofs.Ytadbplbifjeghaa
open Go.RowKit

theorem pw_all : ∀ {l : List (Int × Int)}, l.Pairwise PD → ∀ p ∈ l, ∀ q ∈ l, p ≠ q → PD p q
  | [], _, p, hp, _, _, _ => by simp at hp
  | a :: l, h, p, hp, q, hq, hne => by
    rcases List.mem_cons.1 hp with e1 | hp2
    · rcases List.mem_cons.1 hq with e2 | hq2
      · exact absurd (e1.trans e2.symm) hne
      · rw [e1]; exact List.rel_of_pairwise_cons h hq2
    · rcases List.mem_cons.1 hq with e2 | hq2
      · rw [e2]; exact (List.rel_of_pairwise_cons h hp2).symm
      · exact pw_all (List.Pairwise.of_cons h) p hp2 q hq2 hne
theorem nd_len : ∀ (B : Nat) (l : List Int), l.Nodup → (∀ x ∈ l, 0 ≤ x ∧ x < B) → l.length ≤ B
  | 0, l, _, h => by
    cases l with
    | nil => exact Nat.le_refl _
    | cons x l => have := h x List.mem_cons_self; omega
  | B + 1, l, hn, h => by
    by_cases hm : (B : Int) ∈ l
    · have q := nd_len B (l.erase B) (hn.erase _) (fun x hx => by
        have p := (List.Nodup.mem_erase_iff hn).1 hx
        have := h x p.2
        have := p.1
        omega)
      rw [List.length_erase_of_mem hm] at q
      omega
    · have q := nd_len B l hn (fun x hx => by
        have := h x hx
        have : x ≠ B := fun e => hm (by rw [← e]; exact hx)
        omega)
      omega
theorem pd_ne {p q : Int × Int} (h : PD p q) {c c' : Int} (h1 : p.1 ≤ c) (h2 : c < p.1 + p.2) (h3 : q.1 ≤ c') (h4 : c' < q.1 + q.2) : c ≠ c' := by
  unfold PD at h
  omega
/-- How a queue's pieces lie: apart. -/
structure Ap (q : Qu) (R : List (Int × Int)) : Prop where
  qn : ∀ n ∈ q.ns, PD (q.a, 3) (n, 2)
  nn : ∀ n ∈ q.ns, ∀ m ∈ q.ns, n ≠ m → PD (n, 2) (m, 2)
  nd : q.ns.Nodup
  qR : ∀ p ∈ R, PD (q.a, 3) p
  nR : ∀ n ∈ q.ns, ∀ p ∈ R, PD (n, 2) p
theorem Rm.ap {s : Wd} {fr to : Int} {q : Qu} {R : List (Int × Int)} {bk : Nat → List Int} (h : Rm s fr to (pcq q ++ R) bk) : Ap q R := by
  have hp := List.pairwise_append.1 h.oo
  have h1 : (pcq q).Pairwise PD := hp.1
  have hmn : ∀ n ∈ q.ns, ((n, 2) : Int × Int) ∈ q.ns.map fun n => (n, (2 : Int)) := fun n hn => List.mem_map.2 ⟨n, hn, rfl⟩
  refine ⟨fun n hn => List.rel_of_pairwise_cons h1 (hmn n hn), fun n hn m hm hne => pw_all (List.Pairwise.of_cons h1) _ (hmn n hn) _ (hmn m hm) (fun e => hne (by injection e)), ?_, fun p hp' => hp.2.2 _ List.mem_cons_self _ hp', fun n hn p hp' => hp.2.2 _ (List.mem_cons_of_mem _ (hmn n hn)) _ hp'⟩
  have h2 := List.pairwise_map.1 (List.Pairwise.of_cons h1)
  exact h2.imp (fun {a b} hab e => by subst e; unfold PD at hab; dsimp only at hab; omega)
theorem mem_q (q : Qu) (R : List (Int × Int)) : (q.a, (3 : Int)) ∈ pcq q ++ R := List.mem_append_left _ List.mem_cons_self
theorem mem_n {q : Qu} {R : List (Int × Int)} {n : Int} (hn : n ∈ q.ns) : (n, (2 : Int)) ∈ pcq q ++ R := List.mem_append_left _ (List.mem_cons_of_mem _ (List.mem_map.2 ⟨n, hn, rfl⟩))
theorem pcq_snoc (q : Qu) (x : Int) (R : List (Int × Int)) : ((x, (2 : Int)) :: (pcq q ++ R)).Perm (pcq ⟨q.a, q.ns ++ [x]⟩ ++ R) := by
  have e : pcq ⟨q.a, q.ns ++ [x]⟩ = pcq q ++ [(x, 2)] := by simp [pcq]
  rw [e, List.append_assoc]
  exact List.perm_middle.symm

section
variable {s r : Wd} {N K : Int} {bk : Nat → List Int} {R : List (Int × Int)} {q : Qu}
set_option maxRecDepth 100000 in
/-- Put. -/
theorem push_ok (hs : Rm s 18 N (pcq q ++ R) bk) (hr : Rm r 18 N (pcq q ++ R) bk) (hn : nx s = nx r) (gs : Gd s K) (gr : Gd r K) (hK : K + 40 < 4611686018427387904) (hwh : Wh s.W q.a q.ns) {x : Int} (hx : isW x) :
    (∃ s' r', Wd.qput 0 q.a x s = (((), 9), s') ∧ r.take 0 2 = ((0, 9), r') ∧ s'.W = s.W ∧ r'.W = r.W ∧ Gd s' (K + 40) ∧ Gd r' (K + 40) ∧ N - nx s < 2) ∨
    (∃ a bk' s' r', Wd.qput 0 q.a x s = (((), 0), s') ∧ r.take 0 2 = ((a, 0), r') ∧ Rm s' 18 N (pcq ⟨q.a, q.ns ++ [a]⟩ ++ R) bk' ∧ Rm r' 18 N (pcq ⟨q.a, q.ns ++ [a]⟩ ++ R) bk' ∧ nx s' = nx r' ∧ Wh s'.W q.a (q.ns ++ [a]) ∧ Qu.ws s'.W ⟨q.a, q.ns ++ [a]⟩ = q.ws s.W ++ [x] ∧ (∀ c, inP R c → oat s'.W c.toNat = oat s.W c.toNat) ∧ s'.W.length = s.W.length ∧ isW a ∧ Gd s' (K + 40) ∧ Gd r' (K + 40) ∧ nx s' ≤ nx s + 2) := by
  rcases took_both hs hr hn gs gr (by omega) 2 (by omega) (by omega) with ⟨s', r', h1, h2, h3, h4, h5, h6, h7⟩ | ⟨a, bk', s1, r1, h1, h2, h3, h4, h5, h6, h7, h8, h9, h10⟩
  · refine .inl ⟨s', r', ?_, h2, h3, h4, h5.more (by omega) hK, h6.more (by omega) hK, h7⟩
    unfold Wd.qput
    exact bnd_no h1 (by decide)
  · have h3' : Rm s1 18 N ((a, 2) :: (pcq q ++ R)) bk' := h3
    have b := h3'.inb List.mem_cons_self
    have ap : Ap q R := hs.ap
    have bq := hs.inb (mem_q q R)
    have pda : ∀ p ∈ pcq q ++ R, PD (a, 2) p := fun p hp => List.rel_of_pairwise_cons h3'.oo hp
    have pdq := pda _ (mem_q q R)
    have pdn : ∀ n ∈ q.ns, PD (a, 2) (n, 2) := fun n hn => pda _ (mem_n hn)
    have bn : ∀ n ∈ q.ns, 18 ≤ n ∧ n + 2 ≤ N := fun n hn => by have := hs.inb (mem_n (R := R) hn); omega
    obtain ⟨s2, p1, w1, m1, g1⟩ := put_out h3' h8 (by omega) (x := x) (c := a) List.mem_cons_self (by omega) (by omega) hx
    obtain ⟨s3, p2, w2, m2, g2⟩ := put_out m1 g1 (by omega) (x := 0) (c := a + 1) List.mem_cons_self (by omega) (by omega) zero_isW'
    have k0 : putK a [x, 0] s1 1 = (0, s2) := puts_step (puts_nil _ _ _) (by rw [show uw (a + ((0 : Nat) : Int)) = a by rw [addk 0 (by omega) (by omega)]; omega]; exact p1)
    have k1 : putK a [x, 0] s1 2 = (0, s3) := puts_step k0 (by rw [addk 1 (by omega) (by omega)]; exact p2)
    obtain ⟨s4, p3, w3, m3, g3⟩ := get_out' m2 g2 (by omega) (c := q.a + 1) (List.mem_cons_of_mem _ (mem_q q R)) (by omega) (by omega)
    have eW3 : s3.W = (s1.W.set a.toNat x).set (a + 1).toNat 0 := by rw [w2, w1]
    have o3 : ∀ c, 18 ≤ c → c ≠ a → c ≠ a + 1 → oat s3.W c.toNat = oat s.W c.toNat := fun c hc hca hca1 => by
      rw [eW3, oat_set_ne (by omega) (by omega) (by omega), oat_set_ne (by omega) (by omega) (by omega)]
      exact h6 _ (by omega)
    have qa1 : ∀ c, q.a ≤ c → c < q.a + 3 → c ≠ a ∧ c ≠ a + 1 := fun c h1 h2 => ⟨(pd_ne pdq (c := a) (c' := c) (by omega) (by omega) h1 h2).symm, (pd_ne pdq (c := a + 1) (c' := c) (by omega) (by omega) h1 h2).symm⟩
    have na1 : ∀ n ∈ q.ns, ∀ c, n ≤ c → c < n + 2 → c ≠ a ∧ c ≠ a + 1 := fun n hn c h1 h2 => ⟨(pd_ne (pdn n hn) (c := a) (c' := c) (by omega) (by omega) h1 h2).symm, (pd_ne (pdn n hn) (c := a + 1) (c' := c) (by omega) (by omega) h1 h2).symm⟩
    have nq : ∀ n ∈ q.ns, ∀ c, n ≤ c → c < n + 2 → ∀ c', q.a ≤ c' → c' < q.a + 3 → c ≠ c' := fun n hn c h1 h2 c' h3 h4 => (pd_ne (ap.qn n hn) (c := c') (c' := c) h3 h4 h1 h2).symm
    obtain ⟨w0, wl, wc, wm, wk, wlast⟩ := hwh
    have v3 : oat s3.W (q.a + 1).toNat = lastL 0 q.ns := by rw [o3 _ (by omega) (qa1 _ (by omega) (by omega)).1 (qa1 _ (by omega) (by omega)).2]; exact wlast
    rw [v3] at p3
    have eq1' : q1 q.a = q.a + 1 := q1_of (by omega) (by omega)
    have eq2' : q2 q.a = q.a + 2 := q2_of (by omega) (by omega)
    have ha1 : uw (a + 1) = a + 1 := uw_of (by omega) (by omega)
    have hwa : isW (a + 1) := ⟨by omega, by omega⟩
    -- where the link lies
    obtain ⟨L, pl, hL, hpl, hl1, hl2, hnil, hcons⟩ : ∃ L pl, (if lastL 0 q.ns = 0 then q.a else uw (nodeA (lastL 0 q.ns) + 1)) = L ∧ pl ∈ pcq q ++ R ∧ pl.1 ≤ L ∧ L < pl.1 + pl.2 ∧ (q.ns = [] → L = q.a) ∧ (q.ns ≠ [] → L = lastL 0 q.ns ∧ ∃ m ∈ q.ns, L = m + 1 ∧ pl = (m, 2)) := by
      cases hns : q.ns with
      | nil => exact ⟨q.a, (q.a, 3), if_pos rfl, mem_q q R, Int.le_refl _, by show q.a < q.a + 3; omega, fun _ => rfl, fun h => absurd rfl h⟩
      | cons n ns =>
        obtain ⟨m, hm, e⟩ := lastL_mem (a := 0) (n := n) (ns := ns)
        have hm' : m ∈ q.ns := by rw [hns]; exact hm
        have bm := bn m hm'
        refine ⟨m + 1, (m, 2), ?_, mem_n hm', by show m ≤ m + 1; omega, by show m + 1 < m + 2; omega, fun h => by simp at h, fun _ => ⟨e.symm, m, hm, rfl, rfl⟩⟩
        rw [e, if_neg (by omega), nodeA_of (by omega) ⟨by omega, by omega⟩, show m + 1 - 1 = m by omega]
        exact uw_of (by omega) (by omega)
    have bL : 18 ≤ L ∧ L < N := by have := h3'.inb (a := pl.1) (n := pl.2) (List.mem_cons_of_mem _ hpl); omega
    obtain ⟨s5, p4, w4, m4, g4⟩ := put_out m3 g3 (by omega) (x := a + 1) (c := L) (List.mem_cons_of_mem _ hpl) hl1 hl2 hwa
    obtain ⟨s6, p5, w5, m5, g5⟩ := put_out m4 g4 (by omega) (x := a + 1) (c := q.a + 1) (List.mem_cons_of_mem _ (mem_q q R)) (by omega) (by omega) hwa
    have hang : hangU q.a a s3 = (((), 0), s6) := by
      unfold hangU
      rw [eq1', bnd_ok p3, ha1, hL, bnd_ok (putU_of p4)]
      exact putU_of p5
    have Lq : L ≠ q.a + 1 ∧ L ≠ q.a + 2 ∧ L ≠ a ∧ L ≠ a + 1 := by
      by_cases hns : q.ns = []
      · have := hnil hns
        have := qa1 q.a (by omega) (by omega)
        omega
      · obtain ⟨_, m, hm, e, _⟩ := hcons hns
        have := nq m hm L (by omega) (by omega)
        have := na1 m hm L (by omega) (by omega)
        have := nq m hm L (by omega) (by omega) (q.a + 1) (by omega) (by omega)
        have := nq m hm L (by omega) (by omega) (q.a + 2) (by omega) (by omega)
        omega
    obtain ⟨s7, p6, w6, m6, g6⟩ := get_out' m5 g5 (by omega) (c := q.a + 2) (List.mem_cons_of_mem _ (mem_q q R)) (by omega) (by omega)
    have q2a := qa1 (q.a + 2) (by omega) (by omega)
    have v6 : oat s6.W (q.a + 2).toNat = q.ns.length := by
      rw [w5, oat_set_ne (by omega) (by omega) (by omega), w4, w3, oat_set_ne (by omega) (by omega) (by omega), o3 _ (by omega) q2a.1 q2a.2]
      exact wc
    rw [v6] at p6
    obtain ⟨s8, p7, w7, m7, g7⟩ := put_out m6 g6 (by omega) (x := (q.ns.length : Int) + 1) (c := q.a + 2) (List.mem_cons_of_mem _ (mem_q q R)) (by omega) (by omega) ⟨by omega, by omega⟩
    have hrec : recountU q.a 1 s6 = (((), 0), s8) := by
      unfold recountU
      rw [eq2', bnd_ok p6]
      have e : uw ((q.ns.length : Int) + 1) = (q.ns.length : Int) + 1 := uw_of (by omega) (by omega)
      rw [e]
      exact putU_of p7
    have hW : s8.W = ((s3.W.set L.toNat (a + 1)).set (q.a + 1).toNat (a + 1)).set (q.a + 2).toNat ((q.ns.length : Int) + 1) := by rw [w7, w6, w5, w4, w3]
    have l3 : s3.W.length = s1.W.length := by rw [eW3]; simp
    have hlen : s8.W.length = s1.W.length := by rw [hW]; simp [l3]
    have bl : (s1.W.length : Int) = N := b.2.2.2.2
    have oq2 : oat s8.W (q.a + 2).toNat = (q.ns.length : Int) + 1 := by rw [hW]; exact oat_set_eq (by omega) (by rw [List.length_set, List.length_set, l3]; omega)
    have oq1 : oat s8.W (q.a + 1).toNat = a + 1 := by rw [hW, oat_set_ne (by omega) (by omega) (by omega)]; exact oat_set_eq (by omega) (by rw [List.length_set, l3]; omega)
    have oL : oat s8.W L.toNat = a + 1 := by rw [hW, oat_set_ne (by omega) (by omega) (by omega), oat_set_ne (by omega) (by omega) (by omega)]; exact oat_set_eq (by omega) (by rw [l3]; omega)
    have oo : ∀ c, 18 ≤ c → c ≠ L → c ≠ q.a + 1 → c ≠ q.a + 2 → oat s8.W c.toNat = oat s3.W c.toNat := fun c h0 h1 h2 h3 => by rw [hW, oat_set_ne (by omega) (by omega) (by omega), oat_set_ne (by omega) (by omega) (by omega), oat_set_ne (by omega) (by omega) (by omega)]
    have aq := qa1 (q.a + 1) (by omega) (by omega)
    have oa : oat s8.W a.toNat = x := by
      rw [oo a (by omega) (by omega) (by omega) (by omega), eW3, oat_set_ne (by omega) (by omega) (by omega)]
      exact oat_set_eq (by omega) (by omega)
    have oa1 : oat s8.W (a + 1).toNat = 0 := by
      rw [oo (a + 1) (by omega) (by omega) (by omega) (by omega), eW3]
      exact oat_set_eq (by omega) (by rw [List.length_set]; omega)
    have oc : ∀ c, 18 ≤ c → c ≠ L → c ≠ q.a + 1 → c ≠ q.a + 2 → c ≠ a → c ≠ a + 1 → oat s8.W c.toNat = oat s.W c.toNat := fun c h0 h1 h2 h3 h4 h5 => by rw [oo c h0 h1 h2 h3, o3 c h0 h4 h5]
    have e : nx s8 = nx s1 := by
      show oat s8.W 0 = oat s1.W 0
      have z : (0 : Int).toNat = 0 := rfl
      rw [hW, oat_ne (by omega), oat_ne (by omega), oat_ne (by omega), eW3, oat_ne (by omega), oat_ne (by omega)]
    refine .inr ⟨a, bk', s8, r1, ?_, h2, m7.perm (pcq_snoc q a R), h4.perm (pcq_snoc q a R), ?_, ⟨w0, by rw [hlen]; omega, by rw [oq2]; simp, by have p := nd_len 1000 q.ns ap.nd (fun n hn => by have := bn n hn; omega); simp; omega, ?_, by rw [oq1, lastL_snoc]⟩, ?_, fun c hc => ?_, hlen.trans h7, ⟨by omega, by omega⟩, g7.more (by omega) hK, h9.more (by omega) hK, by rw [e]; exact h10⟩
    · unfold Wd.qput
      rw [bnd_ok h1, bnd_ok (putsU_of k1), bnd_ok hang]
      exact hrec
    · skip
      rw [e]
      exact h5
    · by_cases hns : q.ns = []
      · have e := hnil hns
        rw [hns]
        rw [e] at oL
        exact ⟨oL, by omega, by rw [hlen]; omega, oa1⟩
      · obtain ⟨e1, m, hm, e2, e3⟩ := hcons hns
        have hq0 : oat s8.W q.a.toNat = oat s.W q.a.toNat := oc q.a (by omega) (nq m hm L (by omega) (by omega) q.a (by omega) (by omega)).symm (by omega) (by omega) (qa1 q.a (by omega) (by omega)).1 (qa1 q.a (by omega) (by omega)).2
        rw [hq0]
        obtain ⟨n, ns, hnn⟩ := List.exists_cons_of_ne_nil hns
        have lks := wk
        rw [hnn] at lks ⊢
        refine lk_snoc (hlen.trans h7) (by omega) (by omega) oa1 (by rw [← hnn]; exact ap.nd) lks (fun k hk hkl => ?_) (by rw [← hnn, ← e1]; exact oL)
        rw [← hnn] at hk hkl
        have bk := bn k hk
        have t1 := nq k hk (k + 1) (by omega) (by omega) (q.a + 1) (by omega) (by omega)
        have t2 := nq k hk (k + 1) (by omega) (by omega) (q.a + 2) (by omega) (by omega)
        have t3 := na1 k hk (k + 1) (by omega) (by omega)
        exact oc (k + 1) (by omega) (by rw [e1]; exact hkl) t1 t2 t3.1 t3.2
    · unfold Qu.ws
      rw [List.map_append]
      show _ = _ ++ [x]
      rw [List.map_singleton, oa]
      congr 1
      refine List.map_congr_left fun k hk => ?_
      have bk := bn k hk
      have t1 := nq k hk k (by omega) (by omega) (q.a + 1) (by omega) (by omega)
      have t2 := nq k hk k (by omega) (by omega) (q.a + 2) (by omega) (by omega)
      have t3 := na1 k hk k (by omega) (by omega)
      have t4 : k ≠ L := by
        by_cases hns : q.ns = []
        · rw [hns] at hk; simp at hk
        · obtain ⟨_, m, hm, e2, _⟩ := hcons hns
          by_cases hkm : k = m
          · omega
          · exact pd_ne (ap.nn k hk m hm hkm) (c := k) (c' := L) (by show k ≤ k; omega) (by show k < k + 2; omega) (by show m ≤ L; omega) (by show L < m + 2; omega)
      exact oc k (by omega) t4 t1 t2 t3.1 t3.2
    · obtain ⟨p, hp, c1, c2⟩ := hc
      have bp := hs.inb (a := p.1) (n := p.2) (List.mem_append_right _ hp)
      have t0 := pda p (List.mem_append_right _ hp)
      have t1 := ap.qR p hp
      have t2 : c ≠ L := by
        by_cases hns : q.ns = []
        · rw [hnil hns]
          exact (pd_ne t1 (c := q.a) (c' := c) (by show q.a ≤ q.a; omega) (by show q.a < q.a + 3; omega) c1 c2).symm
        · obtain ⟨_, m, hm, e2, _⟩ := hcons hns
          exact (pd_ne (ap.nR m hm p hp) (c := L) (c' := c) (by show m ≤ L; omega) (by show L < m + 2; omega) c1 c2).symm
      have t3 := pd_ne t1 (c := q.a + 1) (c' := c) (by show q.a ≤ q.a + 1; omega) (by show q.a + 1 < q.a + 3; omega) c1 c2
      have t4 := pd_ne t1 (c := q.a + 2) (c' := c) (by show q.a ≤ q.a + 2; omega) (by show q.a + 2 < q.a + 3; omega) c1 c2
      have t5 := pd_ne t0 (c := a) (c' := c) (by show a ≤ a; omega) (by show a < a + 2; omega) c1 c2
      have t6 := pd_ne t0 (c := a + 1) (c' := c) (by show a ≤ a + 1; omega) (by show a + 1 < a + 2; omega) c1 c2
      exact oc c (by omega) t2 t3.symm t4.symm t5.symm t6.symm
end
end Go.Proofs.Ytadbplbifjeghaa
