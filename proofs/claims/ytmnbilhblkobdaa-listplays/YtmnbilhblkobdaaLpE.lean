
/- The walk of way (layer 21). No statement of the seat is proved here. -/
import Derived.Test.YtmnbilhblkobdaaLpE0
namespace Go.Proofs.Ytmnbilhblkobdaa
open Go.RowKit

theorem follow_ce {s s1 : Wd} {a e : Int} {t : Sp} (h : s.follow a = ((t, e), s1)) : s1.c = s.c ∧ s1.f = s.f ∧ (e = 0 ∨ t = Sp.zero) := by
  have hg : ∀ (s : Wd) (a : Int), (s.get a).2.c = s.c ∧ (s.get a).2.f = s.f := by
    intro s a
    unfold Wd.get
    split
    · exact ⟨rfl, rfl⟩
    · split <;> exact ⟨rfl, rfl⟩
  have h1 := hg s a
  have h2 := hg (s.get a).2 (uw ((s.get a).1.1 - 1))
  unfold Wd.follow at h
  split at h
  · simp only [Prod.mk.injEq] at h; obtain ⟨⟨rfl, rfl⟩, rfl⟩ := h; exact ⟨h1.1, h1.2, .inr rfl⟩
  · split at h
    · simp only [Prod.mk.injEq] at h; obtain ⟨⟨rfl, rfl⟩, rfl⟩ := h; exact ⟨h1.1, h1.2, .inl rfl⟩
    · split at h
      · simp only [Prod.mk.injEq] at h; obtain ⟨⟨rfl, rfl⟩, rfl⟩ := h; exact ⟨h2.1.trans h1.1, h2.2.trans h1.2, .inr rfl⟩
      · simp only [Prod.mk.injEq] at h; obtain ⟨⟨rfl, rfl⟩, rfl⟩ := h; exact ⟨h2.1.trans h1.1, h2.2.trans h1.2, .inl rfl⟩
theorem follow_mem {s s1 : Wd} {a : Int} {t : Sp} (h : s.follow a = ((t, 0), s1)) (hok : s.Ok) (hn : t.n ≠ 0) (hc : s.c ≠ 0 ∨ s.f < 0) : t.k ∈ s.W := by
  have hg : ∀ (s : Wd) (a : Int), (s.get a).2.c = s.c ∧ (s.get a).2.f = s.f := by
    intro s a
    unfold Wd.get
    split
    · exact ⟨rfl, rfl⟩
    · split <;> exact ⟨rfl, rfl⟩
  have h1 := hg s a
  have h3 := hok.get a
  unfold Wd.follow at h
  split at h
  · simp only [Prod.mk.injEq] at h; obtain ⟨⟨rfl, _⟩, _⟩ := h; exact absurd rfl hn
  · split at h
    · simp only [Prod.mk.injEq] at h; obtain ⟨⟨rfl, _⟩, _⟩ := h; exact absurd rfl hn
    · split at h
      · simp only [Prod.mk.injEq] at h; obtain ⟨⟨rfl, _⟩, _⟩ := h; exact absurd rfl hn
      · rename_i h5
        simp only [Prod.mk.injEq] at h; obtain ⟨⟨rfl, _⟩, _⟩ := h
        show ((s.get a).2.get (uw ((s.get a).1.1 - 1))).1.1 ∈ s.W
        rw [← h3.2.2]
        obtain ⟨⟨⟨x, e⟩, s2⟩, eq⟩ : ∃ r, (s.get a).2.get (uw ((s.get a).1.1 - 1)) = r := ⟨_, rfl⟩
        rw [eq] at h5 ⊢
        have he : e = 0 := Classical.not_not.1 h5
        subst he
        exact get_mem (uw_isW _).1 eq (by rw [h1.1, h1.2]; exact hc)
set_option maxRecDepth 100000 in
set_option maxHeartbeats 4000000 in
theorem way_any {fn : Nat} {cap : Array Value} {pass : List Sp → Sp → Bool} {J : List Sp → World → Prop} {Fp : World → Nat → Prop} (E : PassAt fn cap pass J Fp) (b g c : Nat) (s : Wd) (l : Int) (hce : s.c ≠ 0 ∨ s.f < 0) (w : World) (h : WdAt w b g c s) (hj : J [] w) (hfb : ¬ Fp w b) (hfg : ¬ Fp w g) :
    Calls Try.prog 46 #[.iface 24 (.pointer (some ⟨b, 0, none⟩)), .int .u64 l, .func (.func fn) #[] cap] w fun e w' => e = .returned (.tuple #[(s.way pass l).1.1.v, .int .i64 (s.way pass l).1.2]) ∧ WdAt w' b g c (s.way pass l).2.2 ∧ J (s.way pass l).2.1 w' ∧ Keeps (fun i => two b g i ∨ Fp w i) w w' ∧ (∀ i, Fp w' i → Fp w i ∨ w.heap.size ≤ i) := by
  have hent := E.ent
  have HLB : Hid (b < w.heap.size ∧ g < w.heap.size ∧ ¬ Fp w b ∧ ¬ Fp w g) := ⟨h.ltb, h.ltg, hfb, hfg⟩
  have HST : Hid (∀ X, X = ((w.alloc (.cells #[.int .u64 0, .int .u64 0, .int .u64 0] 75)).alloc (.cells #[.int .u64 0, .int .u64 0, .int .u64 0] 75)) → Wy w b g c s l pass J Fp X 18446744073709551616 Sp.zero Sp.zero (ld l) [] s) := by
    intro X hX
    have kn : Keeps (fun _ => False) w X := by rw [hX]; exact (keeps_new w _).alloc _
    obtain ⟨h1, h2⟩ := E.keep hj kn (fun _ f => f.elim)
    refine ⟨rfl, .inl ⟨rfl, rfl⟩, ⟨h.kept kn (fun f => f) (fun f => f), h1, kn.mono (fun _ _ f => f.elim), fun i e => .inl (h2 i e), ⟨h.ltb, h.ltg, hfb, hfg⟩, fun i e => E.lt hj e, ?_, ?_⟩, Sp.zero_ok, uw_isW _, Ris.nil _, hce⟩
    · rw [hX]; exact (spAt_new w Sp.zero).keeps (keeps_new _ _) (fun f => f)
    · have q := spAt_new (w.alloc (.cells #[.int .u64 0, .int .u64 0, .int .u64 0] 75)) Sp.zero
      rw [show (w.alloc (.cells #[.int .u64 0, .int .u64 0, .int .u64 0] 75)).heap.size = w.heap.size + 1 by simp] at q
      rw [hX]; exact q
  clear h hj hfb hfg
  go_enter Try.func46, Try.ntmps46
  go_wp2_with fail
  refine wp_scope_straight ?_
  go_wp2_with fail
  refine (leads_any l _).mono ?_
  rintro e_ w_ ⟨rfl, hw_⟩
  subst w_
  go_wp2_with fail
  refine wp_label ?_
  go_wp2_with fail
  obtain ⟨X0, hX0⟩ : ∃ X, X = ((w.alloc (.cells #[.int .u64 0, .int .u64 0, .int .u64 0] 75)).alloc (.cells #[.int .u64 0, .int .u64 0, .int .u64 0] 75)) := ⟨_, rfl⟩
  rw [← hX0]
  have HW0 : Hid (Wy w b g c s l pass J Fp X0 18446744073709551616 Sp.zero Sp.zero (ld l) [] s) := HST.out X0 hX0
  clear HST hX0
  go_loopw [7, 9] (fun er lk wr => ∃ m u t a P s', er = .int .i64 0 ∧ lk = .int .u64 a ∧ Hid (Wy w b g c s l pass J Fp wr m u t a P s')) (fun _ _ wr => measQ wr (w.heap.size + 1))
  case atStart => exact ⟨_, _, _, _, _, _, rfl, rfl, HW0⟩
  case round =>
    obtain ⟨m, u, t, a, P, s', rfl, rfl, HY⟩ := hrel
    clear HW0
    obtain ⟨⟨⟨t1, e⟩, s1⟩, eqf⟩ : ∃ r, s'.follow a = r := ⟨_, rfl⟩
    have HE : Hid (_ = _) := eqf
    go_wp2_with fail
    have hy := HY.out
    refine (follow_r HE hy.aw hy.mq.wd).mono ?_
    rintro e_ w1 ⟨rfl, h1, k1⟩
    have HM : Hid (Mq w b g c J Fp w1 P s1 u t) := hid (hy.mq.acc E k1 h1)
    have HSP : Hid (t1.Ok ∧ s1.W = s'.W ∧ s1.c = s'.c ∧ s1.f = s'.f) := by
      have q := hy.mq.wd.ok.follow hy.aw
      rw [eqf] at q
      have q2 := follow_ce eqf
      exact ⟨q.2.1, q.2.2, q2.1, q2.2.1⟩
    clear hy h1 k1 eqf
    obtain ⟨l1, n1, k1⟩ := t1
    obtain ⟨lt, nt, kt⟩ := t
    unfold Sp.v
    by_cases he : e = 0
    · subst he
      by_cases hn : n1 = 0
      · subst hn
        have HEQ : Hid (s.way pass l = ((⟨l1, 0, k1⟩, 0), P, s1)) := hid (HY.out.eq.trans (way_end HE.out (.inr rfl)))
        clear HY HE
        have hq := HM.out.a6
        have q0 := hq.c0
        have q1 := hq.c1
        have q2 := hq.c2
        have qf0 := hq.fr 0
        have qf1 := hq.fr 1
        have qf2 := hq.fr 2
        clear hq
        go_wp2_with fail
        have HM2 : Hid (Mq w b g c J Fp (((w1.setCell ⟨w.heap.size, 0, none⟩ (.int .u64 (l1))).setCell ⟨w.heap.size, 1, none⟩ (.int .u64 (0))).setCell ⟨w.heap.size, 2, none⟩ (.int .u64 (k1))) P s1 ⟨l1, 0, k1⟩ ⟨lt, nt, kt⟩) := hid (HM.out.set6 E (keeps_set3 _ _ _ _ _) (HM.out.a6.set3 _ _ _))
        generalize (((w1.setCell ⟨w.heap.size, 0, none⟩ (.int .u64 (l1))).setCell ⟨w.heap.size, 1, none⟩ (.int .u64 (0))).setCell ⟨w.heap.size, 2, none⟩ (.int .u64 (k1))) = w2 at HM2 ⊢
        clear HM q0 q1 q2 qf0 qf1 qf2
        refine (there_any ⟨l1, 0, k1⟩ _).mono ?_
        rintro e_ w3 ⟨rfl, o_, hw_⟩
        have HM3 : Hid (Mq w b g c J Fp w3 P s1 ⟨l1, 0, k1⟩ ⟨lt, nt, kt⟩) := hid (by rw [hw_]; exact HM2.out.new E (keeps_new _ _))
        clear hw_ HM2
        unfold Sp.there
        have hq := HM3.out.a6
        have q0 := hq.c0
        have q1 := hq.c1
        have q2 := hq.c2
        have qf0 := hq.fr 0
        have qf1 := hq.fr 1
        have qf2 := hq.fr 2
        clear hq
        go_wp2_with fail
        try simp only [Exit.noGoto]
        refine bodyPost_ret (sp_ret rfl _ _ w.heap.size _ (HM3.out.a6.set3 l1 0 k1) rfl) rfl ?_
        rw [HEQ.out]
        have hq := (HM3.out.set6 E (keeps_set3 _ _ l1 0 k1) (HM3.out.a6.set3 l1 0 k1))
        have hb := HLB.out
        exact ⟨rfl, hq.wd, hq.j, hq.k, fun i e => (hq.fp i e).imp id (fun q => by omega)⟩
      · have hzb : (n1 != 0) = true := by simpa using hn
        by_cases hnt : nt = 0
        · subst hnt
          have HPL : Hid (P.length ≤ 1000000) := hid (Nat.le_trans HY.out.ris.len HY.out.mq.wd.ok.2)
          have HBB : Hid (¬ ((0 : Int) ≠ 0 ∧ k1 ≤ kt)) := hid (fun q => q.1 rfl)
          cases hp : pass P ⟨l1, n1, k1⟩ with
          | false =>
            have HEQ : Hid (s.way pass l = ((⟨l1, n1, k1⟩, 0), P, s1)) := hid (HY.out.eq.trans (way_stop HE.out hn HBB.out hp))
            clear HY HE
            have hq := HM.out.a6
            have q0 := hq.c0
            have q1 := hq.c1
            have q2 := hq.c2
            have qf0 := hq.fr 0
            have qf1 := hq.fr 1
            have qf2 := hq.fr 2
            clear hq
            go_wp2_with fail
            have HM2 : Hid (Mq w b g c J Fp (((w1.setCell ⟨w.heap.size, 0, none⟩ (.int .u64 (l1))).setCell ⟨w.heap.size, 1, none⟩ (.int .u64 (n1))).setCell ⟨w.heap.size, 2, none⟩ (.int .u64 (k1))) P s1 ⟨l1, n1, k1⟩ ⟨lt, 0, kt⟩) := hid (HM.out.set6 E (keeps_set3 _ _ _ _ _) (HM.out.a6.set3 _ _ _))
            generalize (((w1.setCell ⟨w.heap.size, 0, none⟩ (.int .u64 (l1))).setCell ⟨w.heap.size, 1, none⟩ (.int .u64 (n1))).setCell ⟨w.heap.size, 2, none⟩ (.int .u64 (k1))) = w2 at HM2 ⊢
            clear HM q0 q1 q2 qf0 qf1 qf2
            refine (there_any ⟨l1, n1, k1⟩ _).mono ?_
            rintro e_ w3 ⟨rfl, o_, hw_⟩
            have HM3 : Hid (Mq w b g c J Fp w3 P s1 ⟨l1, n1, k1⟩ ⟨lt, 0, kt⟩) := hid (by rw [hw_]; exact HM2.out.new E (keeps_new _ _))
            clear hw_ HM2
            unfold Sp.there
            simp only [hzb]
            have hq := HM3.out.a6
            have q0 := hq.c0
            have q1 := hq.c1
            have q2 := hq.c2
            have qf0 := hq.fr 0
            have qf1 := hq.fr 1
            have qf2 := hq.fr 2
            clear hq
            have hp := HM3.out.a8
            have p0 := hp.c0
            have p1 := hp.c1
            have p2 := hp.c2
            have pf0 := hp.fr 0
            have pf1 := hp.fr 1
            have pf2 := hp.fr 2
            clear hp
            go_wp2_with fail
            refine (there_any ⟨lt, 0, kt⟩ _).mono ?_
            rintro e_ w4 ⟨rfl, o_, hw_⟩
            have HM4 : Hid (Mq w b g c J Fp w4 P s1 ⟨l1, n1, k1⟩ ⟨lt, 0, kt⟩) := hid (by rw [hw_]; exact HM3.out.new E (keeps_new _ _))
            clear hw_ HM3
            unfold Sp.there
            clear q0 q1 q2 qf0 qf1 qf2 p0 p1 p2 pf0 pf1 pf2
            have hq := HM4.out.a6
            have q0 := hq.c0
            have q1 := hq.c1
            have q2 := hq.c2
            have qf0 := hq.fr 0
            have qf1 := hq.fr 1
            have qf2 := hq.fr 2
            clear hq
            have hp := HM4.out.a8
            have p0 := hp.c0
            have p1 := hp.c1
            have p2 := hp.c2
            have pf0 := hp.fr 0
            have pf1 := hp.fr 1
            have pf2 := hp.fr 2
            clear hp
            go_wp2_with fail
            have hm4 := HM4.out
            refine (E.call w4 P ⟨l1, n1, k1⟩ HSP.out.1 HPL.out hm4.j).mono ?_
            rintro e_ w5 ⟨rfl, j5, k5, f5⟩
            have HM5 := hid (hm4.call k5 j5 f5)
            rw [hp] at HM5 ⊢
            clear hm4 j5 k5 f5 HM4 q0 q1 q2 qf0 qf1 qf2 p0 p1 p2 pf0 pf1 pf2
            have hq := HM5.out.a6
            have q0 := hq.c0
            have q1 := hq.c1
            have q2 := hq.c2
            have qf0 := hq.fr 0
            have qf1 := hq.fr 1
            have qf2 := hq.fr 2
            clear hq
            go_wp2_with fail
            try simp only [Exit.noGoto]
            refine bodyPost_ret (sp_ret rfl _ _ w.heap.size _ (HM5.out.a6.set3 l1 n1 k1) rfl) rfl ?_
            rw [HEQ.out]
            have hq := (HM5.out.set6 E (keeps_set3 _ _ l1 n1 k1) (HM5.out.a6.set3 l1 n1 k1))
            have hb := HLB.out
            exact ⟨rfl, hq.wd, hq.j, hq.k, fun i e => (hq.fp i e).imp id (fun q => by omega)⟩
          | true =>
            have hq := HM.out.a6
            have q0 := hq.c0
            have q1 := hq.c1
            have q2 := hq.c2
            have qf0 := hq.fr 0
            have qf1 := hq.fr 1
            have qf2 := hq.fr 2
            clear hq
            go_wp2_with fail
            have HM2 : Hid (Mq w b g c J Fp (((w1.setCell ⟨w.heap.size, 0, none⟩ (.int .u64 (l1))).setCell ⟨w.heap.size, 1, none⟩ (.int .u64 (n1))).setCell ⟨w.heap.size, 2, none⟩ (.int .u64 (k1))) P s1 ⟨l1, n1, k1⟩ ⟨lt, 0, kt⟩) := hid (HM.out.set6 E (keeps_set3 _ _ _ _ _) (HM.out.a6.set3 _ _ _))
            generalize (((w1.setCell ⟨w.heap.size, 0, none⟩ (.int .u64 (l1))).setCell ⟨w.heap.size, 1, none⟩ (.int .u64 (n1))).setCell ⟨w.heap.size, 2, none⟩ (.int .u64 (k1))) = w2 at HM2 ⊢
            clear HM q0 q1 q2 qf0 qf1 qf2
            refine (there_any ⟨l1, n1, k1⟩ _).mono ?_
            rintro e_ w3 ⟨rfl, o_, hw_⟩
            have HM3 : Hid (Mq w b g c J Fp w3 P s1 ⟨l1, n1, k1⟩ ⟨lt, 0, kt⟩) := hid (by rw [hw_]; exact HM2.out.new E (keeps_new _ _))
            clear hw_ HM2
            unfold Sp.there
            simp only [hzb]
            have hq := HM3.out.a6
            have q0 := hq.c0
            have q1 := hq.c1
            have q2 := hq.c2
            have qf0 := hq.fr 0
            have qf1 := hq.fr 1
            have qf2 := hq.fr 2
            clear hq
            have hp := HM3.out.a8
            have p0 := hp.c0
            have p1 := hp.c1
            have p2 := hp.c2
            have pf0 := hp.fr 0
            have pf1 := hp.fr 1
            have pf2 := hp.fr 2
            clear hp
            go_wp2_with fail
            refine (there_any ⟨lt, 0, kt⟩ _).mono ?_
            rintro e_ w4 ⟨rfl, o_, hw_⟩
            have HM4 : Hid (Mq w b g c J Fp w4 P s1 ⟨l1, n1, k1⟩ ⟨lt, 0, kt⟩) := hid (by rw [hw_]; exact HM3.out.new E (keeps_new _ _))
            clear hw_ HM3
            unfold Sp.there
            clear q0 q1 q2 qf0 qf1 qf2 p0 p1 p2 pf0 pf1 pf2
            have hq := HM4.out.a6
            have q0 := hq.c0
            have q1 := hq.c1
            have q2 := hq.c2
            have qf0 := hq.fr 0
            have qf1 := hq.fr 1
            have qf2 := hq.fr 2
            clear hq
            have hp := HM4.out.a8
            have p0 := hp.c0
            have p1 := hp.c1
            have p2 := hp.c2
            have pf0 := hp.fr 0
            have pf1 := hp.fr 1
            have pf2 := hp.fr 2
            clear hp
            go_wp2_with fail
            have hm4 := HM4.out
            refine (E.call w4 P ⟨l1, n1, k1⟩ HSP.out.1 HPL.out hm4.j).mono ?_
            rintro e_ w5 ⟨rfl, j5, k5, f5⟩
            have HM5 := hid (hm4.call k5 j5 f5)
            rw [hp] at HM5 ⊢
            clear hm4 j5 k5 f5 HM4 q0 q1 q2 qf0 qf1 qf2 p0 p1 p2 pf0 pf1 pf2
            have hSa : (w5.drew.cell? ⟨w.heap.size, 0, none⟩ = some (.int .u64 l1) ∧ w5.drew.cell? ⟨w.heap.size, 1, none⟩ = some (.int .u64 n1) ∧ w5.drew.cell? ⟨w.heap.size, 2, none⟩ = some (.int .u64 k1)) := by have hs := HM5.out.a6; exact ⟨hs.c0, hs.c1, hs.c2⟩
            go_wp2_with fail
            refine wp_held_end (S := fun W : World => W.cell? ⟨w.heap.size, 0, none⟩ = some (.int .u64 l1) ∧ W.cell? ⟨w.heap.size, 1, none⟩ = some (.int .u64 n1) ∧ W.cell? ⟨w.heap.size, 2, none⟩ = some (.int .u64 k1)) 6 rfl hmxp ?_
            simp only [Array.replicate_succ, Array.replicate_zero, List.push_toArray, List.nil_append, List.cons_append]
            refine held_take (i := 0) (v := (.agg #[.int .u64 l1, .int .u64 n1, .int .u64 k1])) 41 rfl rfl (by kernel_rfl) (by kernel_rfl) (by kernel_rfl) rfl (fun w' hw' => by obtain ⟨r0, r1, r2⟩ := hw'; go_simp) hSa ?_
            simp only [Act.put, List.setIfInBounds_toArray, List.set_cons_zero, List.set_cons_succ]
            refine held_take (i := 1) (v := (.agg #[.int .u64 l1, .int .u64 n1, .int .u64 k1])) 42 rfl rfl (by kernel_rfl) (by kernel_rfl) (by kernel_rfl) rfl (fun w' hw' => by obtain ⟨r0, r1, r2⟩ := hw'; go_simp) hSa ?_
            simp only [Act.put, List.setIfInBounds_toArray, List.set_cons_zero, List.set_cons_succ]
            refine held_call (i := 2) (f := 45) (args := #[.agg #[.int .u64 l1, .int .u64 n1, .int .u64 k1]]) 43 (by kernel_rfl) rfl rfl rfl (by go_simp) ?_
            refine (node_any ⟨l1, n1, k1⟩ _).mono ?_
            rintro e_ w6 ⟨rfl, o_, hw_⟩
            have HM6 := hid (HM5.out.new E (X' := w6) (by rw [hw_]; exact ((Keeps.refl _ w5).drew).alloc o_))
            have hs6 := HM6.out.a6
            refine ⟨_, rfl, ⟨hs6.c0, hs6.c1, hs6.c2⟩, ?_⟩
            clear hw_ HM5 hSa hs6
            simp only [Act.put, List.setIfInBounds_toArray, List.set_cons_zero, List.set_cons_succ]
            refine held_call (i := 3) (f := 55) (args := #[.int .u64 (Sp.nd ⟨l1, n1, k1⟩)]) 44 (by kernel_rfl) rfl rfl rfl (by go_simp) ?_
            refine (leads_any _ _).mono ?_
            rintro e_ w_ ⟨rfl, hw_⟩
            subst w_
            have hs6 := HM6.out.a6
            refine ⟨_, rfl, ⟨hs6.c0, hs6.c1, hs6.c2⟩, ?_⟩
            clear hs6
            have hp := HM6.out.a8
            have p0 := hp.c0
            have p1 := hp.c1
            have p2 := hp.c2
            have pf0 := hp.fr 0
            have pf1 := hp.fr 1
            have pf2 := hp.fr 2
            clear hp
            simp only [Act.put, List.setIfInBounds_toArray, List.set_cons_zero, List.set_cons_succ]
            have HM7 := hid (HM6.out.set8 E (keeps_set3 _ _ _ _ _) (HM6.out.a8.set3 l1 n1 k1))
            have hs7 := HM7.out.a6
            have hSb := And.intro hs7.c0 (And.intro hs7.c1 hs7.c2)
            clear hs7
            refine held_none (i := 4) (w' := (((w6.setCell ⟨w.heap.size + 1, 0, none⟩ (.int .u64 l1)).setCell ⟨w.heap.size + 1, 1, none⟩ (.int .u64 n1)).setCell ⟨w.heap.size + 1, 2, none⟩ (.int .u64 k1))) (by kernel_rfl) rfl rfl rfl (by go_simp) hSb ?_
            simp only [List.setIfInBounds_toArray, List.set_cons_zero, List.set_cons_succ]
            refine held_take (i := 5) (v := (.int .u64 (ld (Sp.nd ⟨l1, n1, k1⟩)))) 9 rfl rfl (by kernel_rfl) (by kernel_rfl) (by kernel_rfl) rfl (fun w' hw' => by obtain ⟨r0, r1, r2⟩ := hw'; go_simp) hSb ?_
            simp only [Act.put, List.setIfInBounds_toArray, List.set_cons_zero, List.set_cons_succ]
            refine held_end (by kernel_rfl) ?_ _
            clear hSb p0 p1 p2 pf0 pf1 pf2 HM6
            have HWN : Hid (∃ m', Wy w b g c s l pass J Fp (((w6.setCell ⟨w.heap.size + 1, 0, none⟩ (.int .u64 l1)).setCell ⟨w.heap.size + 1, 1, none⟩ (.int .u64 n1)).setCell ⟨w.heap.size + 1, 2, none⟩ (.int .u64 k1)) m' ⟨l1, n1, k1⟩ ⟨l1, n1, k1⟩ (ld (Sp.nd ⟨l1, n1, k1⟩)) (P ++ [⟨l1, n1, k1⟩]) s1) := by
              have hy := HY.out
              have hsp := HSP.out
              have hmq := HM7.out
              simp only [if_true] at hmq
              exact hid (hy.next HE.out hn HBB.out hp hsp.1 (follow_mem HE.out hy.mq.wd.ok hn hy.ce) hsp.2.1 ⟨hsp.2.2.1, hsp.2.2.2⟩ hmq)
            have HME : Hid (measQ (((w6.setCell ⟨w.heap.size + 1, 0, none⟩ (.int .u64 l1)).setCell ⟨w.heap.size + 1, 1, none⟩ (.int .u64 n1)).setCell ⟨w.heap.size + 1, 2, none⟩ (.int .u64 k1)) (w.heap.size + 1) < measQ wr (w.heap.size + 1)) := by
              have q1 := measQ_of HM7.out.a8
              have q2 := measQ_of HY.out.mq.a8
              have hk := HSP.out.1.2.2
              have ht := HY.out.ok.2.2
              have hbb := HBB.out
              unfold isW at hk ht
              rw [if_neg hn] at q1
              rw [if_pos rfl] at q2
              simp only at q1 q2 hk ht hbb
              refine hid ?_
              rw [q1, q2]
              omega
            generalize (((w6.setCell ⟨w.heap.size + 1, 0, none⟩ (.int .u64 l1)).setCell ⟨w.heap.size + 1, 1, none⟩ (.int .u64 n1)).setCell ⟨w.heap.size + 1, 2, none⟩ (.int .u64 k1)) = w7 at HWN HME ⊢
            clear HM7 HY HE HSP HBB
            go_wp2_with fail
            go_roundw
            case rel => obtain ⟨m', hw⟩ := HWN.out; exact ⟨m', _, _, _, _, _, rfl, rfl, hid hw⟩
            case measure => exact HME.out
        · have hzt : (nt != 0) = true := by simpa using hnt
          by_cases hk : k1 ≤ kt
          · skip
            have HEQ : Hid (s.way pass l = ((Sp.zero, 310), P, s1)) := hid (HY.out.eq.trans (way_list HE.out hn hnt hk))
            clear HY HE
            have hq := HM.out.a6
            have q0 := hq.c0
            have q1 := hq.c1
            have q2 := hq.c2
            have qf0 := hq.fr 0
            have qf1 := hq.fr 1
            have qf2 := hq.fr 2
            clear hq
            go_wp2_with fail
            have HM2 : Hid (Mq w b g c J Fp (((w1.setCell ⟨w.heap.size, 0, none⟩ (.int .u64 (l1))).setCell ⟨w.heap.size, 1, none⟩ (.int .u64 (n1))).setCell ⟨w.heap.size, 2, none⟩ (.int .u64 (k1))) P s1 ⟨l1, n1, k1⟩ ⟨lt, nt, kt⟩) := hid (HM.out.set6 E (keeps_set3 _ _ _ _ _) (HM.out.a6.set3 _ _ _))
            generalize (((w1.setCell ⟨w.heap.size, 0, none⟩ (.int .u64 (l1))).setCell ⟨w.heap.size, 1, none⟩ (.int .u64 (n1))).setCell ⟨w.heap.size, 2, none⟩ (.int .u64 (k1))) = w2 at HM2 ⊢
            clear HM q0 q1 q2 qf0 qf1 qf2
            refine (there_any ⟨l1, n1, k1⟩ _).mono ?_
            rintro e_ w3 ⟨rfl, o_, hw_⟩
            have HM3 : Hid (Mq w b g c J Fp w3 P s1 ⟨l1, n1, k1⟩ ⟨lt, nt, kt⟩) := hid (by rw [hw_]; exact HM2.out.new E (keeps_new _ _))
            clear hw_ HM2
            unfold Sp.there
            simp only [hzb]
            have hq := HM3.out.a6
            have q0 := hq.c0
            have q1 := hq.c1
            have q2 := hq.c2
            have qf0 := hq.fr 0
            have qf1 := hq.fr 1
            have qf2 := hq.fr 2
            clear hq
            have hp := HM3.out.a8
            have p0 := hp.c0
            have p1 := hp.c1
            have p2 := hp.c2
            have pf0 := hp.fr 0
            have pf1 := hp.fr 1
            have pf2 := hp.fr 2
            clear hp
            go_wp2_with fail
            refine (there_any ⟨lt, nt, kt⟩ _).mono ?_
            rintro e_ w4 ⟨rfl, o_, hw_⟩
            have HM4 : Hid (Mq w b g c J Fp w4 P s1 ⟨l1, n1, k1⟩ ⟨lt, nt, kt⟩) := hid (by rw [hw_]; exact HM3.out.new E (keeps_new _ _))
            clear hw_ HM3
            unfold Sp.there
            simp only [hzt]
            clear q0 q1 q2 qf0 qf1 qf2 p0 p1 p2 pf0 pf1 pf2
            have hq := HM4.out.a6
            have q0 := hq.c0
            have q1 := hq.c1
            have q2 := hq.c2
            have qf0 := hq.fr 0
            have qf1 := hq.fr 1
            have qf2 := hq.fr 2
            clear hq
            have hp := HM4.out.a8
            have p0 := hp.c0
            have p1 := hp.c1
            have p2 := hp.c2
            have pf0 := hp.fr 0
            have pf1 := hp.fr 1
            have pf2 := hp.fr 2
            clear hp
            go_wp2_with fail
            try simp only [Exit.noGoto]
            refine bodyPost_ret (sp_ret rfl _ _ w.heap.size _ (HM4.out.a6.set3 0 0 0) rfl) rfl ?_
            rw [HEQ.out]
            have hq := (HM4.out.set6 E (keeps_set3 _ _ 0 0 0) (HM4.out.a6.set3 0 0 0))
            have hb := HLB.out
            exact ⟨rfl, hq.wd, hq.j, hq.k, fun i e => (hq.fp i e).imp id (fun q => by omega)⟩
          · skip
            have HPL : Hid (P.length ≤ 1000000) := hid (Nat.le_trans HY.out.ris.len HY.out.mq.wd.ok.2)
            have HBB : Hid (¬ ((nt : Int) ≠ 0 ∧ k1 ≤ kt)) := hid (fun q => hk q.2)
            cases hp : pass P ⟨l1, n1, k1⟩ with
            | false =>
              have HEQ : Hid (s.way pass l = ((⟨l1, n1, k1⟩, 0), P, s1)) := hid (HY.out.eq.trans (way_stop HE.out hn HBB.out hp))
              clear HY HE
              have hq := HM.out.a6
              have q0 := hq.c0
              have q1 := hq.c1
              have q2 := hq.c2
              have qf0 := hq.fr 0
              have qf1 := hq.fr 1
              have qf2 := hq.fr 2
              clear hq
              go_wp2_with fail
              have HM2 : Hid (Mq w b g c J Fp (((w1.setCell ⟨w.heap.size, 0, none⟩ (.int .u64 (l1))).setCell ⟨w.heap.size, 1, none⟩ (.int .u64 (n1))).setCell ⟨w.heap.size, 2, none⟩ (.int .u64 (k1))) P s1 ⟨l1, n1, k1⟩ ⟨lt, nt, kt⟩) := hid (HM.out.set6 E (keeps_set3 _ _ _ _ _) (HM.out.a6.set3 _ _ _))
              generalize (((w1.setCell ⟨w.heap.size, 0, none⟩ (.int .u64 (l1))).setCell ⟨w.heap.size, 1, none⟩ (.int .u64 (n1))).setCell ⟨w.heap.size, 2, none⟩ (.int .u64 (k1))) = w2 at HM2 ⊢
              clear HM q0 q1 q2 qf0 qf1 qf2
              refine (there_any ⟨l1, n1, k1⟩ _).mono ?_
              rintro e_ w3 ⟨rfl, o_, hw_⟩
              have HM3 : Hid (Mq w b g c J Fp w3 P s1 ⟨l1, n1, k1⟩ ⟨lt, nt, kt⟩) := hid (by rw [hw_]; exact HM2.out.new E (keeps_new _ _))
              clear hw_ HM2
              unfold Sp.there
              simp only [hzb]
              have hq := HM3.out.a6
              have q0 := hq.c0
              have q1 := hq.c1
              have q2 := hq.c2
              have qf0 := hq.fr 0
              have qf1 := hq.fr 1
              have qf2 := hq.fr 2
              clear hq
              have hp := HM3.out.a8
              have p0 := hp.c0
              have p1 := hp.c1
              have p2 := hp.c2
              have pf0 := hp.fr 0
              have pf1 := hp.fr 1
              have pf2 := hp.fr 2
              clear hp
              go_wp2_with fail
              refine (there_any ⟨lt, nt, kt⟩ _).mono ?_
              rintro e_ w4 ⟨rfl, o_, hw_⟩
              have HM4 : Hid (Mq w b g c J Fp w4 P s1 ⟨l1, n1, k1⟩ ⟨lt, nt, kt⟩) := hid (by rw [hw_]; exact HM3.out.new E (keeps_new _ _))
              clear hw_ HM3
              unfold Sp.there
              simp only [hzt]
              clear q0 q1 q2 qf0 qf1 qf2 p0 p1 p2 pf0 pf1 pf2
              have hq := HM4.out.a6
              have q0 := hq.c0
              have q1 := hq.c1
              have q2 := hq.c2
              have qf0 := hq.fr 0
              have qf1 := hq.fr 1
              have qf2 := hq.fr 2
              clear hq
              have hp := HM4.out.a8
              have p0 := hp.c0
              have p1 := hp.c1
              have p2 := hp.c2
              have pf0 := hp.fr 0
              have pf1 := hp.fr 1
              have pf2 := hp.fr 2
              clear hp
              go_wp2_with fail
              have hm4 := HM4.out
              refine (E.call w4 P ⟨l1, n1, k1⟩ HSP.out.1 HPL.out hm4.j).mono ?_
              rintro e_ w5 ⟨rfl, j5, k5, f5⟩
              have HM5 := hid (hm4.call k5 j5 f5)
              rw [hp] at HM5 ⊢
              clear hm4 j5 k5 f5 HM4 q0 q1 q2 qf0 qf1 qf2 p0 p1 p2 pf0 pf1 pf2
              have hq := HM5.out.a6
              have q0 := hq.c0
              have q1 := hq.c1
              have q2 := hq.c2
              have qf0 := hq.fr 0
              have qf1 := hq.fr 1
              have qf2 := hq.fr 2
              clear hq
              go_wp2_with fail
              try simp only [Exit.noGoto]
              refine bodyPost_ret (sp_ret rfl _ _ w.heap.size _ (HM5.out.a6.set3 l1 n1 k1) rfl) rfl ?_
              rw [HEQ.out]
              have hq := (HM5.out.set6 E (keeps_set3 _ _ l1 n1 k1) (HM5.out.a6.set3 l1 n1 k1))
              have hb := HLB.out
              exact ⟨rfl, hq.wd, hq.j, hq.k, fun i e => (hq.fp i e).imp id (fun q => by omega)⟩
            | true =>
              have hq := HM.out.a6
              have q0 := hq.c0
              have q1 := hq.c1
              have q2 := hq.c2
              have qf0 := hq.fr 0
              have qf1 := hq.fr 1
              have qf2 := hq.fr 2
              clear hq
              go_wp2_with fail
              have HM2 : Hid (Mq w b g c J Fp (((w1.setCell ⟨w.heap.size, 0, none⟩ (.int .u64 (l1))).setCell ⟨w.heap.size, 1, none⟩ (.int .u64 (n1))).setCell ⟨w.heap.size, 2, none⟩ (.int .u64 (k1))) P s1 ⟨l1, n1, k1⟩ ⟨lt, nt, kt⟩) := hid (HM.out.set6 E (keeps_set3 _ _ _ _ _) (HM.out.a6.set3 _ _ _))
              generalize (((w1.setCell ⟨w.heap.size, 0, none⟩ (.int .u64 (l1))).setCell ⟨w.heap.size, 1, none⟩ (.int .u64 (n1))).setCell ⟨w.heap.size, 2, none⟩ (.int .u64 (k1))) = w2 at HM2 ⊢
              clear HM q0 q1 q2 qf0 qf1 qf2
              refine (there_any ⟨l1, n1, k1⟩ _).mono ?_
              rintro e_ w3 ⟨rfl, o_, hw_⟩
              have HM3 : Hid (Mq w b g c J Fp w3 P s1 ⟨l1, n1, k1⟩ ⟨lt, nt, kt⟩) := hid (by rw [hw_]; exact HM2.out.new E (keeps_new _ _))
              clear hw_ HM2
              unfold Sp.there
              simp only [hzb]
              have hq := HM3.out.a6
              have q0 := hq.c0
              have q1 := hq.c1
              have q2 := hq.c2
              have qf0 := hq.fr 0
              have qf1 := hq.fr 1
              have qf2 := hq.fr 2
              clear hq
              have hp := HM3.out.a8
              have p0 := hp.c0
              have p1 := hp.c1
              have p2 := hp.c2
              have pf0 := hp.fr 0
              have pf1 := hp.fr 1
              have pf2 := hp.fr 2
              clear hp
              go_wp2_with fail
              refine (there_any ⟨lt, nt, kt⟩ _).mono ?_
              rintro e_ w4 ⟨rfl, o_, hw_⟩
              have HM4 : Hid (Mq w b g c J Fp w4 P s1 ⟨l1, n1, k1⟩ ⟨lt, nt, kt⟩) := hid (by rw [hw_]; exact HM3.out.new E (keeps_new _ _))
              clear hw_ HM3
              unfold Sp.there
              simp only [hzt]
              clear q0 q1 q2 qf0 qf1 qf2 p0 p1 p2 pf0 pf1 pf2
              have hq := HM4.out.a6
              have q0 := hq.c0
              have q1 := hq.c1
              have q2 := hq.c2
              have qf0 := hq.fr 0
              have qf1 := hq.fr 1
              have qf2 := hq.fr 2
              clear hq
              have hp := HM4.out.a8
              have p0 := hp.c0
              have p1 := hp.c1
              have p2 := hp.c2
              have pf0 := hp.fr 0
              have pf1 := hp.fr 1
              have pf2 := hp.fr 2
              clear hp
              go_wp2_with fail
              have hm4 := HM4.out
              refine (E.call w4 P ⟨l1, n1, k1⟩ HSP.out.1 HPL.out hm4.j).mono ?_
              rintro e_ w5 ⟨rfl, j5, k5, f5⟩
              have HM5 := hid (hm4.call k5 j5 f5)
              rw [hp] at HM5 ⊢
              clear hm4 j5 k5 f5 HM4 q0 q1 q2 qf0 qf1 qf2 p0 p1 p2 pf0 pf1 pf2
              have hSa : (w5.drew.cell? ⟨w.heap.size, 0, none⟩ = some (.int .u64 l1) ∧ w5.drew.cell? ⟨w.heap.size, 1, none⟩ = some (.int .u64 n1) ∧ w5.drew.cell? ⟨w.heap.size, 2, none⟩ = some (.int .u64 k1)) := by have hs := HM5.out.a6; exact ⟨hs.c0, hs.c1, hs.c2⟩
              go_wp2_with fail
              refine wp_held_end (S := fun W : World => W.cell? ⟨w.heap.size, 0, none⟩ = some (.int .u64 l1) ∧ W.cell? ⟨w.heap.size, 1, none⟩ = some (.int .u64 n1) ∧ W.cell? ⟨w.heap.size, 2, none⟩ = some (.int .u64 k1)) 6 rfl hmxp ?_
              simp only [Array.replicate_succ, Array.replicate_zero, List.push_toArray, List.nil_append, List.cons_append]
              refine held_take (i := 0) (v := (.agg #[.int .u64 l1, .int .u64 n1, .int .u64 k1])) 41 rfl rfl (by kernel_rfl) (by kernel_rfl) (by kernel_rfl) rfl (fun w' hw' => by obtain ⟨r0, r1, r2⟩ := hw'; go_simp) hSa ?_
              simp only [Act.put, List.setIfInBounds_toArray, List.set_cons_zero, List.set_cons_succ]
              refine held_take (i := 1) (v := (.agg #[.int .u64 l1, .int .u64 n1, .int .u64 k1])) 42 rfl rfl (by kernel_rfl) (by kernel_rfl) (by kernel_rfl) rfl (fun w' hw' => by obtain ⟨r0, r1, r2⟩ := hw'; go_simp) hSa ?_
              simp only [Act.put, List.setIfInBounds_toArray, List.set_cons_zero, List.set_cons_succ]
              refine held_call (i := 2) (f := 45) (args := #[.agg #[.int .u64 l1, .int .u64 n1, .int .u64 k1]]) 43 (by kernel_rfl) rfl rfl rfl (by go_simp) ?_
              refine (node_any ⟨l1, n1, k1⟩ _).mono ?_
              rintro e_ w6 ⟨rfl, o_, hw_⟩
              have HM6 := hid (HM5.out.new E (X' := w6) (by rw [hw_]; exact ((Keeps.refl _ w5).drew).alloc o_))
              have hs6 := HM6.out.a6
              refine ⟨_, rfl, ⟨hs6.c0, hs6.c1, hs6.c2⟩, ?_⟩
              clear hw_ HM5 hSa hs6
              simp only [Act.put, List.setIfInBounds_toArray, List.set_cons_zero, List.set_cons_succ]
              refine held_call (i := 3) (f := 55) (args := #[.int .u64 (Sp.nd ⟨l1, n1, k1⟩)]) 44 (by kernel_rfl) rfl rfl rfl (by go_simp) ?_
              refine (leads_any _ _).mono ?_
              rintro e_ w_ ⟨rfl, hw_⟩
              subst w_
              have hs6 := HM6.out.a6
              refine ⟨_, rfl, ⟨hs6.c0, hs6.c1, hs6.c2⟩, ?_⟩
              clear hs6
              have hp := HM6.out.a8
              have p0 := hp.c0
              have p1 := hp.c1
              have p2 := hp.c2
              have pf0 := hp.fr 0
              have pf1 := hp.fr 1
              have pf2 := hp.fr 2
              clear hp
              simp only [Act.put, List.setIfInBounds_toArray, List.set_cons_zero, List.set_cons_succ]
              have HM7 := hid (HM6.out.set8 E (keeps_set3 _ _ _ _ _) (HM6.out.a8.set3 l1 n1 k1))
              have hs7 := HM7.out.a6
              have hSb := And.intro hs7.c0 (And.intro hs7.c1 hs7.c2)
              clear hs7
              refine held_none (i := 4) (w' := (((w6.setCell ⟨w.heap.size + 1, 0, none⟩ (.int .u64 l1)).setCell ⟨w.heap.size + 1, 1, none⟩ (.int .u64 n1)).setCell ⟨w.heap.size + 1, 2, none⟩ (.int .u64 k1))) (by kernel_rfl) rfl rfl rfl (by go_simp) hSb ?_
              simp only [List.setIfInBounds_toArray, List.set_cons_zero, List.set_cons_succ]
              refine held_take (i := 5) (v := (.int .u64 (ld (Sp.nd ⟨l1, n1, k1⟩)))) 9 rfl rfl (by kernel_rfl) (by kernel_rfl) (by kernel_rfl) rfl (fun w' hw' => by obtain ⟨r0, r1, r2⟩ := hw'; go_simp) hSb ?_
              simp only [Act.put, List.setIfInBounds_toArray, List.set_cons_zero, List.set_cons_succ]
              refine held_end (by kernel_rfl) ?_ _
              clear hSb p0 p1 p2 pf0 pf1 pf2 HM6
              have HWN : Hid (∃ m', Wy w b g c s l pass J Fp (((w6.setCell ⟨w.heap.size + 1, 0, none⟩ (.int .u64 l1)).setCell ⟨w.heap.size + 1, 1, none⟩ (.int .u64 n1)).setCell ⟨w.heap.size + 1, 2, none⟩ (.int .u64 k1)) m' ⟨l1, n1, k1⟩ ⟨l1, n1, k1⟩ (ld (Sp.nd ⟨l1, n1, k1⟩)) (P ++ [⟨l1, n1, k1⟩]) s1) := by
                have hy := HY.out
                have hsp := HSP.out
                have hmq := HM7.out
                simp only [if_true] at hmq
                exact hid (hy.next HE.out hn HBB.out hp hsp.1 (follow_mem HE.out hy.mq.wd.ok hn hy.ce) hsp.2.1 ⟨hsp.2.2.1, hsp.2.2.2⟩ hmq)
              have HME : Hid (measQ (((w6.setCell ⟨w.heap.size + 1, 0, none⟩ (.int .u64 l1)).setCell ⟨w.heap.size + 1, 1, none⟩ (.int .u64 n1)).setCell ⟨w.heap.size + 1, 2, none⟩ (.int .u64 k1)) (w.heap.size + 1) < measQ wr (w.heap.size + 1)) := by
                have q1 := measQ_of HM7.out.a8
                have q2 := measQ_of HY.out.mq.a8
                have hk := HSP.out.1.2.2
                have ht := HY.out.ok.2.2
                have hbb := HBB.out
                unfold isW at hk ht
                rw [if_neg hn] at q1
                rw [if_neg hnt] at q2
                simp only at q1 q2 hk ht hbb
                refine hid ?_
                rw [q1, q2]
                omega
              generalize (((w6.setCell ⟨w.heap.size + 1, 0, none⟩ (.int .u64 l1)).setCell ⟨w.heap.size + 1, 1, none⟩ (.int .u64 n1)).setCell ⟨w.heap.size + 1, 2, none⟩ (.int .u64 k1)) = w7 at HWN HME ⊢
              clear HM7 HY HE HSP HBB
              go_wp2_with fail
              go_roundw
              case rel => obtain ⟨m', hw⟩ := HWN.out; exact ⟨m', _, _, _, _, _, rfl, rfl, hid hw⟩
              case measure => exact HME.out
    · skip
      have HEQ : Hid (s.way pass l = ((⟨l1, n1, k1⟩, e), P, s1)) := hid (HY.out.eq.trans (way_end HE.out (.inl he)))
      clear HY HE
      have hq := HM.out.a6
      have q0 := hq.c0
      have q1 := hq.c1
      have q2 := hq.c2
      have qf0 := hq.fr 0
      have qf1 := hq.fr 1
      have qf2 := hq.fr 2
      clear hq
      go_wp2_with fail
      try simp only [Exit.noGoto]
      refine bodyPost_ret (sp_ret rfl _ _ w.heap.size _ ((HM.out.a6.set3 l1 n1 k1).set3 l1 n1 k1) rfl) rfl ?_
      rw [HEQ.out]
      have hq := ((HM.out.set6 E (keeps_set3 _ _ l1 n1 k1) (HM.out.a6.set3 l1 n1 k1)).set6 E (keeps_set3 _ _ l1 n1 k1) ((HM.out.a6.set3 l1 n1 k1).set3 l1 n1 k1))
      have hb := HLB.out
      exact ⟨rfl, hq.wd, hq.j, hq.k, fun i e => (hq.fp i e).imp id (fun q => by omega)⟩
end Go.Proofs.Ytmnbilhblkobdaa
