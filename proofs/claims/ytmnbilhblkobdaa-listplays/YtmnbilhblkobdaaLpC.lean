
/- The walk of follow (layer 21). No statement of the seat is proved here. -/
import Derived.Test.YtmnbilhblkobdaaLpB
namespace Go.Proofs.Ytmnbilhblkobdaa
open Go.RowKit

set_option maxHeartbeats 1000000 in
theorem follow_any (b g c : Nat) (s : Wd) (a : Int) (ha : isW a) (w : World) (h : WdAt w b g c s) :
    Calls Try.prog 58 #[.iface 24 (.pointer (some ⟨b, 0, none⟩)), .int .u64 a] w fun e w' => e = .returned (.tuple #[(s.follow a).1.1.v, .int .i64 (s.follow a).1.2]) ∧ WdAt w' b g c (s.follow a).2 ∧ Keeps (two b g) w w' := by
  have mg := meth_get b
  have ng := nil_get b
  have oks : s.Ok := h.ok
  have HLB : Hid (b < w.heap.size ∧ g < w.heap.size) := ⟨h.ltb, h.ltg⟩
  have HLT : Hid (¬ two b g w.heap.size) := by have := HLB.out; rintro (e | e) <;> omega
  have HH := hid (h.kept (keeps_new w (.cells #[.int .u64 0, .int .u64 0, .int .u64 0] 75)) (fun f => f) (fun f => f))
  have KK := hid ((keeps_new w (.cells #[.int .u64 0, .int .u64 0, .int .u64 0] 75)).mono (T := two b g) fun _ _ f => f.elim)
  clear h
  obtain ⟨⟨⟨x, e⟩, s1⟩, eq1⟩ : ∃ r, s.get a = r := ⟨_, rfl⟩
  have hwx : isW x := get_isW eq1 oks
  have oks1 : s1.Ok := by have q := (oks.get a).1; rw [eq1] at q; exact q
  by_cases hze : e = 0
  · subst hze
    by_cases hzx : x = 0
    · subst hzx
      have hs : s.follow a = ((⟨a, 0, 0⟩, 0), s1) := by
        unfold Wd.follow
        simp [eq1]
      rw [hs]
      have HE1 : Hid (_ = _) := eq1
      clear hs eq1
      go_enter Try.func58, Try.ntmps58
      go_wp2_with fail
      have hh := HH.out
      refine (tget_r HE1 ha hh).mono ?_
      rintro e_ w1 ⟨rfl, h1, k1⟩
      have hsp : SpAt w1 w.heap.size Sp.zero := (spAt_new w Sp.zero).keeps k1 HLT.out
      have hws : w.heap.size < w1.heap.size := hsp.lt
      have HZ := hid (And.intro h1 (And.intro (KK.out.trans k1) hsp))
      clear hh HH KK HE1 h1 k1 hsp
      go_wp2_with fail
      refine (there_any ⟨a, 0, 0⟩ _).mono ?_
      rintro e_ w2 ⟨rfl, o2, hw2⟩
      have HY : Hid (WdAt w2 b g c s1 ∧ Keeps (two b g) w w2 ∧ SpAt w2 w.heap.size Sp.zero ∧ SpAt w2 w1.heap.size ⟨a, 0, 0⟩) := by
        have hz := HZ.out
        have kn := (keeps_new w1 (.cells #[.int .u64 a, .int .u64 (0), .int .u64 0] 75)).alloc o2
        rw [← hw2] at kn
        refine hid ⟨hz.1.kept kn (fun f => f) (fun f => f), hz.2.1.step kn (fun _ _ f => f.elim), hz.2.2.keeps kn (fun f => f), ?_⟩
        have q := (spAt_new w1 ⟨a, 0, 0⟩).keeps (keeps_new _ o2) (fun f => f)
        rw [hw2]
        exact q
      clear HZ hw2
      have hq := HY.out.2.2.1
      have q0 := hq.c0
      have q1 := hq.c1
      have q2 := hq.c2
      have qf0 := hq.fr 0
      have qf1 := hq.fr 1
      have qf2 := hq.fr 2
      clear hq
      have hp := HY.out.2.2.2
      have p0 := hp.c0
      have p1 := hp.c1
      have p2 := hp.c2
      have pf0 := hp.fr 0
      have pf1 := hp.fr 1
      have pf2 := hp.fr 2
      clear hp
      go_wp2_with fail
      refine bodyPost_ret (sp_ret rfl _ _ w.heap.size _ (HY.out.2.2.1.set3 a 0 0) rfl) rfl ?_
      have ks := keeps_set3 w2 w.heap.size a 0 0
      have hb := HLB.out
      exact ⟨rfl, HY.out.1.kept ks (by omega) (by omega), HY.out.2.1.step ks (fun i hi e => by omega)⟩
    · obtain ⟨⟨⟨k, f⟩, s2⟩, eq2⟩ : ∃ r, s1.get (uw (x - 1)) = r := ⟨_, rfl⟩
      have hwk : isW k := get_isW eq2 oks1
      have HE2 : Hid (_ = _) := eq2
      have hzb : (x != 0) = true := by simpa using hzx
      by_cases hzf : f = 0
      · subst hzf
        have hs : s.follow a = ((⟨a, x, k⟩, 0), s2) := by
          unfold Wd.follow
          simp [eq1, eq2, hzx]
        rw [hs]
        clear eq2
        have HE1 : Hid (_ = _) := eq1
        clear hs eq1
        go_enter Try.func58, Try.ntmps58
        go_wp2_with fail
        have hh := HH.out
        refine (tget_r HE1 ha hh).mono ?_
        rintro e_ w1 ⟨rfl, h1, k1⟩
        have hsp : SpAt w1 w.heap.size Sp.zero := (spAt_new w Sp.zero).keeps k1 HLT.out
        have hws : w.heap.size < w1.heap.size := hsp.lt
        have HZ := hid (And.intro h1 (And.intro (KK.out.trans k1) hsp))
        clear hh HH KK HE1 h1 k1 hsp
        go_wp2_with fail
        refine (there_any ⟨a, x, 0⟩ _).mono ?_
        rintro e_ w2 ⟨rfl, o2, hw2⟩
        unfold Sp.there
        simp only [hzb]
        have HY : Hid (WdAt w2 b g c s1 ∧ Keeps (two b g) w w2 ∧ SpAt w2 w.heap.size Sp.zero ∧ SpAt w2 w1.heap.size ⟨a, x, 0⟩) := by
          have hz := HZ.out
          have kn := (keeps_new w1 (.cells #[.int .u64 a, .int .u64 (x), .int .u64 0] 75)).alloc o2
          rw [← hw2] at kn
          refine hid ⟨hz.1.kept kn (fun f => f) (fun f => f), hz.2.1.step kn (fun _ _ f => f.elim), hz.2.2.keeps kn (fun f => f), ?_⟩
          have q := (spAt_new w1 ⟨a, x, 0⟩).keeps (keeps_new _ o2) (fun f => f)
          rw [hw2]
          exact q
        clear HZ hw2
        have hp := HY.out.2.2.2
        have p0 := hp.c0
        have p1 := hp.c1
        have p2 := hp.c2
        have pf0 := hp.fr 0
        have pf1 := hp.fr 1
        have pf2 := hp.fr 2
        clear hp
        go_wp2_with fail
        refine wp_held_end (S := fun W : World => True) 13 rfl hmxp ?_
        simp only [Array.replicate_succ, Array.replicate_zero, List.push_toArray, List.nil_append, List.cons_append]
        refine held_take (i := 0) (v := (.iface 24 (.pointer (some ⟨b, 0, none⟩)))) 25 rfl rfl (by kernel_rfl) (by kernel_rfl) (by kernel_rfl) rfl (fun w' hw' => by go_simp) trivial ?_
        simp only [Act.put, List.setIfInBounds_toArray, List.set_cons_zero, List.set_cons_succ]
        refine held_take (i := 3) (v := (.func (.method "Get") #[.iface 24 (.pointer (some ⟨b, 0, none⟩))] #[])) 28 rfl rfl (by kernel_rfl) (by kernel_rfl) (by kernel_rfl) rfl (fun w' hw' => by go_simp) trivial ?_
        simp only [Act.put, List.setIfInBounds_toArray, List.set_cons_zero, List.set_cons_succ]
        refine held_take (i := 4) (v := (.func (.method "Get") #[.iface 24 (.pointer (some ⟨b, 0, none⟩))] #[])) 29 rfl rfl (by kernel_rfl) (by kernel_rfl) (by kernel_rfl) rfl (fun w' hw' => by go_simp) trivial ?_
        simp only [Act.put, List.setIfInBounds_toArray, List.set_cons_zero, List.set_cons_succ]
        refine held_take (i := 5) (v := (.iface 24 (.pointer (some ⟨b, 0, none⟩)))) 30 rfl rfl (by kernel_rfl) (by kernel_rfl) (by kernel_rfl) rfl (fun w' hw' => by go_simp) trivial ?_
        simp only [Act.put, List.setIfInBounds_toArray, List.set_cons_zero, List.set_cons_succ]
        refine held_val (i := 1) (v := (.agg #[.int .u64 a, .int .u64 x, .int .u64 0])) (w' := w2.drew) (some 26) (by kernel_rfl) rfl rfl rfl (by go_simp) trivial ?_
        simp only [Act.put, List.setIfInBounds_toArray, List.set_cons_zero, List.set_cons_succ]
        refine held_call (i := 2) (f := 45) (args := #[.agg #[.int .u64 a, .int .u64 x, .int .u64 0]]) 27 (by kernel_rfl) rfl rfl rfl (by go_simp) ?_
        refine (node_any ⟨a, x, 0⟩ _).mono ?_
        rintro e_ w3 ⟨rfl, o3, hw3⟩
        refine ⟨_, rfl, trivial, ?_⟩
        have HX : Hid (WdAt w3 b g c s1 ∧ Keeps (two b g) w w3 ∧ SpAt w3 w.heap.size Sp.zero ∧ SpAt w3 w1.heap.size ⟨a, x, 0⟩) := by
          have hy := HY.out
          have kn : Keeps (fun _ => False) w2 (w2.drew.alloc o3) := ((Keeps.refl _ w2).drew).alloc o3
          rw [← hw3] at kn
          exact hid ⟨hy.1.kept kn (fun f => f) (fun f => f), hy.2.1.step kn (fun _ _ f => f.elim), hy.2.2.1.keeps kn (fun f => f), hy.2.2.2.keeps kn (fun f => f)⟩
        clear HY hw3 p0 p1 p2 pf0 pf1 pf2
        simp only [Act.put, List.setIfInBounds_toArray, List.set_cons_zero, List.set_cons_succ]
        refine held_call (i := 6) (f := 74) (args := #[.pointer (some ⟨b, 0, none⟩), .int .u64 (uw (x - 1))]) 31 (by kernel_rfl) rfl rfl rfl (by go_simp; rfl) ?_
        refine (tget_r HE2 (uw_isW _) HX.out.1).mono ?_
        rintro e_ w4 ⟨rfl, h4, k4⟩
        refine ⟨_, rfl, trivial, ?_⟩
        have HV : Hid (WdAt w4 b g c s2 ∧ Keeps (two b g) w w4 ∧ SpAt w4 w.heap.size Sp.zero ∧ SpAt w4 w1.heap.size ⟨a, x, 0⟩) := by
          have hy := HX.out
          have hb := HLB.out
          exact hid ⟨h4, hy.2.1.trans k4, hy.2.2.1.keeps k4 (by rintro (e | e) <;> omega), hy.2.2.2.keeps k4 (by rintro (e | e) <;> omega)⟩
        clear HX h4 k4
        have hp := HV.out.2.2.2
        have p0 := hp.c0
        have p1 := hp.c1
        have p2 := hp.c2
        have pf0 := hp.fr 0
        have pf1 := hp.fr 1
        have pf2 := hp.fr 2
        clear hp
        simp only [Act.put, List.setIfInBounds_toArray, List.set_cons_zero, List.set_cons_succ]
        refine held_take (i := 7) (v := (.tuple #[.int .u64 k, .int .i64 0])) 24 rfl rfl (by kernel_rfl) (by kernel_rfl) (by kernel_rfl) rfl (fun w' hw' => by go_simp) trivial ?_
        simp only [Act.put, List.setIfInBounds_toArray, List.set_cons_zero, List.set_cons_succ]
        refine held_take (i := 8) (v := (.int .u64 k)) 32 rfl rfl (by kernel_rfl) (by kernel_rfl) (by kernel_rfl) rfl (fun w' hw' => by go_simp) trivial ?_
        simp only [Act.put, List.setIfInBounds_toArray, List.set_cons_zero, List.set_cons_succ]
        refine held_take (i := 9) (v := (.int .i64 0)) 33 rfl rfl (by kernel_rfl) (by kernel_rfl) (by kernel_rfl) rfl (fun w' hw' => by go_simp) trivial ?_
        simp only [Act.put, List.setIfInBounds_toArray, List.set_cons_zero, List.set_cons_succ]
        refine held_take (i := 10) (v := (.pointer (some ⟨w1.heap.size, 2, none⟩))) 34 rfl rfl (by kernel_rfl) (by kernel_rfl) (by kernel_rfl) rfl (fun w' hw' => by go_simp) trivial ?_
        simp only [Act.put, List.setIfInBounds_toArray, List.set_cons_zero, List.set_cons_succ]
        refine held_none (i := 11) (w' := w4.setCell ⟨w1.heap.size, 2, none⟩ (.int .u64 k)) (by kernel_rfl) rfl rfl rfl (by go_simp) trivial ?_
        simp only [List.setIfInBounds_toArray, List.set_cons_zero, List.set_cons_succ]
        refine held_take (i := 12) (v := (.int .i64 0)) 7 rfl rfl (by kernel_rfl) (by kernel_rfl) (by kernel_rfl) rfl (fun w' hw' => by go_simp) trivial ?_
        simp only [Act.put, List.setIfInBounds_toArray, List.set_cons_zero, List.set_cons_succ]
        have HU : Hid (WdAt (w4.setCell ⟨w1.heap.size, 2, none⟩ (.int .u64 k)) b g c s2 ∧ Keeps (two b g) w (w4.setCell ⟨w1.heap.size, 2, none⟩ (.int .u64 k)) ∧ SpAt (w4.setCell ⟨w1.heap.size, 2, none⟩ (.int .u64 k)) w.heap.size Sp.zero ∧ SpAt (w4.setCell ⟨w1.heap.size, 2, none⟩ (.int .u64 k)) w1.heap.size ⟨a, x, k⟩) := by
          have hv := HV.out
          have hb := HLB.out
          have ks := keeps_setK w4 w1.heap.size 2 k
          exact hid ⟨hv.1.kept ks (by omega) (by omega), hv.2.1.step ks (fun i hi e => by omega), hv.2.2.1.keeps ks (by omega), hv.2.2.2.setK k⟩
        clear HV p0 p1 p2 pf0 pf1 pf2
        generalize w4.setCell ⟨w1.heap.size, 2, none⟩ (.int .u64 k) = w5 at HU ⊢
        refine held_end (by kernel_rfl) ?_ _
        have hq := HU.out.2.2.1
        have q0 := hq.c0
        have q1 := hq.c1
        have q2 := hq.c2
        have qf0 := hq.fr 0
        have qf1 := hq.fr 1
        have qf2 := hq.fr 2
        clear hq
        have hp := HU.out.2.2.2
        have p0 := hp.c0
        have p1 := hp.c1
        have p2 := hp.c2
        have pf0 := hp.fr 0
        have pf1 := hp.fr 1
        have pf2 := hp.fr 2
        clear hp
        go_wp2_with fail
        refine bodyPost_ret (sp_ret rfl _ _ w.heap.size _ (HU.out.2.2.1.set3 a x k) rfl) rfl ?_
        have ks := keeps_set3 w5 w.heap.size a x k
        have hb := HLB.out
        exact ⟨rfl, HU.out.1.kept ks (by omega) (by omega), HU.out.2.1.step ks (fun i hi e => by omega)⟩
      · have hs : s.follow a = ((Sp.zero, f), s2) := by
          unfold Wd.follow
          simp [eq1, eq2, hzx, hzf]
        rw [hs]
        clear eq2
        have HE1 : Hid (_ = _) := eq1
        clear hs eq1
        go_enter Try.func58, Try.ntmps58
        go_wp2_with fail
        have hh := HH.out
        refine (tget_r HE1 ha hh).mono ?_
        rintro e_ w1 ⟨rfl, h1, k1⟩
        have hsp : SpAt w1 w.heap.size Sp.zero := (spAt_new w Sp.zero).keeps k1 HLT.out
        have hws : w.heap.size < w1.heap.size := hsp.lt
        have HZ := hid (And.intro h1 (And.intro (KK.out.trans k1) hsp))
        clear hh HH KK HE1 h1 k1 hsp
        go_wp2_with fail
        refine (there_any ⟨a, x, 0⟩ _).mono ?_
        rintro e_ w2 ⟨rfl, o2, hw2⟩
        unfold Sp.there
        simp only [hzb]
        have HY : Hid (WdAt w2 b g c s1 ∧ Keeps (two b g) w w2 ∧ SpAt w2 w.heap.size Sp.zero ∧ SpAt w2 w1.heap.size ⟨a, x, 0⟩) := by
          have hz := HZ.out
          have kn := (keeps_new w1 (.cells #[.int .u64 a, .int .u64 (x), .int .u64 0] 75)).alloc o2
          rw [← hw2] at kn
          refine hid ⟨hz.1.kept kn (fun f => f) (fun f => f), hz.2.1.step kn (fun _ _ f => f.elim), hz.2.2.keeps kn (fun f => f), ?_⟩
          have q := (spAt_new w1 ⟨a, x, 0⟩).keeps (keeps_new _ o2) (fun f => f)
          rw [hw2]
          exact q
        clear HZ hw2
        have hp := HY.out.2.2.2
        have p0 := hp.c0
        have p1 := hp.c1
        have p2 := hp.c2
        have pf0 := hp.fr 0
        have pf1 := hp.fr 1
        have pf2 := hp.fr 2
        clear hp
        go_wp2_with fail
        refine wp_held_end (S := fun W : World => True) 13 rfl hmxp ?_
        simp only [Array.replicate_succ, Array.replicate_zero, List.push_toArray, List.nil_append, List.cons_append]
        refine held_take (i := 0) (v := (.iface 24 (.pointer (some ⟨b, 0, none⟩)))) 25 rfl rfl (by kernel_rfl) (by kernel_rfl) (by kernel_rfl) rfl (fun w' hw' => by go_simp) trivial ?_
        simp only [Act.put, List.setIfInBounds_toArray, List.set_cons_zero, List.set_cons_succ]
        refine held_take (i := 3) (v := (.func (.method "Get") #[.iface 24 (.pointer (some ⟨b, 0, none⟩))] #[])) 28 rfl rfl (by kernel_rfl) (by kernel_rfl) (by kernel_rfl) rfl (fun w' hw' => by go_simp) trivial ?_
        simp only [Act.put, List.setIfInBounds_toArray, List.set_cons_zero, List.set_cons_succ]
        refine held_take (i := 4) (v := (.func (.method "Get") #[.iface 24 (.pointer (some ⟨b, 0, none⟩))] #[])) 29 rfl rfl (by kernel_rfl) (by kernel_rfl) (by kernel_rfl) rfl (fun w' hw' => by go_simp) trivial ?_
        simp only [Act.put, List.setIfInBounds_toArray, List.set_cons_zero, List.set_cons_succ]
        refine held_take (i := 5) (v := (.iface 24 (.pointer (some ⟨b, 0, none⟩)))) 30 rfl rfl (by kernel_rfl) (by kernel_rfl) (by kernel_rfl) rfl (fun w' hw' => by go_simp) trivial ?_
        simp only [Act.put, List.setIfInBounds_toArray, List.set_cons_zero, List.set_cons_succ]
        refine held_val (i := 1) (v := (.agg #[.int .u64 a, .int .u64 x, .int .u64 0])) (w' := w2.drew) (some 26) (by kernel_rfl) rfl rfl rfl (by go_simp) trivial ?_
        simp only [Act.put, List.setIfInBounds_toArray, List.set_cons_zero, List.set_cons_succ]
        refine held_call (i := 2) (f := 45) (args := #[.agg #[.int .u64 a, .int .u64 x, .int .u64 0]]) 27 (by kernel_rfl) rfl rfl rfl (by go_simp) ?_
        refine (node_any ⟨a, x, 0⟩ _).mono ?_
        rintro e_ w3 ⟨rfl, o3, hw3⟩
        refine ⟨_, rfl, trivial, ?_⟩
        have HX : Hid (WdAt w3 b g c s1 ∧ Keeps (two b g) w w3 ∧ SpAt w3 w.heap.size Sp.zero ∧ SpAt w3 w1.heap.size ⟨a, x, 0⟩) := by
          have hy := HY.out
          have kn : Keeps (fun _ => False) w2 (w2.drew.alloc o3) := ((Keeps.refl _ w2).drew).alloc o3
          rw [← hw3] at kn
          exact hid ⟨hy.1.kept kn (fun f => f) (fun f => f), hy.2.1.step kn (fun _ _ f => f.elim), hy.2.2.1.keeps kn (fun f => f), hy.2.2.2.keeps kn (fun f => f)⟩
        clear HY hw3 p0 p1 p2 pf0 pf1 pf2
        simp only [Act.put, List.setIfInBounds_toArray, List.set_cons_zero, List.set_cons_succ]
        refine held_call (i := 6) (f := 74) (args := #[.pointer (some ⟨b, 0, none⟩), .int .u64 (uw (x - 1))]) 31 (by kernel_rfl) rfl rfl rfl (by go_simp; rfl) ?_
        refine (tget_r HE2 (uw_isW _) HX.out.1).mono ?_
        rintro e_ w4 ⟨rfl, h4, k4⟩
        refine ⟨_, rfl, trivial, ?_⟩
        have HV : Hid (WdAt w4 b g c s2 ∧ Keeps (two b g) w w4 ∧ SpAt w4 w.heap.size Sp.zero ∧ SpAt w4 w1.heap.size ⟨a, x, 0⟩) := by
          have hy := HX.out
          have hb := HLB.out
          exact hid ⟨h4, hy.2.1.trans k4, hy.2.2.1.keeps k4 (by rintro (e | e) <;> omega), hy.2.2.2.keeps k4 (by rintro (e | e) <;> omega)⟩
        clear HX h4 k4
        have hp := HV.out.2.2.2
        have p0 := hp.c0
        have p1 := hp.c1
        have p2 := hp.c2
        have pf0 := hp.fr 0
        have pf1 := hp.fr 1
        have pf2 := hp.fr 2
        clear hp
        simp only [Act.put, List.setIfInBounds_toArray, List.set_cons_zero, List.set_cons_succ]
        refine held_take (i := 7) (v := (.tuple #[.int .u64 k, .int .i64 f])) 24 rfl rfl (by kernel_rfl) (by kernel_rfl) (by kernel_rfl) rfl (fun w' hw' => by go_simp) trivial ?_
        simp only [Act.put, List.setIfInBounds_toArray, List.set_cons_zero, List.set_cons_succ]
        refine held_take (i := 8) (v := (.int .u64 k)) 32 rfl rfl (by kernel_rfl) (by kernel_rfl) (by kernel_rfl) rfl (fun w' hw' => by go_simp) trivial ?_
        simp only [Act.put, List.setIfInBounds_toArray, List.set_cons_zero, List.set_cons_succ]
        refine held_take (i := 9) (v := (.int .i64 f)) 33 rfl rfl (by kernel_rfl) (by kernel_rfl) (by kernel_rfl) rfl (fun w' hw' => by go_simp) trivial ?_
        simp only [Act.put, List.setIfInBounds_toArray, List.set_cons_zero, List.set_cons_succ]
        refine held_take (i := 10) (v := (.pointer (some ⟨w1.heap.size, 2, none⟩))) 34 rfl rfl (by kernel_rfl) (by kernel_rfl) (by kernel_rfl) rfl (fun w' hw' => by go_simp) trivial ?_
        simp only [Act.put, List.setIfInBounds_toArray, List.set_cons_zero, List.set_cons_succ]
        refine held_none (i := 11) (w' := w4.setCell ⟨w1.heap.size, 2, none⟩ (.int .u64 k)) (by kernel_rfl) rfl rfl rfl (by go_simp) trivial ?_
        simp only [List.setIfInBounds_toArray, List.set_cons_zero, List.set_cons_succ]
        refine held_take (i := 12) (v := (.int .i64 f)) 7 rfl rfl (by kernel_rfl) (by kernel_rfl) (by kernel_rfl) rfl (fun w' hw' => by go_simp) trivial ?_
        simp only [Act.put, List.setIfInBounds_toArray, List.set_cons_zero, List.set_cons_succ]
        have HU : Hid (WdAt (w4.setCell ⟨w1.heap.size, 2, none⟩ (.int .u64 k)) b g c s2 ∧ Keeps (two b g) w (w4.setCell ⟨w1.heap.size, 2, none⟩ (.int .u64 k)) ∧ SpAt (w4.setCell ⟨w1.heap.size, 2, none⟩ (.int .u64 k)) w.heap.size Sp.zero ∧ SpAt (w4.setCell ⟨w1.heap.size, 2, none⟩ (.int .u64 k)) w1.heap.size ⟨a, x, k⟩) := by
          have hv := HV.out
          have hb := HLB.out
          have ks := keeps_setK w4 w1.heap.size 2 k
          exact hid ⟨hv.1.kept ks (by omega) (by omega), hv.2.1.step ks (fun i hi e => by omega), hv.2.2.1.keeps ks (by omega), hv.2.2.2.setK k⟩
        clear HV p0 p1 p2 pf0 pf1 pf2
        generalize w4.setCell ⟨w1.heap.size, 2, none⟩ (.int .u64 k) = w5 at HU ⊢
        refine held_end (by kernel_rfl) ?_ _
        have hq := HU.out.2.2.1
        have q0 := hq.c0
        have q1 := hq.c1
        have q2 := hq.c2
        have qf0 := hq.fr 0
        have qf1 := hq.fr 1
        have qf2 := hq.fr 2
        clear hq
        have hp := HU.out.2.2.2
        have p0 := hp.c0
        have p1 := hp.c1
        have p2 := hp.c2
        have pf0 := hp.fr 0
        have pf1 := hp.fr 1
        have pf2 := hp.fr 2
        clear hp
        go_wp2_with fail
        refine bodyPost_ret (sp_ret rfl _ _ w.heap.size _ (HU.out.2.2.1.set3 0 0 0) rfl) rfl ?_
        have ks := keeps_set3 w5 w.heap.size 0 0 0
        have hb := HLB.out
        exact ⟨rfl, HU.out.1.kept ks (by omega) (by omega), HU.out.2.1.step ks (fun i hi e => by omega)⟩
  · have hs : s.follow a = ((Sp.zero, e), s1) := by
      unfold Wd.follow
      simp [eq1, hze]
    rw [hs]
    have HE1 : Hid (_ = _) := eq1
    clear hs eq1
    go_enter Try.func58, Try.ntmps58
    go_wp2_with fail
    have hh := HH.out
    refine (tget_r HE1 ha hh).mono ?_
    rintro e_ w1 ⟨rfl, h1, k1⟩
    have hsp : SpAt w1 w.heap.size Sp.zero := (spAt_new w Sp.zero).keeps k1 HLT.out
    have hws : w.heap.size < w1.heap.size := hsp.lt
    have HZ := hid (And.intro h1 (And.intro (KK.out.trans k1) hsp))
    clear hh HH KK HE1 h1 k1 hsp
    have hq := HZ.out.2.2
    have q0 := hq.c0
    have q1 := hq.c1
    have q2 := hq.c2
    have qf0 := hq.fr 0
    have qf1 := hq.fr 1
    have qf2 := hq.fr 2
    clear hq
    go_wp2_with fail
    refine bodyPost_ret (sp_ret rfl _ _ w.heap.size _ (HZ.out.2.2.set3 0 0 0) rfl) rfl ?_
    have ks := keeps_set3 w1 w.heap.size 0 0 0
    have hb := HLB.out
    exact ⟨rfl, HZ.out.1.kept ks (by omega) (by omega), HZ.out.2.1.step ks (fun i hi e => by omega)⟩
theorem follow_r {b g c : Nat} {s : Wd} {a e : Int} {t : Sp} {s1 : Wd} (heq : Hid (s.follow a = ((t, e), s1))) (ha : isW a) {w : World} (h : WdAt w b g c s) :
    Calls Try.prog 58 #[.iface 24 (.pointer (some ⟨b, 0, none⟩)), .int .u64 a] w fun r w' => r = .returned (.tuple #[t.v, .int .i64 e]) ∧ WdAt w' b g c s1 ∧ Keeps (two b g) w w' := by
  have hq := follow_any b g c s a ha w h
  rw [heq.out] at hq
  exact hq
end Go.Proofs.Ytmnbilhblkobdaa
