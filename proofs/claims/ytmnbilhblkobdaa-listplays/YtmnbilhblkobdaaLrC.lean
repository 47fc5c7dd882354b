
/- The walk of do (layer 21). No statement of the seat is proved here. -/
import Derived.Test.YtmnbilhblkobdaaLrB
namespace Go.Proofs.Ytmnbilhblkobdaa
open Go.RowKit

set_option maxRecDepth 100000 in
set_option maxHeartbeats 4000000 in
theorem do_any (b g c : Nat) (s : Wd) (r l kind on key : Int) (hr : isW r) (hl : isW l) (hkey : isW key) (hce : s.c ≠ 0 ∨ s.f < 0) (w : World) (h : WdAt w b g c s) :
    Calls Try.prog 8 #[.iface 24 (.pointer (some ⟨b, 0, none⟩)), .int .u64 r, .int .u64 l, .agg #[.int .i64 kind, .int .i64 on, .int .u64 key]] w fun e w' => ∃ v, e = .returned (.agg #[.int .u64 (s.call r l kind key).1.w, .bool (s.call r l kind key).1.h, v, .int .i64 (s.call r l kind key).1.e]) ∧ Wr w' w.heap.size v (s.call r l kind key).1.L ∧ WdAt w' b g c (s.call r l kind key).2 ∧ Keeps (two b g) w w' := by
  have HH := hid (dq_start h (.cells #[.int .i64 kind, .int .i64 on, .int .u64 key] 33))
  have H8 := hid (dq_start8 w (.cells #[.int .i64 kind, .int .i64 on, .int .u64 key] 33))
  clear h
  by_cases hk1 : kind = 1
  · subst hk1
    obtain ⟨⟨⟨x, e⟩, s1⟩, eq1⟩ : ∃ r_, s.insert r l key = r_ := ⟨_, rfl⟩
    have hs : s.call r l 1 key = (⟨0, x, [], e⟩, s1) := by
      unfold Wd.call
      simp [eq1]
    rw [hs]
    have HE1 : Hid (_ = _) := eq1
    clear hs eq1
    go_enter Try.func8, Try.ntmps8
    go_wp2_with fail
    have hh := HH.out
    refine (insert_r HE1 hr hl hkey hce hh.hs.wd).mono ?_
    rintro e_ w1 ⟨rfl, h1, k1⟩
    replace HH := hid (hh.acc k1 h1)
    clear hh h1 k1
    have hq := HH.out.a9
    have q0 := hq.c0
    have q1 := hq.c1
    have q2 := hq.c2
    have q3 := hq.c3
    have qf0 := hq.fr 0
    have qf1 := hq.fr 1
    have qf2 := hq.fr 2
    have qf3 := hq.fr 3
    clear hq
    obtain ⟨x8, h8, v8, e8, ha8⟩ := HH.out.a8
    have hp := ha8
    have p0 := hp.c0
    have p1 := hp.c1
    have p2 := hp.c2
    have p3 := hp.c3
    have pf0 := hp.fr 0
    have pf1 := hp.fr 1
    have pf2 := hp.fr 2
    have pf3 := hp.fr 3
    clear hp ha8
    go_wp2_with fail
    have hd := ((HH.out.own (HH.out.a9.set1 x)).own ((HH.out.a9.set1 x).set3 e))
    have hf := hd.fin 0 e x (.slice none 0 0)
    refine bodyPost_ret (rp_ret rfl _ _ (w.heap.size + 1) 0 e x (.slice none 0 0) hf.1 rfl) rfl ?_
    exact ⟨_, rfl, Wr.nil _ _, hf.2.1.wd, hf.2.1.k⟩
  · skip
    by_cases hk2 : kind = 2
    · subst hk2
      obtain ⟨⟨⟨x, e⟩, s1⟩, eq1⟩ : ∃ r_, s.remove r l key = r_ := ⟨_, rfl⟩
      have hs : s.call r l 2 key = (⟨0, x, [], e⟩, s1) := by
        unfold Wd.call
        simp [eq1]
      rw [hs]
      have HE1 : Hid (_ = _) := eq1
      clear hs eq1
      go_enter Try.func8, Try.ntmps8
      go_wp2_with fail
      have hh := HH.out
      refine (remove_r HE1 hl hce hh.hs.wd).mono ?_
      rintro e_ w1 ⟨rfl, h1, k1⟩
      replace HH := hid (hh.acc k1 h1)
      clear hh h1 k1
      have hq := HH.out.a9
      have q0 := hq.c0
      have q1 := hq.c1
      have q2 := hq.c2
      have q3 := hq.c3
      have qf0 := hq.fr 0
      have qf1 := hq.fr 1
      have qf2 := hq.fr 2
      have qf3 := hq.fr 3
      clear hq
      obtain ⟨x8, h8, v8, e8, ha8⟩ := HH.out.a8
      have hp := ha8
      have p0 := hp.c0
      have p1 := hp.c1
      have p2 := hp.c2
      have p3 := hp.c3
      have pf0 := hp.fr 0
      have pf1 := hp.fr 1
      have pf2 := hp.fr 2
      have pf3 := hp.fr 3
      clear hp ha8
      go_wp2_with fail
      have hd := ((HH.out.own (HH.out.a9.set1 x)).own ((HH.out.a9.set1 x).set3 e))
      have hf := hd.fin 0 e x (.slice none 0 0)
      refine bodyPost_ret (rp_ret rfl _ _ (w.heap.size + 1) 0 e x (.slice none 0 0) hf.1 rfl) rfl ?_
      exact ⟨_, rfl, Wr.nil _ _, hf.2.1.wd, hf.2.1.k⟩
    · skip
      by_cases hk3 : kind = 3
      · subst hk3
        obtain ⟨⟨⟨x, e⟩, s1⟩, eq1⟩ : ∃ r_, s.has l key = r_ := ⟨_, rfl⟩
        have hs : s.call r l 3 key = (⟨0, x, [], e⟩, s1) := by
          unfold Wd.call
          simp [eq1]
        rw [hs]
        have HE1 : Hid (_ = _) := eq1
        clear hs eq1
        go_enter Try.func8, Try.ntmps8
        go_wp2_with fail
        have hh := HH.out
        refine (hasc_r HE1 hce hh.hs.wd).mono ?_
        rintro e_ w1 ⟨rfl, h1, k1⟩
        replace HH := hid (hh.acc k1 h1)
        clear hh h1 k1
        have hq := HH.out.a9
        have q0 := hq.c0
        have q1 := hq.c1
        have q2 := hq.c2
        have q3 := hq.c3
        have qf0 := hq.fr 0
        have qf1 := hq.fr 1
        have qf2 := hq.fr 2
        have qf3 := hq.fr 3
        clear hq
        obtain ⟨x8, h8, v8, e8, ha8⟩ := HH.out.a8
        have hp := ha8
        have p0 := hp.c0
        have p1 := hp.c1
        have p2 := hp.c2
        have p3 := hp.c3
        have pf0 := hp.fr 0
        have pf1 := hp.fr 1
        have pf2 := hp.fr 2
        have pf3 := hp.fr 3
        clear hp ha8
        go_wp2_with fail
        have hd := ((HH.out.own (HH.out.a9.set1 x)).own ((HH.out.a9.set1 x).set3 e))
        have hf := hd.fin 0 e x (.slice none 0 0)
        refine bodyPost_ret (rp_ret rfl _ _ (w.heap.size + 1) 0 e x (.slice none 0 0) hf.1 rfl) rfl ?_
        exact ⟨_, rfl, Wr.nil _ _, hf.2.1.wd, hf.2.1.k⟩
      · skip
        by_cases hk4 : kind = 4
        · subst hk4
          obtain ⟨⟨⟨x, e⟩, s1⟩, eq1⟩ : ∃ r_, s.len l = r_ := ⟨_, rfl⟩
          have hs : s.call r l 4 key = (⟨x, false, [], e⟩, s1) := by
            unfold Wd.call
            simp [eq1]
          rw [hs]
          have HE1 : Hid (_ = _) := eq1
          clear hs eq1
          go_enter Try.func8, Try.ntmps8
          go_wp2_with fail
          have hh := HH.out
          refine (len_r HE1 hl hh.hs.wd).mono ?_
          rintro e_ w1 ⟨rfl, h1, k1⟩
          replace HH := hid (hh.acc k1 h1)
          clear hh h1 k1
          have hq := HH.out.a9
          have q0 := hq.c0
          have q1 := hq.c1
          have q2 := hq.c2
          have q3 := hq.c3
          have qf0 := hq.fr 0
          have qf1 := hq.fr 1
          have qf2 := hq.fr 2
          have qf3 := hq.fr 3
          clear hq
          obtain ⟨x8, h8, v8, e8, ha8⟩ := HH.out.a8
          have hp := ha8
          have p0 := hp.c0
          have p1 := hp.c1
          have p2 := hp.c2
          have p3 := hp.c3
          have pf0 := hp.fr 0
          have pf1 := hp.fr 1
          have pf2 := hp.fr 2
          have pf3 := hp.fr 3
          clear hp ha8
          go_wp2_with fail
          have hd := ((HH.out.own (HH.out.a9.set0 x)).own ((HH.out.a9.set0 x).set3 e))
          have hf := hd.fin x e false (.slice none 0 0)
          refine bodyPost_ret (rp_ret rfl _ _ (w.heap.size + 1) x e false (.slice none 0 0) hf.1 rfl) rfl ?_
          exact ⟨_, rfl, Wr.nil _ _, hf.2.1.wd, hf.2.1.k⟩
        · skip
          by_cases hk5 : kind = 5
          · subst hk5
            obtain ⟨⟨⟨x, y, e⟩, s1⟩, eq1⟩ : ∃ r_, s.above l key = r_ := ⟨_, rfl⟩
            have hs : s.call r l 5 key = (⟨x, y, [], e⟩, s1) := by
              unfold Wd.call
              simp [eq1]
            rw [hs]
            have HE1 : Hid (_ = _) := eq1
            clear hs eq1
            go_enter Try.func8, Try.ntmps8
            go_wp2_with fail
            have hh := HH.out
            refine (above_r HE1 hce hh.hs.wd).mono ?_
            rintro e_ w1 ⟨rfl, h1, k1⟩
            replace HH := hid (hh.acc k1 h1)
            clear hh h1 k1
            have hq := HH.out.a9
            have q0 := hq.c0
            have q1 := hq.c1
            have q2 := hq.c2
            have q3 := hq.c3
            have qf0 := hq.fr 0
            have qf1 := hq.fr 1
            have qf2 := hq.fr 2
            have qf3 := hq.fr 3
            clear hq
            obtain ⟨x8, h8, v8, e8, ha8⟩ := HH.out.a8
            have hp := ha8
            have p0 := hp.c0
            have p1 := hp.c1
            have p2 := hp.c2
            have p3 := hp.c3
            have pf0 := hp.fr 0
            have pf1 := hp.fr 1
            have pf2 := hp.fr 2
            have pf3 := hp.fr 3
            clear hp ha8
            go_wp2_with fail
            have hd := (((HH.out.own (HH.out.a9.set0 x)).own ((HH.out.a9.set0 x).set1 y)).own (((HH.out.a9.set0 x).set1 y).set3 e))
            have hf := hd.fin x e y (.slice none 0 0)
            refine bodyPost_ret (rp_ret rfl _ _ (w.heap.size + 1) x e y (.slice none 0 0) hf.1 rfl) rfl ?_
            exact ⟨_, rfl, Wr.nil _ _, hf.2.1.wd, hf.2.1.k⟩
          · skip
            by_cases hk6 : kind = 6
            · subst hk6
              obtain ⟨⟨⟨x, y, e⟩, s1⟩, eq1⟩ : ∃ r_, s.first l = r_ := ⟨_, rfl⟩
              have hs : s.call r l 6 key = (⟨x, y, [], e⟩, s1) := by
                unfold Wd.call
                simp [eq1]
              rw [hs]
              have HE1 : Hid (_ = _) := eq1
              clear hs eq1
              go_enter Try.func8, Try.ntmps8
              go_wp2_with fail
              have hh := HH.out
              refine (first_r HE1 hce hh.hs.wd).mono ?_
              rintro e_ w1 ⟨rfl, h1, k1⟩
              replace HH := hid (hh.acc k1 h1)
              clear hh h1 k1
              have hq := HH.out.a9
              have q0 := hq.c0
              have q1 := hq.c1
              have q2 := hq.c2
              have q3 := hq.c3
              have qf0 := hq.fr 0
              have qf1 := hq.fr 1
              have qf2 := hq.fr 2
              have qf3 := hq.fr 3
              clear hq
              obtain ⟨x8, h8, v8, e8, ha8⟩ := HH.out.a8
              have hp := ha8
              have p0 := hp.c0
              have p1 := hp.c1
              have p2 := hp.c2
              have p3 := hp.c3
              have pf0 := hp.fr 0
              have pf1 := hp.fr 1
              have pf2 := hp.fr 2
              have pf3 := hp.fr 3
              clear hp ha8
              go_wp2_with fail
              have hd := (((HH.out.own (HH.out.a9.set0 x)).own ((HH.out.a9.set0 x).set1 y)).own (((HH.out.a9.set0 x).set1 y).set3 e))
              have hf := hd.fin x e y (.slice none 0 0)
              refine bodyPost_ret (rp_ret rfl _ _ (w.heap.size + 1) x e y (.slice none 0 0) hf.1 rfl) rfl ?_
              exact ⟨_, rfl, Wr.nil _ _, hf.2.1.wd, hf.2.1.k⟩
            · skip
              by_cases hk7 : kind = 7
              · subst hk7
                obtain ⟨⟨⟨L, e⟩, s1⟩, eq1⟩ : ∃ r_, s.keys l = r_ := ⟨_, rfl⟩
                have hs : s.call r l 7 key = (⟨0, false, L, e⟩, s1) := by
                  unfold Wd.call
                  simp [eq1]
                rw [hs]
                have HE1 : Hid (_ = _) := eq1
                clear hs eq1
                go_enter Try.func8, Try.ntmps8
                go_wp2_with fail
                have hh := HH.out
                refine (keys_r HE1 hl hce hh.hs.wd).mono ?_
                rintro e_ w1 ⟨v, rfl, r1, h1, k1⟩
                obtain ⟨av, cv, rfl⟩ := r1.form
                have HW := hid (Wr.base (base' := w.heap.size + 3) r1 (by simp))
                replace HH := hid (hh.acc k1 h1)
                clear hh h1 k1 r1
                have hq := HH.out.a9
                have q0 := hq.c0
                have q1 := hq.c1
                have q2 := hq.c2
                have q3 := hq.c3
                have qf0 := hq.fr 0
                have qf1 := hq.fr 1
                have qf2 := hq.fr 2
                have qf3 := hq.fr 3
                clear hq
                obtain ⟨x8, h8, v8, e8, ha8⟩ := HH.out.a8
                have hp := ha8
                have p0 := hp.c0
                have p1 := hp.c1
                have p2 := hp.c2
                have p3 := hp.c3
                have pf0 := hp.fr 0
                have pf1 := hp.fr 1
                have pf2 := hp.fr 2
                have pf3 := hp.fr 3
                clear hp ha8
                go_wp2_with fail
                have hd := ((HH.out.own (HH.out.a9.set2 (.slice av L.length cv))).own ((HH.out.a9.set2 (.slice av L.length cv)).set3 e))
                have hf := hd.fin 0 e false (.slice av L.length cv)
                refine bodyPost_ret (rp_ret rfl _ _ (w.heap.size + 1) 0 e false (.slice av L.length cv) hf.1 rfl) rfl ?_
                refine ⟨_, rfl, ?_, hf.2.1.wd, hf.2.1.k⟩
                have hw := (HW.out.keeps ((keeps_cell w1 (w.heap.size + 2) 2 (.slice av L.length cv)).trans (keeps_cell _ (w.heap.size + 2) 3 (.int .i64 e))) (fun i q => by omega)).keeps hf.2.2 (fun i q => by omega)
                exact hw.base (by omega)
              · skip
                by_cases hk8 : kind = 8
                · subst hk8
                  obtain ⟨⟨⟨x, e⟩, s1⟩, eq1⟩ : ∃ r_, s.clear r l = r_ := ⟨_, rfl⟩
                  have hs : s.call r l 8 key = (⟨x, false, [], e⟩, s1) := by
                    unfold Wd.call
                    simp [eq1]
                  rw [hs]
                  have HE1 : Hid (_ = _) := eq1
                  clear hs eq1
                  go_enter Try.func8, Try.ntmps8
                  go_wp2_with fail
                  have hh := HH.out
                  refine (clear_r HE1 hl hce hh.hs.wd).mono ?_
                  rintro e_ w1 ⟨rfl, h1, k1⟩
                  replace HH := hid (hh.acc k1 h1)
                  clear hh h1 k1
                  have hq := HH.out.a9
                  have q0 := hq.c0
                  have q1 := hq.c1
                  have q2 := hq.c2
                  have q3 := hq.c3
                  have qf0 := hq.fr 0
                  have qf1 := hq.fr 1
                  have qf2 := hq.fr 2
                  have qf3 := hq.fr 3
                  clear hq
                  obtain ⟨x8, h8, v8, e8, ha8⟩ := HH.out.a8
                  have hp := ha8
                  have p0 := hp.c0
                  have p1 := hp.c1
                  have p2 := hp.c2
                  have p3 := hp.c3
                  have pf0 := hp.fr 0
                  have pf1 := hp.fr 1
                  have pf2 := hp.fr 2
                  have pf3 := hp.fr 3
                  clear hp ha8
                  go_wp2_with fail
                  have hd := ((HH.out.own (HH.out.a9.set0 x)).own ((HH.out.a9.set0 x).set3 e))
                  have hf := hd.fin x e false (.slice none 0 0)
                  refine bodyPost_ret (rp_ret rfl _ _ (w.heap.size + 1) x e false (.slice none 0 0) hf.1 rfl) rfl ?_
                  exact ⟨_, rfl, Wr.nil _ _, hf.2.1.wd, hf.2.1.k⟩
                · skip
                  by_cases hk9 : kind = 9
                  · subst hk9
                    obtain ⟨⟨e, s1⟩, eq1⟩ : ∃ r_, s.drop r l = r_ := ⟨_, rfl⟩
                    by_cases hze : e = 0
                    · subst hze
                      obtain ⟨⟨⟨x, f⟩, s2⟩, eq2⟩ : ∃ r_, s1.new r = r_ := ⟨_, rfl⟩
                      have hs : s.call r l 9 key = (⟨x, false, [], f⟩, s2) := by
                        unfold Wd.call
                        simp [eq1, eq2]
                      rw [hs]
                      have HE1 : Hid (_ = _) := eq1
                      have HE2 : Hid (_ = _) := eq2
                      clear hs eq1 eq2
                      go_enter Try.func8, Try.ntmps8
                      go_wp2_with fail
                      have hh := HH.out
                      refine (drop_r HE1 hl hce hh.hs.wd).mono ?_
                      rintro e_ w1 ⟨rfl, h1, k1⟩
                      replace HH := hid (hh.acc k1 h1)
                      clear hh h1 k1
                      have hq := HH.out.a9
                      have q0 := hq.c0
                      have q1 := hq.c1
                      have q2 := hq.c2
                      have q3 := hq.c3
                      have qf0 := hq.fr 0
                      have qf1 := hq.fr 1
                      have qf2 := hq.fr 2
                      have qf3 := hq.fr 3
                      clear hq
                      go_wp2_with fail
                      replace HH := hid (HH.out.own (HH.out.a9.set3 0))
                      clear q0 q1 q2 q3 qf0 qf1 qf2 qf3
                      have hh := HH.out
                      refine (new_r HE2 hr hh.hs.wd).mono ?_
                      rintro e_ w2 ⟨rfl, h2, k2⟩
                      replace HH := hid (hh.acc k2 h2)
                      clear hh h2 k2
                      have hq := HH.out.a9
                      have q0 := hq.c0
                      have q1 := hq.c1
                      have q2 := hq.c2
                      have q3 := hq.c3
                      have qf0 := hq.fr 0
                      have qf1 := hq.fr 1
                      have qf2 := hq.fr 2
                      have qf3 := hq.fr 3
                      clear hq
                      obtain ⟨x8, h8, v8, e8, ha8⟩ := HH.out.a8
                      have hp := ha8
                      have p0 := hp.c0
                      have p1 := hp.c1
                      have p2 := hp.c2
                      have p3 := hp.c3
                      have pf0 := hp.fr 0
                      have pf1 := hp.fr 1
                      have pf2 := hp.fr 2
                      have pf3 := hp.fr 3
                      clear hp ha8
                      go_wp2_with fail
                      have hd := ((HH.out.own (HH.out.a9.set0 x)).own ((HH.out.a9.set0 x).set3 f))
                      have hf := hd.fin x f false (.slice none 0 0)
                      refine bodyPost_ret (rp_ret rfl _ _ (w.heap.size + 1) x f false (.slice none 0 0) hf.1 rfl) rfl ?_
                      exact ⟨_, rfl, Wr.nil _ _, hf.2.1.wd, hf.2.1.k⟩
                    · skip
                      have hs : s.call r l 9 key = (⟨0, false, [], e⟩, s1) := by
                        unfold Wd.call
                        simp [eq1, hze]
                      rw [hs]
                      have HE1 : Hid (_ = _) := eq1
                      clear hs eq1
                      go_enter Try.func8, Try.ntmps8
                      go_wp2_with fail
                      have hh := HH.out
                      refine (drop_r HE1 hl hce hh.hs.wd).mono ?_
                      rintro e_ w1 ⟨rfl, h1, k1⟩
                      replace HH := hid (hh.acc k1 h1)
                      clear hh h1 k1
                      have hq := HH.out.a9
                      have q0 := hq.c0
                      have q1 := hq.c1
                      have q2 := hq.c2
                      have q3 := hq.c3
                      have qf0 := hq.fr 0
                      have qf1 := hq.fr 1
                      have qf2 := hq.fr 2
                      have qf3 := hq.fr 3
                      clear hq
                      obtain ⟨x8, h8, v8, e8, ha8⟩ := HH.out.a8
                      have hp := ha8
                      have p0 := hp.c0
                      have p1 := hp.c1
                      have p2 := hp.c2
                      have p3 := hp.c3
                      have pf0 := hp.fr 0
                      have pf1 := hp.fr 1
                      have pf2 := hp.fr 2
                      have pf3 := hp.fr 3
                      clear hp ha8
                      go_wp2_with fail
                      have hd := (HH.out.own (HH.out.a9.set3 e))
                      have hf := hd.fin 0 e false (.slice none 0 0)
                      refine bodyPost_ret (rp_ret rfl _ _ (w.heap.size + 1) 0 e false (.slice none 0 0) hf.1 rfl) rfl ?_
                      exact ⟨_, rfl, Wr.nil _ _, hf.2.1.wd, hf.2.1.k⟩
                  · skip
                    have hs : s.call r l kind key = (⟨0, false, [], 0⟩, s) := by
                      unfold Wd.call
                      simp [hk1, hk2, hk3, hk4, hk5, hk6, hk7, hk8, hk9]
                    rw [hs]
                    clear hs
                    have hb1 : (kind == 1) = false := by simpa using hk1
                    have hb2 : (kind == 2) = false := by simpa using hk2
                    have hb3 : (kind == 3) = false := by simpa using hk3
                    have hb4 : (kind == 4) = false := by simpa using hk4
                    have hb5 : (kind == 5) = false := by simpa using hk5
                    have hb6 : (kind == 6) = false := by simpa using hk6
                    have hb7 : (kind == 7) = false := by simpa using hk7
                    have hb8 : (kind == 8) = false := by simpa using hk8
                    have hb9 : (kind == 9) = false := by simpa using hk9
                    go_enter Try.func8, Try.ntmps8
                    go_wp2_with fail
                    refine bodyPost_ret (rp_ret rfl _ _ (w.heap.size + 1) 0 0 false (.slice none 0 0) H8.out rfl) rfl ?_
                    exact ⟨_, rfl, Wr.nil _ _, HH.out.hs.wd, HH.out.hs.k⟩
theorem do_r {b g c : Nat} {s : Wd} {r l kind on key : Int} {R : Rp} {s1 : Wd} (heq : Hid (s.call r l kind key = (R, s1))) (hr : isW r) (hl : isW l) (hkey : isW key) (hce : s.c ≠ 0 ∨ s.f < 0) {w : World} (h : WdAt w b g c s) :
    Calls Try.prog 8 #[.iface 24 (.pointer (some ⟨b, 0, none⟩)), .int .u64 r, .int .u64 l, .agg #[.int .i64 kind, .int .i64 on, .int .u64 key]] w fun e w' => ∃ v, e = .returned (.agg #[.int .u64 R.w, .bool R.h, v, .int .i64 R.e]) ∧ Wr w' w.heap.size v R.L ∧ WdAt w' b g c s1 ∧ Keeps (two b g) w w' := by
  have q := do_any b g c s r l kind on key hr hl hkey hce w h
  rw [heq.out] at q
  exact q
end Go.Proofs.Ytmnbilhblkobdaa
