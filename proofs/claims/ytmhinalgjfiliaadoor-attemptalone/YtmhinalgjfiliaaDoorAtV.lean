
/-
  The walk of AttemptAlone. No statement of the seat is proved here.
-/
import Derived.Test.YtmhinalgjfiliaaDoorAtU
namespace Go.Proofs.YtmhinalgjfiliaaDoor
open Go.RowKit Go.Shelf

theorem reads_c {w : World} {a : Option Addr} {n c : Nat} {xs : List Int} (h : Reads w (.slice a n c) xs) : C.Reads w a xs := fun i hi => by
  obtain ⟨g, off, rfl, hc⟩ := h.at hi
  exact ⟨_, rfl, by rw [C.addr_add, hc]; rfl⟩

set_option maxRecDepth 100000 in
set_option maxHeartbeats 1000000 in
theorem alone_no (v0 v1 v2 : Value) (xs : List Int) (w : World) (hz : Tz w) (h0 : Reads w v0 xs) (hn : xs.length < 1 ∨ 65536 < xs.length) :
    Calls Tryd.prog 3 #[v0, v1, v2] w fun e w' => e = .returned (.bool true) ∧ Keeps (fun _ => False) w w' := by
  obtain ⟨a0, c0, rfl⟩ := h0.form
  have HO := C.of_no a0 xs.length c0 w hn
  have HN : Hid (Calls Tryd.prog 7 #[] w fun e W => ∃ ck, e = .returned (.pointer (some ⟨ck, 0, none⟩)) ∧ Hid (Calls Tryd.prog 9 #[] W fun e w' => e = .returned (.bool true) ∧ Keeps (fun _ => False) w w')) :=
    (C.new_any w).mono fun e W ⟨p, b, c, h1, h2, h3, _⟩ => ⟨p, h1, (known_any W (hz.keeps h3 (fun f => f))).mono fun e w' ⟨g1, g2⟩ => ⟨g1, h3.trans g2⟩⟩
  have hnum := fun n W => num_any n W
  clear h0 hn hz
  go_enter Tryd.func3, Tryd.ntmps3
  go_wp2_with fail
  refine HO.mono ?_
  rintro e w' ⟨rfl, hw'⟩
  replace hw' := hw'.symm
  subst hw'
  clear HO
  go_wp2_with fail
  refine HN.out.mono ?_
  rintro e W2 ⟨ck, rfl, HK⟩
  clear HN
  go_wp2_with (go_at_call 8; refine (hnum _ _).mono ?_; rintro e w' ⟨rfl, hw'⟩; replace hw' := hw'.symm; subst hw')
  refine HK.out.mono ?_
  rintro e W3 ⟨rfl, k3⟩
  clear HK
  go_wp2_with fail
  go_ret
  exact ⟨rfl, k3⟩

set_option maxRecDepth 100000 in
set_option maxHeartbeats 6000000 in
theorem alone_yes (v0 v1 v2 : Value) (xs ys : List Int) (zs : List (Int × Int)) (w : World) (hz : Tz w) (h0 : Reads w v0 xs) (h1 : Reads w v1 ys) (h2 : Pairs w v2 zs) (hy : ∀ d ∈ ys, 0 ≤ d) (hzs : ∀ c ∈ zs, 0 ≤ c.1) (b2 : zs.length ≤ 35184372088832) (hn : 1 ≤ xs.length) (hl : xs.length ≤ 65536) :
    Calls Tryd.prog 3 #[v0, v1, v2] w fun e w' => e = .returned (.bool true) ∧ Keeps (fun _ => False) w w' := by
  have hp0 := hz.pos
  have b1 := h1.1
  obtain ⟨a0, c0, rfl⟩ := h0.form
  obtain ⟨a1, c1', rfl⟩ := h1.form
  obtain ⟨a2, c2', hv2, _⟩ := id h2
  subst hv2
  have HO : Hid (Calls Tryd.prog 6 #[.slice a0 xs.length c0] w fun e W => e = .returned (.tuple #[.pointer (some ⟨w.heap.size + 1, 0, none⟩), .int .i64 0]) ∧ Hid (C.RowAt W 59 34 (w.heap.size + 1) w.heap.size xs 0 ∧ Keeps (fun _ => False) w W)) :=
    (C.of_yes a0 xs.length c0 xs w rfl (reads_c h0) hn hl).mono fun e W ⟨q1, q2, q3⟩ => ⟨q1, q2, q3⟩
  have HN : Hid (∀ W1, C.RowAt W1 59 34 (w.heap.size + 1) w.heap.size xs 0 ∧ Keeps (fun _ => False) w W1 → Calls Tryd.prog 7 #[] W1 fun e W => ∃ ck, e = .returned (.pointer (some ⟨ck, 0, none⟩)) ∧ Hid (∃ cb cc, ShAt W ⟨w.heap.size + 1, w.heap.size, ck, cb, cc⟩ xs 0 ∧ (∀ q, Sh.own ⟨w.heap.size + 1, w.heap.size, ck, cb, cc⟩ q → w.heap.size ≤ q) ∧ Keeps (fun _ => False) w W)) := fun W1 ⟨r, k0⟩ =>
    (C.new_any W1).mono fun e W ⟨p, b, c, g1, g2, g3, g4, g5, g6⟩ => by
      obtain ⟨q1, q2⟩ := sh_new (w := w) r g2 g3 k0 g4 g5 g6 (by omega) (by omega)
      exact ⟨p, g1, b, c, q1, q2, k0.trans g3⟩
  have hnum := fun n W => num_any n W
  go_enter Tryd.func3, Tryd.ntmps3
  go_wp2_with fail
  refine HO.out.mono ?_
  rintro e W1 ⟨rfl, r1⟩
  have HN1 := HN.out W1 r1.out
  clear HO HN r1
  go_wp2_with fail
  refine HN1.mono ?_
  rintro e W2 ⟨ck, rfl, r2⟩
  clear HN1
  obtain ⟨cb, cc, s2, n2, k2⟩ := r2.out
  clear r2
  obtain ⟨R, eR⟩ : ∃ R : Sh, R = ⟨w.heap.size + 1, w.heap.size, ck, cb, cc⟩ := ⟨_, rfl⟩
  rw [← eR] at s2 n2
  have er : w.heap.size + 1 = R.rb := by rw [eR]
  have ec : ck = R.ck := by rw [eR]
  have HB : Hid (Calls Tryd.prog 10 #[.pointer (some ⟨w.heap.size + 1, 0, none⟩), .pointer (some ⟨ck, 0, none⟩)] W2 fun e W => ∃ a, e = .returned (.tuple #[.pointer (some ⟨a, 0, none⟩), turnV 6 0 1 0 0 false, .int .i64 0]) ∧ Hid (∃ rr dr Or Od, ∀ o, On (W.alloc o) a R rr dr [] Or Od (sdA [] []) xs 0 ∧ (∀ q, Both a Or Od R q → w.heap.size ≤ q) ∧ Keeps (fun _ => False) w (W.alloc o))) := by
    rw [er, ec]
    refine (begin_even R _ 0 W2 s2 (by decide) (by have := k2.size; omega)).mono fun e W ⟨a, rr, dr, Or, Od, g1, g2, g3, g4, g5⟩ => ⟨a, g1, rr, dr, Or, Od, fun o => ?_⟩
    have hz2 := k2.size
    have hds : ∀ q, AOwn a Or Od q → ¬ R.own q := fun q hq hR => by have := g3 q hq; have := s2.lt hR; omega
    have ho : On W a R rr dr [] Or Od (sd0 0) xs 0 := ⟨g2, g4, hds⟩
    have kw : Keeps (fun _ => False) w W := k2.step g5 (fun i hi e => by have := n2 i e; omega)
    exact ⟨ho.al _, fun q hq => hq.elim (fun e => by have := g3 q e; omega) (n2 q), kw.trans (Keeps.al W _)⟩
  have HR : Hid (w.heap.size + 1 = R.rb ∧ ck = R.ck) := ⟨er, ec⟩
  have HKN : Hid (∀ W, Keeps (fun _ => False) w W → Calls Tryd.prog 9 #[] W fun e w' => e = .returned (.bool true) ∧ Keeps (fun _ => False) w w') := fun W k => (known_any W (hz.keeps k (fun f => f))).mono fun e w' ⟨g1, g2⟩ => ⟨g1, k.trans g2⟩
  clear s2 n2 k2 er ec eR
  unfold turnV at HB
  go_wp2_with (go_at_call 8; refine (hnum _ _).mono ?_; rintro e w' ⟨rfl, hw'⟩; replace hw' := hw'.symm; subst hw')
  refine HB.out.mono ?_
  rintro e W3 ⟨a, rfl, r3⟩
  clear HB
  obtain ⟨rr, dr, Or0, Od0, r3'⟩ := r3.out
  obtain ⟨on3, new3, kp3⟩ := r3' (.cells (turnA 6 0 1 0 0 false) 39)
  clear r3 r3'
  have hrd3 := h0.below (kp3.below w.heap.size (Nat.le_refl _) (fun _ f => f.elim))
  obtain ⟨cN, W5, HA, hN5, k5⟩ := app_words hrd3 hn hl
  obtain ⟨x, hmk, hx⟩ := run_bools W5 xs.length hl
  have q5 := al_init on3 hz hp0 new3 kp3 k5 hN5 x hx
  have HQ5 : Hid (Al w (W5.alloc (.cells x 4)) (W3.heap.size + 1) W5.heap.size a R rr dr [] Or0 Od0 (sdA [] []) xs) := by rw [World.size_alloc] at q5; exact q5
  rw [World.size_alloc] at HA
  unfold turnA at HA
  clear on3 new3 kp3 hrd3 hN5 k5 hx q5 h0 hz hp0
  go_wp2_with (first
    | (at_builtin; refine wpList_append_run rfl _ _ 22 rfl rfl rfl HA.out ?_; clear HA)
    | (go_at_call 8; refine (hnum _ _).mono ?_; rintro e w' ⟨rfl, hw'⟩; replace hw' := hw'.symm; subst hw'))
  generalize hM : max ys.length zs.length = M
  have hM1 : ys.length ≤ M := by omega
  have hM2 : zs.length ≤ M := by omega
  have hM3 : M ≤ 35184372088832 := by omega
  clear hM
  generalize W3.heap.size + 1 = g at *
  generalize W5.heap.size = h at *
  go_loopw [15, 16] (fun ve vi X => ∃ k m : Nat, vi = .int .i64 (k : Int) ∧ ve = .int .i64 (m : Int) ∧ ∃ rd el L Or Od, Al w X g h a R rr dr L Or Od (sdA rd el) xs ∧ m = el.length ∧ L.length ≤ k ∧ L.length ≤ 500 ∧ rd.length ≤ k ∧ rd.length ≤ 500 ∧ ∀ e ∈ el, 0 ≤ e.1 ∧ e.1 < (xs.length : Int)) (fun _ vi _ => M - (intOf vi).toNat)
  case atStart => exact ⟨0, 0, rfl, rfl, [], [], [], Or0, Od0, HQ5.out, rfl, by simp, by simp, by simp, by simp, fun e he => by cases he⟩
  case round =>
    obtain ⟨k, m, rfl, rfl, rd, el, L, Or, Od, q, rfl, hLk0, hL5, hrk, hr5, hke⟩ := hrel
    clear HQ5
    have hLk : L.length ≤ k + 1 := by omega
    have hem : el.length ≤ 500 := by
      have := redoE_length L
      rw [q.on.at_.eq] at this
      exact Nat.le_trans this hL5
    by_cases hex : k < ys.length ∨ k < zs.length
    · by_cases hA : k < zs.length ∧ k < 500
      · have hkk : k < M := by omega
        have hz1 : (k : Int) < (zs.length : Int) := by omega
        have hz5 : (k : Int) < 500 := by omega
        by_cases hY : k < ys.length
        · have hk1 : (k : Int) < (ys.length : Int) := by omega
          obtain ⟨g2, o2, d, y, rfl, hzk, HP2⟩ := h2.fixed hA.1
          obtain ⟨p1, p2⟩ := HP2.out wr q.kp
          have hd0 : 0 ≤ d := hzs (d, y) (List.mem_of_getElem? hzk)
          clear HP2
          by_cases hdn : d < (xs.length : Int)
          · obtain ⟨dn, rfl⟩ : ∃ dn : Nat, d = (dn : Int) := ⟨d.toNat, by omega⟩
            have hdn' : dn < xs.length := by omega
            have q0 := q.al (.cells #[.int .u64 (dn : Int), .int .u64 y] 44)
            have hbt : (wr.alloc (.cells #[.int .u64 (dn : Int), .int .u64 y] 44)).heap[wr.heap.size]? = some (.cells #[.int .u64 (dn : Int), .int .u64 y] 44 (0, 0)) := alloc_block wr _
            have hnt : ¬ Both a Or Od R wr.heap.size := q.on.far (Nat.le_refl _)
            have hnd : (el.map Prod.fst).Nodup := by
              have := redoE_nodup L
              rw [q.on.at_.eq] at this
              exact this
            have hlt := q.nw.lt
            have HPt : Hid (Calls Tryd.prog 11 #[.pointer (some ⟨a, 0, none⟩), .int .u64 (dn : Int), .int .u64 y] (wr.alloc (.cells #[.int .u64 (dn : Int), .int .u64 y] 44)) fun e W' => e = .returned (.tuple #[turnV 3 0 3 (dn : Int) y false, .int .i64 0]) ∧ Hid (W'.heap[wr.heap.size]? = some (.cells #[.int .u64 (dn : Int), .int .u64 y] 44 (0, 0)) ∧ ∃ Od', ∀ o n, Mi w ((W'.alloc o).drewN n) g h a R rr dr (L ++ [((dn : Int), y)]) Or Od' (sdA rd (putE el (dn : Int) y)) xs el)) :=
              (q0.put dn y hdn' (by omega)).mono fun e W' ⟨f1, f2, Od', f3⟩ => ⟨f1, f2 _ _ hbt hnt, Od', fun o n => f3.up ((Keeps.al W' o).trans ((like_drewN _ n).keeps (Keeps.refl (fun _ => False) _)))⟩
            have hks : ∀ e ∈ putE el (dn : Int) y, 0 ≤ e.1 ∧ e.1 < (xs.length : Int) := fun e he => by
              have hm : e.1 ∈ (putE el (dn : Int) y).map Prod.fst := List.mem_map.2 ⟨e, he, rfl⟩
              rw [putE_keys] at hm
              split at hm
              · obtain ⟨e', he', e1⟩ := List.mem_map.1 hm
                rw [← e1]
                exact hke e' he'
              · rcases List.mem_append.1 hm with hm | hm
                · obtain ⟨e', he', e1⟩ := List.mem_map.1 hm
                  rw [← e1]
                  exact hke e' he'
                · simp at hm
                  rw [hm]
                  omega
            have hpl := putE_len el (dn : Int) y
            have hL5' : (L ++ [((dn : Int), y)]).length ≤ 500 := by simp; omega
            have hLk' : (L ++ [((dn : Int), y)]).length ≤ k + 1 := by simp; omega
            have htw : Hid (wr.heap.size ≠ g ∧ wr.heap.size ≠ h) := ⟨by omega, by omega⟩
            clear q q0 hbt hnt hlt
            by_cases hin0 : idxE el (dn : Int) < el.length
            · rw [if_pos hin0] at hpl
              have hbv : (hasE xs.length el)[dn]?.getD false = true := by rw [hasE_at _ el dn hdn']; simp [hin0]
              unfold turnV at HPt
              go_wp2_with fail
              refine HPt.out.mono ?_
              rintro e Wp ⟨rfl, rp⟩
              clear HPt p1 p2
              obtain ⟨bt, Odp, Mp⟩ := rp.out
              have tl := lt_of_block bt
              have e0 : Wp.cell? ⟨wr.heap.size, 0, none⟩ = some (.int .u64 (dn : Int)) := cell_of_block bt 0
              have e1 : Wp.cell? ⟨wr.heap.size, 1, none⟩ = some (.int .u64 y) := cell_of_block bt 1
              have HMp : Hid (∀ o n, Mi w ((Wp.alloc o).drewN n) g h a R rr dr (L ++ [((dn : Int), y)]) Or Odp (sdA rd (putE el (dn : Int) y)) xs el) := Mp
              have HBt : Hid (∀ o n, ((Wp.alloc o).drewN n).heap[wr.heap.size]? = some (.cells #[.int .u64 (dn : Int), .int .u64 y] 44 (0, 0))) := fun o n => ((Keeps.al Wp o).trans ((like_drewN _ n).keeps (Keeps.refl (fun _ => False) _))).old bt (fun f => f)
              obtain ⟨htg, hth⟩ := htw.out
              clear Mp rp bt htw
              generalize wr.heap.size = tc at *
              go_wp2_with (go_at_call 8; refine (hnum _ _).mono ?_; rintro e w' ⟨rfl, hw'⟩; replace hw' := hw'.symm; subst hw')
              go_quiet ((go_at_call 8; exact (hnum _ _).mono (fun _ _ ⟨h1, h2⟩ => ⟨h1, _, h2⟩)))
              have MY := HMp.out (.cells #[.int .i64 3, .int .u64 0, .int .i64 0, .int .i64 3, .int .u64 (dn : Int), .int .u64 y, .bool false, .int .i64 0] 39) nq
              have bY := HBt.out (.cells #[.int .i64 3, .int .u64 0, .int .i64 0, .int .i64 3, .int .u64 (dn : Int), .int .u64 y, .bool false, .int .i64 0] 39) nq
              clear HMp HBt e0 e1 tl
              generalize World.drewN (World.alloc Wp (Obj.cells #[.int .i64 3, .int .u64 0, .int .i64 0, .int .i64 3, .int .u64 (dn : Int), .int .u64 y, .bool false, .int .i64 0] 39)) nq = Y at *
              have y0 : Y.cell? ⟨tc, 0, none⟩ = some (.int .u64 (dn : Int)) := cell_of_block bY 0
              have y1 : Y.cell? ⟨tc, 1, none⟩ = some (.int .u64 y) := cell_of_block bY 1
              obtain ⟨cg, ch⟩ := MY.nw.cells hdn'
              rw [hbv] at ch
              have fg : Y.frozen? ⟨g, dn, none⟩ = false := by
                obtain ⟨⟨c, f1, _⟩, _⟩ := MY.nw
                exact frozen_of_block f1 dn
              have fh : Y.frozen? ⟨h, dn, none⟩ = false := by
                obtain ⟨_, ⟨c, f1, _⟩⟩ := MY.nw
                exact frozen_of_block f1 dn
              have hgh := MY.ne
              have hhg := Ne.symm hgh
              have hgt := Ne.symm htg
              have hht := Ne.symm hth
              have q := MY.done hnd hdn'
              have kpY := MY.kp
              have HGG : Hid (w.heap.size ≤ g ∧ w.heap.size ≤ h) := ⟨MY.gg, MY.gh⟩
              clear MY bY hbv
              generalize putE el (dn : Int) y = el1 at *
              generalize L ++ [((dn : Int), y)] = L1 at *
              obtain ⟨g1, o1, rfl, c1⟩ := (h1.below (kpY.below w.heap.size (Nat.le_refl _) (fun _ f => f.elim))).at hY
              have hg1 : g1 ≠ g ∧ g1 ≠ h := by
                obtain ⟨g1', o1', e1', c1''⟩ := h1.at hY
                injection e1' with e1'
                injection e1' with e1' _ _
                have := World.block_lt_of_cell? _ _ c1''
                have hx : g1' < w.heap.size := this
                have hgg := HGG.out
                omega
              obtain ⟨hg1a, hg1b⟩ := hg1
              have hg1c := Ne.symm hg1a
              have hg1d := Ne.symm hg1b
              have hd0' : 0 ≤ oat ys k := hy _ (oat_mem hY)
              clear kpY
              generalize oat ys k = d' at *
              by_cases hdm : d' < (xs.length : Int)
              · obtain ⟨dm, rfl⟩ : ∃ dm : Nat, d' = (dm : Int) := ⟨d'.toNat, by omega⟩
                have hdm' : dm < xs.length := by omega
                by_cases hin : idxE el1 (dm : Int) < el1.length
                · have HG := got_in q cN dm hdm' hl hin
                  clear q
                  go_wp2_with (go_at_call 8; refine (hnum _ _).mono ?_; rintro e w' ⟨rfl, hw'⟩; replace hw' := hw'.symm; subst hw')
                  refine HG.mono ?_
                  rintro e Wb ⟨rfl, qb⟩
                  clear HG
                  go_wp2_with fail
                  go_roundw
                  case rel => exact ⟨k + 1, el1.length, by go_num, by rw [hpl], rd, el1, L1, Or, Odp, qb, rfl, hLk', hL5', by omega, by omega, hks⟩
                  case measure => simp [intOf]; omega
                · have HG := got_new q cN dm hdm' hl hin (by omega)
                  clear q
                  go_wp2_with (go_at_call 8; refine (hnum _ _).mono ?_; rintro e w' ⟨rfl, hw'⟩; replace hw' := hw'.symm; subst hw')
                  refine HG.mono ?_
                  rintro e Wb ⟨rfl, rd', Or', hrd', qb⟩
                  clear HG
                  go_wp2_with fail
                  go_roundw
                  case rel => exact ⟨k + 1, el1.length, by go_num, by rw [hpl], rd', el1, L1, Or', Odp, qb, rfl, hLk', hL5', by omega, by omega, hks⟩
                  case measure => simp [intOf]; omega
              · have HG := got_out q cN d' (fun e he => (hks e he).2) (by omega) hl
                clear q
                go_wp2_with (go_at_call 8; refine (hnum _ _).mono ?_; rintro e w' ⟨rfl, hw'⟩; replace hw' := hw'.symm; subst hw')
                refine HG.mono ?_
                rintro e Wb ⟨rfl, qb⟩
                clear HG
                go_wp2_with fail
                go_roundw
                case rel => exact ⟨k + 1, el1.length, by go_num, by rw [hpl], rd, el1, L1, Or, Odp, qb, rfl, hLk', hL5', by omega, by omega, hks⟩
                case measure => simp [intOf]; omega
            · rw [if_neg hin0] at hpl
              have hbv : (hasE xs.length el)[dn]?.getD false = false := by rw [hasE_at _ el dn hdn']; simp [hin0]
              unfold turnV at HPt
              go_wp2_with fail
              refine HPt.out.mono ?_
              rintro e Wp ⟨rfl, rp⟩
              clear HPt p1 p2
              obtain ⟨bt, Odp, Mp⟩ := rp.out
              have tl := lt_of_block bt
              have e0 : Wp.cell? ⟨wr.heap.size, 0, none⟩ = some (.int .u64 (dn : Int)) := cell_of_block bt 0
              have e1 : Wp.cell? ⟨wr.heap.size, 1, none⟩ = some (.int .u64 y) := cell_of_block bt 1
              have HMp : Hid (∀ o n, Mi w ((Wp.alloc o).drewN n) g h a R rr dr (L ++ [((dn : Int), y)]) Or Odp (sdA rd (putE el (dn : Int) y)) xs el) := Mp
              have HBt : Hid (∀ o n, ((Wp.alloc o).drewN n).heap[wr.heap.size]? = some (.cells #[.int .u64 (dn : Int), .int .u64 y] 44 (0, 0))) := fun o n => ((Keeps.al Wp o).trans ((like_drewN _ n).keeps (Keeps.refl (fun _ => False) _))).old bt (fun f => f)
              obtain ⟨htg, hth⟩ := htw.out
              clear Mp rp bt htw
              generalize wr.heap.size = tc at *
              go_wp2_with (go_at_call 8; refine (hnum _ _).mono ?_; rintro e w' ⟨rfl, hw'⟩; replace hw' := hw'.symm; subst hw')
              go_quiet ((go_at_call 8; exact (hnum _ _).mono (fun _ _ ⟨h1, h2⟩ => ⟨h1, _, h2⟩)))
              have MY := HMp.out (.cells #[.int .i64 3, .int .u64 0, .int .i64 0, .int .i64 3, .int .u64 (dn : Int), .int .u64 y, .bool false, .int .i64 0] 39) nq
              have bY := HBt.out (.cells #[.int .i64 3, .int .u64 0, .int .i64 0, .int .i64 3, .int .u64 (dn : Int), .int .u64 y, .bool false, .int .i64 0] 39) nq
              clear HMp HBt e0 e1 tl
              generalize World.drewN (World.alloc Wp (Obj.cells #[.int .i64 3, .int .u64 0, .int .i64 0, .int .i64 3, .int .u64 (dn : Int), .int .u64 y, .bool false, .int .i64 0] 39)) nq = Y at *
              have y0 : Y.cell? ⟨tc, 0, none⟩ = some (.int .u64 (dn : Int)) := cell_of_block bY 0
              have y1 : Y.cell? ⟨tc, 1, none⟩ = some (.int .u64 y) := cell_of_block bY 1
              obtain ⟨cg, ch⟩ := MY.nw.cells hdn'
              rw [hbv] at ch
              have fg : Y.frozen? ⟨g, dn, none⟩ = false := by
                obtain ⟨⟨c, f1, _⟩, _⟩ := MY.nw
                exact frozen_of_block f1 dn
              have fh : Y.frozen? ⟨h, dn, none⟩ = false := by
                obtain ⟨_, ⟨c, f1, _⟩⟩ := MY.nw
                exact frozen_of_block f1 dn
              have hgh := MY.ne
              have hhg := Ne.symm hgh
              have hgt := Ne.symm htg
              have hht := Ne.symm hth
              have q := MY.done hnd hdn'
              have kpY := MY.kp
              have HGG : Hid (w.heap.size ≤ g ∧ w.heap.size ≤ h) := ⟨MY.gg, MY.gh⟩
              clear MY bY hbv
              generalize putE el (dn : Int) y = el1 at *
              generalize L ++ [((dn : Int), y)] = L1 at *
              obtain ⟨g1, o1, rfl, c1⟩ := (h1.below (kpY.below w.heap.size (Nat.le_refl _) (fun _ f => f.elim))).at hY
              have hg1 : g1 ≠ g ∧ g1 ≠ h := by
                obtain ⟨g1', o1', e1', c1''⟩ := h1.at hY
                injection e1' with e1'
                injection e1' with e1' _ _
                have := World.block_lt_of_cell? _ _ c1''
                have hx : g1' < w.heap.size := this
                have hgg := HGG.out
                omega
              obtain ⟨hg1a, hg1b⟩ := hg1
              have hg1c := Ne.symm hg1a
              have hg1d := Ne.symm hg1b
              have hd0' : 0 ≤ oat ys k := hy _ (oat_mem hY)
              clear kpY
              generalize oat ys k = d' at *
              by_cases hdm : d' < (xs.length : Int)
              · obtain ⟨dm, rfl⟩ : ∃ dm : Nat, d' = (dm : Int) := ⟨d'.toNat, by omega⟩
                have hdm' : dm < xs.length := by omega
                by_cases hin : idxE el1 (dm : Int) < el1.length
                · have HG := got_in q cN dm hdm' hl hin
                  clear q
                  go_wp2_with (go_at_call 8; refine (hnum _ _).mono ?_; rintro e w' ⟨rfl, hw'⟩; replace hw' := hw'.symm; subst hw')
                  refine HG.mono ?_
                  rintro e Wb ⟨rfl, qb⟩
                  clear HG
                  go_wp2_with fail
                  go_roundw
                  case rel => exact ⟨k + 1, el1.length, by go_num, by rw [hpl]; go_num, rd, el1, L1, Or, Odp, qb, rfl, hLk', hL5', by omega, by omega, hks⟩
                  case measure => simp [intOf]; omega
                · have HG := got_new q cN dm hdm' hl hin (by omega)
                  clear q
                  go_wp2_with (go_at_call 8; refine (hnum _ _).mono ?_; rintro e w' ⟨rfl, hw'⟩; replace hw' := hw'.symm; subst hw')
                  refine HG.mono ?_
                  rintro e Wb ⟨rfl, rd', Or', hrd', qb⟩
                  clear HG
                  go_wp2_with fail
                  go_roundw
                  case rel => exact ⟨k + 1, el1.length, by go_num, by rw [hpl]; go_num, rd', el1, L1, Or', Odp, qb, rfl, hLk', hL5', by omega, by omega, hks⟩
                  case measure => simp [intOf]; omega
              · have HG := got_out q cN d' (fun e he => (hks e he).2) (by omega) hl
                clear q
                go_wp2_with (go_at_call 8; refine (hnum _ _).mono ?_; rintro e w' ⟨rfl, hw'⟩; replace hw' := hw'.symm; subst hw')
                refine HG.mono ?_
                rintro e Wb ⟨rfl, qb⟩
                clear HG
                go_wp2_with fail
                go_roundw
                case rel => exact ⟨k + 1, el1.length, by go_num, by rw [hpl]; go_num, rd, el1, L1, Or, Odp, qb, rfl, hLk', hL5', by omega, by omega, hks⟩
                case measure => simp [intOf]; omega
          · have q0 := q.al (.cells #[.int .u64 d, .int .u64 y] 44)
            have HPt : Hid (Calls Tryd.prog 11 #[.pointer (some ⟨a, 0, none⟩), .int .u64 d, .int .u64 y] (wr.alloc (.cells #[.int .u64 d, .int .u64 y] 44)) fun e W' => e = .returned (.tuple #[turn0, .int .i64 4]) ∧ Hid (W'.heap[wr.heap.size]? = some (.cells #[.int .u64 d, .int .u64 y] 44 (0, 0)) ∧ ∀ o n, Al w ((W'.alloc o).drewN n) g h a R rr dr L Or Od (sdA rd el) xs)) :=
              (put_range a rr dr R L Or Od (sdA rd el) xs 0 d y _ q0.on q0.tz rfl (by omega)).mono fun e W' ⟨f1, f2, f3⟩ => ⟨f1, f3.old (alloc_block wr _) (fun f => f), fun o n => ((q0.same f2 rfl f3.up).al o).up ((like_drewN _ n).keeps (Keeps.refl (fun _ => False) _))⟩
            clear q q0
            unfold turn0 turnV at HPt
            go_wp2_with fail
            refine HPt.out.mono ?_
            rintro e Wp ⟨rfl, rp⟩
            clear HPt p1 p2
            obtain ⟨bt, Mp⟩ := rp.out
            have tl := lt_of_block bt
            have e0 : Wp.cell? ⟨wr.heap.size, 0, none⟩ = some (.int .u64 d) := cell_of_block bt 0
            have HMp : Hid (∀ o n, Al w ((Wp.alloc o).drewN n) g h a R rr dr L Or Od (sdA rd el) xs) := Mp
            clear Mp rp bt
            generalize wr.heap.size = tc at *
            go_wp2_with (go_at_call 8; refine (hnum _ _).mono ?_; rintro e w' ⟨rfl, hw'⟩; replace hw' := hw'.symm; subst hw')
            go_quiet ((go_at_call 8; exact (hnum _ _).mono (fun _ _ ⟨h1, h2⟩ => ⟨h1, _, h2⟩)))
            have q := HMp.out (.cells #[.int .i64 0, .int .u64 0, .int .i64 0, .int .i64 0, .int .u64 0, .int .u64 0, .bool false, .int .i64 0] 39) nq
            clear HMp e0 tl
            generalize World.drewN (World.alloc Wp (Obj.cells #[.int .i64 0, .int .u64 0, .int .i64 0, .int .i64 0, .int .u64 0, .int .u64 0, .bool false, .int .i64 0] 39)) nq = Y at *
            obtain ⟨g1, o1, rfl, c1⟩ := (h1.below (q.kp.below w.heap.size (Nat.le_refl _) (fun _ f => f.elim))).at hY
            have hd0' : 0 ≤ oat ys k := hy _ (oat_mem hY)
            generalize oat ys k = d' at *
            by_cases hdm : d' < (xs.length : Int)
            · obtain ⟨dm, rfl⟩ : ∃ dm : Nat, d' = (dm : Int) := ⟨d'.toNat, by omega⟩
              have hdm' : dm < xs.length := by omega
              by_cases hin : idxE el (dm : Int) < el.length
              · have HG := got_in q cN dm hdm' hl hin
                clear q
                go_wp2_with (go_at_call 8; refine (hnum _ _).mono ?_; rintro e w' ⟨rfl, hw'⟩; replace hw' := hw'.symm; subst hw')
                refine HG.mono ?_
                rintro e Wb ⟨rfl, qb⟩
                clear HG
                go_wp2_with fail
                go_roundw
                case rel => exact ⟨k + 1, el.length, by go_num, by go_num, rd, el, L, Or, Od, qb, rfl, hLk, hL5, by omega, by omega, hke⟩
                case measure => simp [intOf]; omega
              · have HG := got_new q cN dm hdm' hl hin (by omega)
                clear q
                go_wp2_with (go_at_call 8; refine (hnum _ _).mono ?_; rintro e w' ⟨rfl, hw'⟩; replace hw' := hw'.symm; subst hw')
                refine HG.mono ?_
                rintro e Wb ⟨rfl, rd', Or', hrd', qb⟩
                clear HG
                go_wp2_with fail
                go_roundw
                case rel => exact ⟨k + 1, el.length, by go_num, by go_num, rd', el, L, Or', Od, qb, rfl, hLk, hL5, by omega, by omega, hke⟩
                case measure => simp [intOf]; omega
            · have HG := got_out q cN d' (fun e he => (hke e he).2) (by omega) hl
              clear q
              go_wp2_with (go_at_call 8; refine (hnum _ _).mono ?_; rintro e w' ⟨rfl, hw'⟩; replace hw' := hw'.symm; subst hw')
              refine HG.mono ?_
              rintro e Wb ⟨rfl, qb⟩
              clear HG
              go_wp2_with fail
              go_roundw
              case rel => exact ⟨k + 1, el.length, by go_num, by go_num, rd, el, L, Or, Od, qb, rfl, hLk, hL5, by omega, by omega, hke⟩
              case measure => simp [intOf]; omega
        · have hk1 : ¬ ((k : Int) < (ys.length : Int)) := by omega
          obtain ⟨g2, o2, d, y, rfl, hzk, HP2⟩ := h2.fixed hA.1
          obtain ⟨p1, p2⟩ := HP2.out wr q.kp
          have hd0 : 0 ≤ d := hzs (d, y) (List.mem_of_getElem? hzk)
          clear HP2
          by_cases hdn : d < (xs.length : Int)
          · obtain ⟨dn, rfl⟩ : ∃ dn : Nat, d = (dn : Int) := ⟨d.toNat, by omega⟩
            have hdn' : dn < xs.length := by omega
            have q0 := q.al (.cells #[.int .u64 (dn : Int), .int .u64 y] 44)
            have hbt : (wr.alloc (.cells #[.int .u64 (dn : Int), .int .u64 y] 44)).heap[wr.heap.size]? = some (.cells #[.int .u64 (dn : Int), .int .u64 y] 44 (0, 0)) := alloc_block wr _
            have hnt : ¬ Both a Or Od R wr.heap.size := q.on.far (Nat.le_refl _)
            have hnd : (el.map Prod.fst).Nodup := by
              have := redoE_nodup L
              rw [q.on.at_.eq] at this
              exact this
            have hlt := q.nw.lt
            have HPt : Hid (Calls Tryd.prog 11 #[.pointer (some ⟨a, 0, none⟩), .int .u64 (dn : Int), .int .u64 y] (wr.alloc (.cells #[.int .u64 (dn : Int), .int .u64 y] 44)) fun e W' => e = .returned (.tuple #[turnV 3 0 3 (dn : Int) y false, .int .i64 0]) ∧ Hid (W'.heap[wr.heap.size]? = some (.cells #[.int .u64 (dn : Int), .int .u64 y] 44 (0, 0)) ∧ ∃ Od', ∀ o n, Mi w ((W'.alloc o).drewN n) g h a R rr dr (L ++ [((dn : Int), y)]) Or Od' (sdA rd (putE el (dn : Int) y)) xs el)) :=
              (q0.put dn y hdn' (by omega)).mono fun e W' ⟨f1, f2, Od', f3⟩ => ⟨f1, f2 _ _ hbt hnt, Od', fun o n => f3.up ((Keeps.al W' o).trans ((like_drewN _ n).keeps (Keeps.refl (fun _ => False) _)))⟩
            have hks : ∀ e ∈ putE el (dn : Int) y, 0 ≤ e.1 ∧ e.1 < (xs.length : Int) := fun e he => by
              have hm : e.1 ∈ (putE el (dn : Int) y).map Prod.fst := List.mem_map.2 ⟨e, he, rfl⟩
              rw [putE_keys] at hm
              split at hm
              · obtain ⟨e', he', e1⟩ := List.mem_map.1 hm
                rw [← e1]
                exact hke e' he'
              · rcases List.mem_append.1 hm with hm | hm
                · obtain ⟨e', he', e1⟩ := List.mem_map.1 hm
                  rw [← e1]
                  exact hke e' he'
                · simp at hm
                  rw [hm]
                  omega
            have hpl := putE_len el (dn : Int) y
            have hL5' : (L ++ [((dn : Int), y)]).length ≤ 500 := by simp; omega
            have hLk' : (L ++ [((dn : Int), y)]).length ≤ k + 1 := by simp; omega
            have htw : Hid (wr.heap.size ≠ g ∧ wr.heap.size ≠ h) := ⟨by omega, by omega⟩
            clear q q0 hbt hnt hlt
            by_cases hin0 : idxE el (dn : Int) < el.length
            · rw [if_pos hin0] at hpl
              have hbv : (hasE xs.length el)[dn]?.getD false = true := by rw [hasE_at _ el dn hdn']; simp [hin0]
              unfold turnV at HPt
              go_wp2_with fail
              refine HPt.out.mono ?_
              rintro e Wp ⟨rfl, rp⟩
              clear HPt p1 p2
              obtain ⟨bt, Odp, Mp⟩ := rp.out
              have tl := lt_of_block bt
              have e0 : Wp.cell? ⟨wr.heap.size, 0, none⟩ = some (.int .u64 (dn : Int)) := cell_of_block bt 0
              have e1 : Wp.cell? ⟨wr.heap.size, 1, none⟩ = some (.int .u64 y) := cell_of_block bt 1
              have HMp : Hid (∀ o n, Mi w ((Wp.alloc o).drewN n) g h a R rr dr (L ++ [((dn : Int), y)]) Or Odp (sdA rd (putE el (dn : Int) y)) xs el) := Mp
              have HBt : Hid (∀ o n, ((Wp.alloc o).drewN n).heap[wr.heap.size]? = some (.cells #[.int .u64 (dn : Int), .int .u64 y] 44 (0, 0))) := fun o n => ((Keeps.al Wp o).trans ((like_drewN _ n).keeps (Keeps.refl (fun _ => False) _))).old bt (fun f => f)
              obtain ⟨htg, hth⟩ := htw.out
              clear Mp rp bt htw
              generalize wr.heap.size = tc at *
              go_wp2_with (go_at_call 8; refine (hnum _ _).mono ?_; rintro e w' ⟨rfl, hw'⟩; replace hw' := hw'.symm; subst hw')
              go_quiet ((go_at_call 8; exact (hnum _ _).mono (fun _ _ ⟨h1, h2⟩ => ⟨h1, _, h2⟩)))
              have MY := HMp.out (.cells #[.int .i64 3, .int .u64 0, .int .i64 0, .int .i64 3, .int .u64 (dn : Int), .int .u64 y, .bool false, .int .i64 0] 39) nq
              have bY := HBt.out (.cells #[.int .i64 3, .int .u64 0, .int .i64 0, .int .i64 3, .int .u64 (dn : Int), .int .u64 y, .bool false, .int .i64 0] 39) nq
              clear HMp HBt e0 e1 tl
              generalize World.drewN (World.alloc Wp (Obj.cells #[.int .i64 3, .int .u64 0, .int .i64 0, .int .i64 3, .int .u64 (dn : Int), .int .u64 y, .bool false, .int .i64 0] 39)) nq = Y at *
              have y0 : Y.cell? ⟨tc, 0, none⟩ = some (.int .u64 (dn : Int)) := cell_of_block bY 0
              have y1 : Y.cell? ⟨tc, 1, none⟩ = some (.int .u64 y) := cell_of_block bY 1
              obtain ⟨cg, ch⟩ := MY.nw.cells hdn'
              rw [hbv] at ch
              have fg : Y.frozen? ⟨g, dn, none⟩ = false := by
                obtain ⟨⟨c, f1, _⟩, _⟩ := MY.nw
                exact frozen_of_block f1 dn
              have fh : Y.frozen? ⟨h, dn, none⟩ = false := by
                obtain ⟨_, ⟨c, f1, _⟩⟩ := MY.nw
                exact frozen_of_block f1 dn
              have hgh := MY.ne
              have hhg := Ne.symm hgh
              have hgt := Ne.symm htg
              have hht := Ne.symm hth
              have q := MY.done hnd hdn'
              have kpY := MY.kp
              have HGG : Hid (w.heap.size ≤ g ∧ w.heap.size ≤ h) := ⟨MY.gg, MY.gh⟩
              clear MY bY hbv
              generalize putE el (dn : Int) y = el1 at *
              generalize L ++ [((dn : Int), y)] = L1 at *
              clear kpY
              have qH : Hid (Al w ((Y.setCell ⟨g, dn, none⟩ (.int .u64 y)).setCell ⟨h, dn, none⟩ (.bool true)) g h a R rr dr L1 Or Odp (sdA rd el1) xs) := q
              clear q
              go_wp2_with (go_at_call 8; refine (hnum _ _).mono ?_; rintro e w' ⟨rfl, hw'⟩; replace hw' := hw'.symm; subst hw')
              go_roundw
              case rel => exact ⟨k + 1, el1.length, by go_num, by rw [hpl], rd, el1, L1, Or, Odp, qH.out, rfl, hLk', hL5', by omega, by omega, hks⟩
              case measure => simp [intOf]; omega
            · rw [if_neg hin0] at hpl
              have hbv : (hasE xs.length el)[dn]?.getD false = false := by rw [hasE_at _ el dn hdn']; simp [hin0]
              unfold turnV at HPt
              go_wp2_with fail
              refine HPt.out.mono ?_
              rintro e Wp ⟨rfl, rp⟩
              clear HPt p1 p2
              obtain ⟨bt, Odp, Mp⟩ := rp.out
              have tl := lt_of_block bt
              have e0 : Wp.cell? ⟨wr.heap.size, 0, none⟩ = some (.int .u64 (dn : Int)) := cell_of_block bt 0
              have e1 : Wp.cell? ⟨wr.heap.size, 1, none⟩ = some (.int .u64 y) := cell_of_block bt 1
              have HMp : Hid (∀ o n, Mi w ((Wp.alloc o).drewN n) g h a R rr dr (L ++ [((dn : Int), y)]) Or Odp (sdA rd (putE el (dn : Int) y)) xs el) := Mp
              have HBt : Hid (∀ o n, ((Wp.alloc o).drewN n).heap[wr.heap.size]? = some (.cells #[.int .u64 (dn : Int), .int .u64 y] 44 (0, 0))) := fun o n => ((Keeps.al Wp o).trans ((like_drewN _ n).keeps (Keeps.refl (fun _ => False) _))).old bt (fun f => f)
              obtain ⟨htg, hth⟩ := htw.out
              clear Mp rp bt htw
              generalize wr.heap.size = tc at *
              go_wp2_with (go_at_call 8; refine (hnum _ _).mono ?_; rintro e w' ⟨rfl, hw'⟩; replace hw' := hw'.symm; subst hw')
              go_quiet ((go_at_call 8; exact (hnum _ _).mono (fun _ _ ⟨h1, h2⟩ => ⟨h1, _, h2⟩)))
              have MY := HMp.out (.cells #[.int .i64 3, .int .u64 0, .int .i64 0, .int .i64 3, .int .u64 (dn : Int), .int .u64 y, .bool false, .int .i64 0] 39) nq
              have bY := HBt.out (.cells #[.int .i64 3, .int .u64 0, .int .i64 0, .int .i64 3, .int .u64 (dn : Int), .int .u64 y, .bool false, .int .i64 0] 39) nq
              clear HMp HBt e0 e1 tl
              generalize World.drewN (World.alloc Wp (Obj.cells #[.int .i64 3, .int .u64 0, .int .i64 0, .int .i64 3, .int .u64 (dn : Int), .int .u64 y, .bool false, .int .i64 0] 39)) nq = Y at *
              have y0 : Y.cell? ⟨tc, 0, none⟩ = some (.int .u64 (dn : Int)) := cell_of_block bY 0
              have y1 : Y.cell? ⟨tc, 1, none⟩ = some (.int .u64 y) := cell_of_block bY 1
              obtain ⟨cg, ch⟩ := MY.nw.cells hdn'
              rw [hbv] at ch
              have fg : Y.frozen? ⟨g, dn, none⟩ = false := by
                obtain ⟨⟨c, f1, _⟩, _⟩ := MY.nw
                exact frozen_of_block f1 dn
              have fh : Y.frozen? ⟨h, dn, none⟩ = false := by
                obtain ⟨_, ⟨c, f1, _⟩⟩ := MY.nw
                exact frozen_of_block f1 dn
              have hgh := MY.ne
              have hhg := Ne.symm hgh
              have hgt := Ne.symm htg
              have hht := Ne.symm hth
              have q := MY.done hnd hdn'
              have kpY := MY.kp
              have HGG : Hid (w.heap.size ≤ g ∧ w.heap.size ≤ h) := ⟨MY.gg, MY.gh⟩
              clear MY bY hbv
              generalize putE el (dn : Int) y = el1 at *
              generalize L ++ [((dn : Int), y)] = L1 at *
              clear kpY
              have qH : Hid (Al w ((Y.setCell ⟨g, dn, none⟩ (.int .u64 y)).setCell ⟨h, dn, none⟩ (.bool true)) g h a R rr dr L1 Or Odp (sdA rd el1) xs) := q
              clear q
              go_wp2_with (go_at_call 8; refine (hnum _ _).mono ?_; rintro e w' ⟨rfl, hw'⟩; replace hw' := hw'.symm; subst hw')
              go_roundw
              case rel => exact ⟨k + 1, el1.length, by go_num, by rw [hpl]; go_num, rd, el1, L1, Or, Odp, qH.out, rfl, hLk', hL5', by omega, by omega, hks⟩
              case measure => simp [intOf]; omega
          · have q0 := q.al (.cells #[.int .u64 d, .int .u64 y] 44)
            have HPt : Hid (Calls Tryd.prog 11 #[.pointer (some ⟨a, 0, none⟩), .int .u64 d, .int .u64 y] (wr.alloc (.cells #[.int .u64 d, .int .u64 y] 44)) fun e W' => e = .returned (.tuple #[turn0, .int .i64 4]) ∧ Hid (W'.heap[wr.heap.size]? = some (.cells #[.int .u64 d, .int .u64 y] 44 (0, 0)) ∧ ∀ o n, Al w ((W'.alloc o).drewN n) g h a R rr dr L Or Od (sdA rd el) xs)) :=
              (put_range a rr dr R L Or Od (sdA rd el) xs 0 d y _ q0.on q0.tz rfl (by omega)).mono fun e W' ⟨f1, f2, f3⟩ => ⟨f1, f3.old (alloc_block wr _) (fun f => f), fun o n => ((q0.same f2 rfl f3.up).al o).up ((like_drewN _ n).keeps (Keeps.refl (fun _ => False) _))⟩
            clear q q0
            unfold turn0 turnV at HPt
            go_wp2_with fail
            refine HPt.out.mono ?_
            rintro e Wp ⟨rfl, rp⟩
            clear HPt p1 p2
            obtain ⟨bt, Mp⟩ := rp.out
            have tl := lt_of_block bt
            have e0 : Wp.cell? ⟨wr.heap.size, 0, none⟩ = some (.int .u64 d) := cell_of_block bt 0
            have HMp : Hid (∀ o n, Al w ((Wp.alloc o).drewN n) g h a R rr dr L Or Od (sdA rd el) xs) := Mp
            clear Mp rp bt
            generalize wr.heap.size = tc at *
            go_wp2_with (go_at_call 8; refine (hnum _ _).mono ?_; rintro e w' ⟨rfl, hw'⟩; replace hw' := hw'.symm; subst hw')
            go_quiet ((go_at_call 8; exact (hnum _ _).mono (fun _ _ ⟨h1, h2⟩ => ⟨h1, _, h2⟩)))
            have q := HMp.out (.cells #[.int .i64 0, .int .u64 0, .int .i64 0, .int .i64 0, .int .u64 0, .int .u64 0, .bool false, .int .i64 0] 39) nq
            clear HMp e0 tl
            generalize World.drewN (World.alloc Wp (Obj.cells #[.int .i64 0, .int .u64 0, .int .i64 0, .int .i64 0, .int .u64 0, .int .u64 0, .bool false, .int .i64 0] 39)) nq = Y at *
            have qH : Hid (Al w Y g h a R rr dr L Or Od (sdA rd el) xs) := q
            clear q
            go_wp2_with (go_at_call 8; refine (hnum _ _).mono ?_; rintro e w' ⟨rfl, hw'⟩; replace hw' := hw'.symm; subst hw')
            go_roundw
            case rel => exact ⟨k + 1, el.length, by go_num, by go_num, rd, el, L, Or, Od, qH.out, rfl, hLk, hL5, by omega, by omega, hke⟩
            case measure => simp [intOf]; omega
      · have hkk : k < M := by omega
        by_cases hA1 : k < zs.length
        · have hz1 : (k : Int) < (zs.length : Int) := by omega
          have hz5 : ¬ ((k : Int) < 500) := by omega
          by_cases hY : k < ys.length
          · have hk1 : (k : Int) < (ys.length : Int) := by omega
            have hk5 : ¬ ((k : Int) < 500) := by omega
            have qH : Hid (Al w wr g h a R rr dr L Or Od (sdA rd el) xs) := q
            clear q
            go_wp2_with fail
            go_roundw
            case rel => exact ⟨k + 1, el.length, by go_num, by go_num, rd, el, L, Or, Od, qH.out, rfl, hLk, hL5, by omega, by omega, hke⟩
            case measure => simp [intOf]; omega
          · have hk1 : ¬ ((k : Int) < (ys.length : Int)) := by omega
            have qH : Hid (Al w wr g h a R rr dr L Or Od (sdA rd el) xs) := q
            clear q
            go_wp2_with fail
            go_roundw
            case rel => exact ⟨k + 1, el.length, by go_num, by go_num, rd, el, L, Or, Od, qH.out, rfl, hLk, hL5, by omega, by omega, hke⟩
            case measure => simp [intOf]; omega
        · have hz1 : ¬ ((k : Int) < (zs.length : Int)) := by omega
          have hY : k < ys.length := by omega
          by_cases hY5 : k < 500
          · have hk1 : (k : Int) < (ys.length : Int) := by omega
            have hk5 : (k : Int) < 500 := by omega
            obtain ⟨g1, o1, rfl, c1⟩ := (h1.below (q.kp.below w.heap.size (Nat.le_refl _) (fun _ f => f.elim))).at hY
            have hd0' : 0 ≤ oat ys k := hy _ (oat_mem hY)
            generalize oat ys k = d' at *
            by_cases hdm : d' < (xs.length : Int)
            · obtain ⟨dm, rfl⟩ : ∃ dm : Nat, d' = (dm : Int) := ⟨d'.toNat, by omega⟩
              have hdm' : dm < xs.length := by omega
              by_cases hin : idxE el (dm : Int) < el.length
              · have HG := got_in q cN dm hdm' hl hin
                clear q
                go_wp2_with fail
                refine HG.mono ?_
                rintro e Wb ⟨rfl, qb⟩
                clear HG
                go_wp2_with fail
                go_roundw
                case rel => exact ⟨k + 1, el.length, by go_num, by go_num, rd, el, L, Or, Od, qb, rfl, hLk, hL5, by omega, by omega, hke⟩
                case measure => simp [intOf]; omega
              · have HG := got_new q cN dm hdm' hl hin (by omega)
                clear q
                go_wp2_with fail
                refine HG.mono ?_
                rintro e Wb ⟨rfl, rd', Or', hrd', qb⟩
                clear HG
                go_wp2_with fail
                go_roundw
                case rel => exact ⟨k + 1, el.length, by go_num, by go_num, rd', el, L, Or', Od, qb, rfl, hLk, hL5, by omega, by omega, hke⟩
                case measure => simp [intOf]; omega
            · have HG := got_out q cN d' (fun e he => (hke e he).2) (by omega) hl
              clear q
              go_wp2_with fail
              refine HG.mono ?_
              rintro e Wb ⟨rfl, qb⟩
              clear HG
              go_wp2_with fail
              go_roundw
              case rel => exact ⟨k + 1, el.length, by go_num, by go_num, rd, el, L, Or, Od, qb, rfl, hLk, hL5, by omega, by omega, hke⟩
              case measure => simp [intOf]; omega
          · have hk1 : (k : Int) < (ys.length : Int) := by omega
            have hk5 : ¬ ((k : Int) < 500) := by omega
            have qH : Hid (Al w wr g h a R rr dr L Or Od (sdA rd el) xs) := q
            clear q
            go_wp2_with fail
            go_roundw
            case rel => exact ⟨k + 1, el.length, by go_num, by go_num, rd, el, L, Or, Od, qH.out, rfl, hLk, hL5, by omega, by omega, hke⟩
            case measure => simp [intOf]; omega
    · have hk1 : ¬ ((k : Int) < (ys.length : Int)) := by omega
      have hz1 : ¬ ((k : Int) < (zs.length : Int)) := by omega
      have hnd : (el.map Prod.fst).Nodup := by
        have := redoE_nodup L
        rw [q.on.at_.eq] at this
        exact this
      have HC : Calls Tryd.prog 13 #[.pointer (some ⟨a, 0, none⟩), .int .i64 (el.length : Int), .pointer (some ⟨w.heap.size + 1, 0, none⟩), .pointer (some ⟨ck, 0, none⟩), .slice (some ⟨g, 0, none⟩) xs.length cN] wr fun e W' => e = .returned (.bool true) ∧ Keeps (fun _ => False) w W' := by
        rw [HR.out.1, HR.out.2]
        by_cases he : el = []
        · exact committed_none q cN hl he
        · exact committed_some q cN hl he hke hem hnd
      clear q
      go_wp2_with fail
      refine HC.mono ?_
      rintro e Wc ⟨rfl, kc⟩
      have HK := HKN.out Wc kc
      clear HC kc HKN
      go_wp2_with fail
      refine HK.mono ?_
      rintro e Wd ⟨rfl, kd⟩
      clear HK
      go_wp2_with fail
      go_ret
      exact ⟨rfl, kd⟩
end Go.Proofs.YtmhinalgjfiliaaDoor
