/-
  The walk of the law CellsPlays. No statement of the seat is proved here.
-/
import Derived.Test.YtmffkcbdgpaieaaPlayR
namespace Go.Proofs.Ytmffkcbdgpaieaa
open Go.RowKit

set_option maxRecDepth 100000 in
set_option maxHeartbeats 1000000 in
theorem plays_main (n : Int) (sp sq : Option Addr) (l c m d : Nat) (ws : List Int) (w : World) (hn : ws.length = l) (hr : Reads w sp ws) (h0 : sp = none → c = 0) (hb : l * 8 ≤ 140737488351232) (hwf : Wf ws) (ss : List StepD) (hm : ss.length = m) (hS : Steps w sq ss) (hbm : m * 88 ≤ 140737488351232) :
    Calls Try.prog 3 #[.int .i64 n, .slice sp l c, .slice sq m d] w fun e w' => e = .returned (.bool true) ∧ Below w.heap.size w w' := by
  obtain ⟨ok1, hok1⟩ : ∃ ok, decide (1 ≤ n ∧ n ≤ 65536) = ok := ⟨_, rfl⟩
  obtain ⟨ok2, hok2⟩ : ∃ ok, decide (1 ≤ l ∧ l ≤ 65536) = ok := ⟨_, rfl⟩
  have HN : Hid (ws.length = l) := hn
  have H0 : Hid (sp = none → c = 0) := h0
  have HB : Hid (l * 8 ≤ 140737488351232) := hb
  obtain ⟨er1, her1⟩ : ∃ er : Int, (if ok1 then 0 else 2) = er := ⟨_, rfl⟩
  obtain ⟨er2, her2⟩ : ∃ er : Int, (if ok2 then 0 else 2) = er := ⟨_, rfl⟩
  have E1 : Hid _ := her1
  have E2 : Hid _ := her2
  have O1 : Hid _ := hok1
  have O2 : Hid _ := hok2
  have HM : Hid (ss.length = m) := hm
  have hq1 : (m : Int) ≤ 1599289640356 := by omega
  clear hn h0 hb hok1 hok2 her1 her2 hm hbm
  go_enter Try.func3, Try.ntmps3
  go_wp2_with fail
  refine (lent_any sp l c ws _ HN.out hr H0.out HB.out).mono ?_
  rintro e w1 ⟨g, gcap, rfl, hg, hL1, k1⟩
  have hr1 := hr.kept k1
  go_wp2_with fail
  refine (new_opt n _ ok1 O1.out er1 E1.out).mono ?_
  rintro e w2 ⟨p0, rfl, k2, hp0⟩
  have hL2 := hL1.kept k2 (fun f => f)
  have hr2 := hr1.kept k2
  go_wp2_with fail
  refine (of_opt _ l _ ws _ HN.out hL2.reads ok2 O2.out er2 E2.out).mono ?_
  rintro e w3 ⟨p1, rfl, k3, hp1⟩
  go_wp2_with fail
  refine (rnew_opt n _ ok1 O1.out er1 E1.out).mono ?_
  rintro e w4 ⟨q0, rfl, k4, hq0⟩
  have hr4 := (hr2.kept k3).kept k4
  go_wp2_with fail
  refine (rof_opt _ l _ ws _ HN.out hr4 ok2 O2.out er2 E2.out).mono ?_
  rintro e w5 ⟨q1, rfl, k5, hqq⟩
  have hL5 := ((hL2.kept k3 (fun f => f)).kept k4 (fun f => f)).kept k5 (fun f => f)
  have hr5 := hr4.kept k5
  obtain ⟨i0, j0, B0⟩ := both_made hp0 hq0 (Wf.zeros _) ((k3.trans k4).trans k5) k5 k3.size
  obtain ⟨i1, j1, B1⟩ := both_made hp1 hqq hwf (k4.trans k5) (Keeps.refl _ _) k4.size
  have z1 := k1.size
  have z2 := k2.size
  have z3 := k3.size
  have z4 := k4.size
  have z5 := k5.size
  have lg := hL1.lt
  have kk5 := (((k1.trans k2).trans k3).trans k4).trans k5
  clear hp0 hp1 hq0 hqq hL1 hL2 hr1 hr2 hr4 k1 k2 k3 k4 k5
  go_wp2_with (go_at_call 13; refine (num_any _ _).mono ?_; rintro e w' ⟨rfl, hw'⟩; subst hw')
  refine (left_any g gcap sp l c ws _ HN.out HB.out hL5 hr5).mono ?_
  rintro e w6 ⟨rfl, hd⟩
  have k6 : Keeps (fun _ => False) w' w6 := Keeps.ofDrew hd
  have hL6 := hL5.kept k6 (fun f => f)
  replace B0 := B0.kept k6 (fun _ _ f => f)
  replace B1 := B1.kept k6 (fun _ _ f => f)
  have z6 := k6.size
  replace kk5 := kk5.trans k6
  clear hd hL5 k6 hr5
  have hl : (l : Int) ≤ 17592186043904 := by have := HB.out; omega
  have hW0 : Wrote w6 (some ⟨g, 0, none⟩) l g 0 := fun h0 => by
    obtain ⟨cur, h1, h2, h3⟩ := hL6.writes HN.out h0
    exact ⟨cur, h1, h2, h3, fun i hi => by omega⟩
  clear hL6
  go_wp2_with fail
  go_loopw [16] (fun i wr => ∃ k : Nat, k ≤ l ∧ i = .int .i64 k ∧ Wrote wr (some ⟨g, 0, none⟩) l g k ∧ Keeps (fun x => x = g) w6 wr) (fun i _ => l - (intOf i).toNat)
  case atStart => exact ⟨0, Nat.zero_le _, rfl, hW0, Keeps.refl _ _⟩
  case round =>
    obtain ⟨k, hk, rfl, hW, kk⟩ := hrel
    by_cases hlt : k < l
    · have hW1 := hW.step hlt
      obtain ⟨cur, _, h2, h3, h4⟩ := hW (by omega)
      have hc : wr.cell? ⟨g, k, none⟩ = some (cur[k]'(by omega)) := by rw [cell_of_block h2, Array.getElem?_eq_getElem (by omega)]
      have hf := frozen_of_block h2 k
      generalize cur[k]'(by omega) = y at hc
      have kk1 := kk.setCell (p := ⟨g, k, none⟩) (.inr rfl) (.int .u64 99)
      clear h2 h3 h4 hW
      go_wp2
      go_roundw
      case rel => exact ⟨k + 1, by omega, by go_num, hW1, kk1⟩
      case measure => simp [intOf]; omega
    · obtain rfl : k = l := by omega
      obtain ⟨W7, hW7⟩ : ∃ W1, W1 = wr := ⟨_, rfl⟩
      subst hW7
      replace B0 := B0.kept kk (fun x hx e => by omega)
      replace B1 := B1.kept kk (fun x hx e => by omega)
      have z7 := kk.size
      have k7 : Keeps (fun _ => False) w W7 := ((kk5.mono (T := fun x => x = g) (fun _ _ f => f.elim)).trans kk).mono (fun x hx e => by omega)
      clear kk kk5 hW hW0
      have e0 := alloc_old (alloc_block W7 (.cells #[.pointer p0, .pointer p1, .pointer none] 37)) (.cells #[.pointer q0, .pointer q1, .pointer none] 38)
      have e1 := alloc_block (W7.alloc (.cells #[.pointer p0, .pointer p1, .pointer none] 37)) (.cells #[.pointer q0, .pointer q1, .pointer none] 38)
      rw [World.size_alloc] at e1
      have k8 := (k7.alloc (.cells #[.pointer p0, .pointer p1, .pointer none] 37)).alloc (.cells #[.pointer q0, .pointer q1, .pointer none] 38)
      have k78 := ((Keeps.refl (fun _ => False) W7).alloc (.cells #[.pointer p0, .pointer p1, .pointer none] 37)).alloc (.cells #[.pointer q0, .pointer q1, .pointer none] 38)
      have z8 : ((W7.alloc (.cells #[.pointer p0, .pointer p1, .pointer none] 37)).alloc (.cells #[.pointer q0, .pointer q1, .pointer none] 38)).heap.size = W7.heap.size + 2 := by simp
      replace B0 := B0.kept k78 (fun _ _ f => f)
      replace B1 := B1.kept k78 (fun _ _ f => f)
      have hT : Three w.heap.size W7.heap.size (W7.heap.size + 1) ((W7.alloc (.cells #[.pointer p0, .pointer p1, .pointer none] 37)).alloc (.cells #[.pointer q0, .pointer q1, .pointer none] 38)) (fun i => if i = 0 then p0 else if i = 1 then p1 else none) (fun i => if i = 0 then q0 else if i = 1 then q1 else none)
          (fun i k => (i = 0 ∧ ((w1.heap.size ≤ k ∧ k < w2.heap.size) ∨ (w3.heap.size ≤ k ∧ k < w4.heap.size))) ∨ (i = 1 ∧ ((w2.heap.size ≤ k ∧ k < w3.heap.size) ∨ (w4.heap.size ≤ k ∧ k < w'.heap.size)))) :=
        ⟨e0, e1, fun i hi => by
          match i, hi with
          | 0, _ => exact B0.mono (fun x hx => .inl ⟨rfl, hx⟩)
          | 1, _ => exact B1.mono (fun x hx => .inr ⟨rfl, hx⟩)
          | 2, _ => exact .inl ⟨rfl, rfl⟩, fun i j hi hj hij x hx hy => by omega, fun i hi x hx => by omega, by omega, by omega, by omega⟩
      have hB8 : Below w.heap.size w ((W7.alloc (.cells #[.pointer p0, .pointer p1, .pointer none] 37)).alloc (.cells #[.pointer q0, .pointer q1, .pointer none] 38)) := k8.below _ (Nat.le_refl _) (fun _ f => f.elim)
      clear e0 e1 k78 B0 B1 k7 k8 i0 i1 j0 j1
      go_wp2_with fail
      generalize (W7.alloc (.cells #[.pointer p0, .pointer p1, .pointer none] 37)).alloc (.cells #[.pointer q0, .pointer q1, .pointer none] 38) = W8 at hT hB8 z8 ⊢
      go_loopw [19] (fun i wr => ∃ (k : Nat) (P Q : Nat → Option Addr) (F : Nat → Nat → Prop), k ≤ m ∧ i = .int .i64 k ∧ Three w.heap.size W7.heap.size (W7.heap.size + 1) wr P Q F ∧ Below w.heap.size w wr) (fun i _ => m - (intOf i).toNat)
      case atStart => exact ⟨0, _, _, _, Nat.zero_le _, rfl, hT, hB8⟩
      case round =>
        obtain ⟨k1, P, Q, F, hk1, rfl, T, hB⟩ := hrel
        clear hT hB8 z8
        by_cases hlt1 : k1 < m
        · have hk2 : k1 < ss.length := by rw [HM.out]; exact hlt1
          obtain ⟨sb, so, rfl, y0, y1, y2, y3, y4, y5, y6, y7, y8⟩ := hS.cells k1 ss[k1] (List.getElem?_eq_getElem hk2)
          have hgd := hS.good ss[k1] (List.getElem_mem hk2)
          have lsb : sb < w.heap.size := World.block_lt_of_cell? _ _ y0
          replace y0 := (hB.cell (p := ⟨sb, _, none⟩) lsb).trans y0
          replace y1 := (hB.cell (p := ⟨sb, _, none⟩) lsb).trans y1
          replace y2 := (hB.cell (p := ⟨sb, _, none⟩) lsb).trans y2
          replace y3 := (hB.cell (p := ⟨sb, _, none⟩) lsb).trans y3
          replace y4 := (hB.cell (p := ⟨sb, _, none⟩) lsb).trans y4
          replace y5 := (hB.cell (p := ⟨sb, _, none⟩) lsb).trans y5
          replace y6 := (hB.cell (p := ⟨sb, _, none⟩) lsb).trans y6
          replace y7 := (hB.cell (p := ⟨sb, _, none⟩) lsb).trans y7
          replace y8 := (hB.cell (p := ⟨sb, _, none⟩) lsb).trans y8
          generalize ss[k1] = s at hgd y0 y1 y2 y3 y4 y5 y6 y7 y8
          obtain ⟨kd, who, to, lv, ad, wd, od, bh, sp1, l1, sc1, vs1⟩ := s
          dsimp only at y0 y1 y2 y3 y4 y5 y6 y7 y8
          obtain ⟨ad0, ad1, wd0, wd1, vlen, vreads, vnil, vbytes, vwf⟩ := hgd
          dsimp only at ad0 ad1 wd0 wd1 vlen vreads vnil vbytes vwf
          have hbx := alloc_block wr (.cells #[.int .i64 kd, .int .i64 who, .int .i64 to, .int .i64 lv, .int .u64 ad, .int .u64 wd, .int .u64 od, .int .u64 bh, .slice sp1 l1 sc1] 40)
          have kA : Keeps (fun _ => False) wr (wr.alloc (.cells #[.int .i64 kd, .int .i64 who, .int .i64 to, .int .i64 lv, .int .u64 ad, .int .u64 wd, .int .u64 od, .int .u64 bh, .slice sp1 l1 sc1] 40)) := (Keeps.refl _ wr).alloc _
          have zA : wr.heap.size < (wr.alloc (.cells #[.int .i64 kd, .int .i64 who, .int .i64 to, .int .i64 lv, .int .u64 ad, .int .u64 wd, .int .u64 od, .int .u64 bh, .slice sp1 l1 sc1] 40)).heap.size := by simp
          go_wp2_with fail
          go_quiet ((go_at_call 15; exact Calls.quiet_of_same (place_any _ _)))
          have T2 := T.same (kA.drewN nq)
          have hB2 : Below w.heap.size w ((wr.alloc (.cells #[.int .i64 kd, .int .i64 who, .int .i64 to, .int .i64 lv, .int .u64 ad, .int .u64 wd, .int .u64 od, .int .u64 bh, .slice sp1 l1 sc1] 40)).drewN nq) := hB.trans ((kA.drewN nq).below _ hB.size (fun _ f => f.elim))
          have hb2 : ((wr.alloc (.cells #[.int .i64 kd, .int .i64 who, .int .i64 to, .int .i64 lv, .int .u64 ad, .int .u64 wd, .int .u64 od, .int .u64 bh, .slice sp1 l1 sc1] 40)).drewN nq).heap[wr.heap.size]? = _ := hbx
          have z2 : wr.heap.size < ((wr.alloc (.cells #[.int .i64 kd, .int .i64 who, .int .i64 to, .int .i64 lv, .int .u64 ad, .int .u64 wd, .int .u64 od, .int .u64 bh, .slice sp1 l1 sc1] 40)).drewN nq).heap.size := zA
          have hup : ∀ i, i < 3 → ∀ x, F i x → w.heap.size ≤ x ∧ x < wr.heap.size := fun i hi x hx => ⟨(T.low i hi x hx).1, (T.low i hi x hx).2.1⟩
          have hbt := T.ltT
          have hbr := T.ltR
          generalize (wr.alloc (.cells #[.int .i64 kd, .int .i64 who, .int .i64 to, .int .i64 lv, .int .u64 ad, .int .u64 wd, .int .u64 od, .int .u64 bh, .slice sp1 l1 sc1] 40)).drewN nq = W9 at T2 hB2 hb2 z2 ⊢
          clear T kA hbx zA
          have hw3 := placeOf_lt who
          have ht3 := placeOf_lt to
          generalize placeOf who = wh at hw3 ⊢
          generalize placeOf to = tt at ht3 ⊢
          have hw3' : (wh : Int) < 3 := by omega
          have ht3' : (tt : Int) < 3 := by omega
          have z0 : W9.cell? ⟨wr.heap.size, 0, none⟩ = some (.int .i64 kd) := cell_of_block hb2 0
          have cT := T2.cellT wh hw3
          have cR := T2.cellR wh hw3
          by_cases h9 : kd = 9
          ·
            subst h9
            clear vlen vreads vnil vbytes vwf y0 y1 y2 y3 y4 y5 y6 y7 y8
            have eT := T2.cellT tt ht3
            have gT := T2.frozenT tt
            have eR := T2.cellR tt ht3
            have gR := T2.frozenR tt
            have ltT := T2.ltT
            have ltR := T2.ltR
            rcases T2.both wh hw3 with ⟨hp, hq⟩ | ⟨b0, c0, d0, f0, cap0, rest0, ws0, n0, hp, hq, hal, hF1, hF2, hF3, hF4⟩
            · rw [hp] at cT
              rw [hq] at cR
              have hT10 := copied_three T2 tt ht3 none none (Keeps.refl _ W9) (Keeps.refl _ _) hB2.size (.inl ⟨rfl, rfl⟩)
              have cR2 : (W9.setCell ⟨W7.heap.size, tt, none⟩ (.pointer none)).cell? ⟨W7.heap.size + 1, wh, none⟩ = some (.pointer none) := (World.cell?_setCell_other _ _ _ _ (by simp)).trans cR
              have eR2 : (W9.setCell ⟨W7.heap.size, tt, none⟩ (.pointer none)).cell? ⟨W7.heap.size + 1, tt, none⟩ = some (.pointer (Q tt)) := (World.cell?_setCell_other _ _ _ _ (by simp)).trans eR
              go_wp2_with fail
              refine (copy_none none _ (.inl rfl)).mono ?_
              rintro e wC ⟨rfl, hwC⟩
              subst hwC
              go_wp2_with fail
              refine (rcopy_nil _).mono ?_
              rintro e wD ⟨rfl, hwD⟩
              subst hwD
              have T10 := hT10.1
              have hB10 := hB2.trans (hT10.2.below w.heap.size hB2.size (fun x hx => by have := T2.hbt; have := T2.hbr; omega))
              have hb10 := hT10.2.blk hb2 (by omega)
              have dT := T10.cellT tt ht3
              have dR := T10.cellR tt ht3
              rw [upd_self] at dT dR
              clear hT10
              go_wp2_with fail
              generalize World.setCell _ (⟨W7.heap.size + 1, tt, none⟩ : Addr) _ = W10 at T10 hB10 hb10 dT dR ⊢
              go_quiet (fail)
              have T11 := T10.same ((Keeps.refl (fun _ => False) W10).drewN nq)
              have hB11 : Below w.heap.size w (W10.drewN nq) := ⟨hB10.os, hB10.tape, hB10.output, hB10.size, hB10.block⟩
              have hb11 : (W10.drewN nq).heap[wr.heap.size]? = _ := hb10
              generalize W10.drewN nq = W11 at T11 hB11 hb11 ⊢
              clear T10 hB10 hb10 dT dR
              have T3 := T11.same ((Keeps.refl (fun _ => False) W11).drew)
              have hH := T3.held (bs := wr.heap.size) hb11 hw3 ht3
              have z0 : W11.cell? ⟨wr.heap.size, 0, none⟩ = some (.int .i64 9) := cell_of_block hb11 0
              go_wp2
              refine wp_region_held_end (S := Held wr.heap.size W7.heap.size (W7.heap.size + 1) #[.int .i64 9, .int .i64 who, .int .i64 to, .int .i64 lv, .int .u64 ad, .int .u64 wd, .int .u64 od, .int .u64 bh, .slice sp1 l1 sc1] wh tt (upd P tt none) (upd Q tt none)) 30 rfl (by kernel_rfl) ?_
              refine held_take (i := 0) (v := .pointer (some ⟨wr.heap.size, 0, none⟩)) 131 rfl rfl (by kernel_rfl) (by kernel_rfl) (by kernel_rfl) rfl (fun w' hw' => ?_) hH ?_
              · have s0 : w'.cell? ⟨wr.heap.size, 0, none⟩ = some (.int .i64 9) := cell_of_block hw'.box 0
                clear hw'
                go_simp
              simp only [Act.put, List.setIfInBounds_toArray, List.set_cons_zero, List.set_cons_succ]
              refine held_take (i := 1) (v := .int .i64 9) 132 rfl rfl (by kernel_rfl) (by kernel_rfl) (by kernel_rfl) rfl (fun w' hw' => ?_) hH ?_
              · have s0 : w'.cell? ⟨wr.heap.size, 0, none⟩ = some (.int .i64 9) := cell_of_block hw'.box 0
                clear hw'
                go_simp
              simp only [Act.put, List.setIfInBounds_toArray, List.set_cons_zero, List.set_cons_succ]
              refine held_take (i := 2) (v := .bool false) 133 rfl rfl (by kernel_rfl) (by kernel_rfl) (by kernel_rfl) rfl (fun w' hw' => ?_) hH ?_
              · have s0 : w'.cell? ⟨wr.heap.size, 0, none⟩ = some (.int .i64 9) := cell_of_block hw'.box 0
                clear hw'
                go_simp
              simp only [Act.put, List.setIfInBounds_toArray, List.set_cons_zero, List.set_cons_succ]
              refine held_take (i := 3) (v := .bool false) 134 rfl rfl (by kernel_rfl) (by kernel_rfl) (by kernel_rfl) rfl (fun w' hw' => ?_) hH ?_
              · have s0 : w'.cell? ⟨wr.heap.size, 0, none⟩ = some (.int .i64 9) := cell_of_block hw'.box 0
                clear hw'
                go_simp
              simp only [Act.put, List.setIfInBounds_toArray, List.set_cons_zero, List.set_cons_succ]
              refine held_skip (i := 4) 135 rfl rfl (by kernel_rfl) (by kernel_rfl) (by kernel_rfl) rfl hH ?_
              simp only [Act.put, List.setIfInBounds_toArray, List.set_cons_zero, List.set_cons_succ]
              refine held_skip (i := 5) 136 rfl rfl (by kernel_rfl) (by kernel_rfl) (by kernel_rfl) rfl hH ?_
              simp only [Act.put, List.setIfInBounds_toArray, List.set_cons_zero, List.set_cons_succ]
              refine held_skip (i := 6) 137 rfl rfl (by kernel_rfl) (by kernel_rfl) (by kernel_rfl) rfl hH ?_
              simp only [Act.put, List.setIfInBounds_toArray, List.set_cons_zero, List.set_cons_succ]
              refine held_skip (i := 7) 138 rfl rfl (by kernel_rfl) (by kernel_rfl) (by kernel_rfl) rfl hH ?_
              simp only [Act.put, List.setIfInBounds_toArray, List.set_cons_zero, List.set_cons_succ]
              refine held_skip (i := 8) 139 rfl rfl (by kernel_rfl) (by kernel_rfl) (by kernel_rfl) rfl hH ?_
              simp only [Act.put, List.setIfInBounds_toArray, List.set_cons_zero, List.set_cons_succ]
              refine held_skip (i := 9) 140 rfl rfl (by kernel_rfl) (by kernel_rfl) (by kernel_rfl) rfl hH ?_
              simp only [Act.put, List.setIfInBounds_toArray, List.set_cons_zero, List.set_cons_succ]
              refine held_skip (i := 10) 141 rfl rfl (by kernel_rfl) (by kernel_rfl) (by kernel_rfl) rfl hH ?_
              simp only [Act.put, List.setIfInBounds_toArray, List.set_cons_zero, List.set_cons_succ]
              refine held_skip (i := 11) 142 rfl rfl (by kernel_rfl) (by kernel_rfl) (by kernel_rfl) rfl hH ?_
              simp only [Act.put, List.setIfInBounds_toArray, List.set_cons_zero, List.set_cons_succ]
              refine held_skip (i := 12) 143 rfl rfl (by kernel_rfl) (by kernel_rfl) (by kernel_rfl) rfl hH ?_
              simp only [Act.put, List.setIfInBounds_toArray, List.set_cons_zero, List.set_cons_succ]
              refine held_skip (i := 13) 144 rfl rfl (by kernel_rfl) (by kernel_rfl) (by kernel_rfl) rfl hH ?_
              simp only [Act.put, List.setIfInBounds_toArray, List.set_cons_zero, List.set_cons_succ]
              refine held_skip (i := 14) 145 rfl rfl (by kernel_rfl) (by kernel_rfl) (by kernel_rfl) rfl hH ?_
              simp only [Act.put, List.setIfInBounds_toArray, List.set_cons_zero, List.set_cons_succ]
              refine held_skip (i := 15) 146 rfl rfl (by kernel_rfl) (by kernel_rfl) (by kernel_rfl) rfl hH ?_
              simp only [Act.put, List.setIfInBounds_toArray, List.set_cons_zero, List.set_cons_succ]
              refine held_skip (i := 16) 147 rfl rfl (by kernel_rfl) (by kernel_rfl) (by kernel_rfl) rfl hH ?_
              simp only [Act.put, List.setIfInBounds_toArray, List.set_cons_zero, List.set_cons_succ]
              refine held_skip (i := 17) 148 rfl rfl (by kernel_rfl) (by kernel_rfl) (by kernel_rfl) rfl hH ?_
              simp only [Act.put, List.setIfInBounds_toArray, List.set_cons_zero, List.set_cons_succ]
              refine held_take (i := 18) (v := .bool false) 149 rfl rfl (by kernel_rfl) (by kernel_rfl) (by kernel_rfl) rfl (fun w' hw' => ?_) hH ?_
              · have s0 : w'.cell? ⟨wr.heap.size, 0, none⟩ = some (.int .i64 9) := cell_of_block hw'.box 0
                clear hw'
                go_simp
              simp only [Act.put, List.setIfInBounds_toArray, List.set_cons_zero, List.set_cons_succ]
              refine held_take (i := 19) (v := .bool false) 150 rfl rfl (by kernel_rfl) (by kernel_rfl) (by kernel_rfl) rfl (fun w' hw' => ?_) hH ?_
              · have s0 : w'.cell? ⟨wr.heap.size, 0, none⟩ = some (.int .i64 9) := cell_of_block hw'.box 0
                clear hw'
                go_simp
              simp only [Act.put, List.setIfInBounds_toArray, List.set_cons_zero, List.set_cons_succ]
              refine held_take (i := 20) (v := .int .i64 wh) 151 rfl rfl (by kernel_rfl) (by kernel_rfl) (by kernel_rfl) rfl (fun w' hw' => ?_) hH ?_
              · have s0 : w'.cell? ⟨wr.heap.size, 0, none⟩ = some (.int .i64 9) := cell_of_block hw'.box 0
                clear hw'
                go_simp
              simp only [Act.put, List.setIfInBounds_toArray, List.set_cons_zero, List.set_cons_succ]
              refine held_take (i := 21) (v := .pointer (some ⟨W7.heap.size, wh, none⟩)) 152 rfl rfl (by kernel_rfl) (by kernel_rfl) (by kernel_rfl) rfl (fun w' hw' => ?_) hH ?_
              · have s0 : w'.cell? ⟨wr.heap.size, 0, none⟩ = some (.int .i64 9) := cell_of_block hw'.box 0
                clear hw'
                go_simp
              simp only [Act.put, List.setIfInBounds_toArray, List.set_cons_zero, List.set_cons_succ]
              refine held_take (i := 22) (v := .pointer ((upd P tt none) wh)) 153 rfl rfl (by kernel_rfl) (by kernel_rfl) (by kernel_rfl) rfl (fun w' hw' => ?_) hH ?_
              · have s0 : w'.cell? ⟨wr.heap.size, 0, none⟩ = some (.int .i64 9) := cell_of_block hw'.box 0
                have s9 := hw'.t1
                clear hw'
                go_simp
              simp only [Act.put, List.setIfInBounds_toArray, List.set_cons_zero, List.set_cons_succ]
              refine held_take (i := 23) (v := .int .i64 wh) 154 rfl rfl (by kernel_rfl) (by kernel_rfl) (by kernel_rfl) rfl (fun w' hw' => ?_) hH ?_
              · have s0 : w'.cell? ⟨wr.heap.size, 0, none⟩ = some (.int .i64 9) := cell_of_block hw'.box 0
                clear hw'
                go_simp
              simp only [Act.put, List.setIfInBounds_toArray, List.set_cons_zero, List.set_cons_succ]
              refine held_take (i := 24) (v := .pointer (some ⟨W7.heap.size + 1, wh, none⟩)) 155 rfl rfl (by kernel_rfl) (by kernel_rfl) (by kernel_rfl) rfl (fun w' hw' => ?_) hH ?_
              · have s0 : w'.cell? ⟨wr.heap.size, 0, none⟩ = some (.int .i64 9) := cell_of_block hw'.box 0
                clear hw'
                go_simp
              simp only [Act.put, List.setIfInBounds_toArray, List.set_cons_zero, List.set_cons_succ]
              refine held_take (i := 25) (v := .pointer ((upd Q tt none) wh)) 156 rfl rfl (by kernel_rfl) (by kernel_rfl) (by kernel_rfl) rfl (fun w' hw' => ?_) hH ?_
              · have s0 : w'.cell? ⟨wr.heap.size, 0, none⟩ = some (.int .i64 9) := cell_of_block hw'.box 0
                have s9 := hw'.r1
                clear hw'
                go_simp
              simp only [Act.put, List.setIfInBounds_toArray, List.set_cons_zero, List.set_cons_succ]
              refine held_take (i := 26) (v := .agg #[.int .i64 9, .int .i64 who, .int .i64 to, .int .i64 lv, .int .u64 ad, .int .u64 wd, .int .u64 od, .int .u64 bh, .slice sp1 l1 sc1]) 157 rfl rfl (by kernel_rfl) (by kernel_rfl) (by kernel_rfl) rfl (fun w' hw' => ?_) hH ?_
              · have s0 : w'.cell? ⟨wr.heap.size, 0, none⟩ = some (.int .i64 9) := cell_of_block hw'.box 0
                have s1 : w'.cell? ⟨wr.heap.size, 1, none⟩ = some (.int .i64 who) := cell_of_block hw'.box 1
                have s2 : w'.cell? ⟨wr.heap.size, 2, none⟩ = some (.int .i64 to) := cell_of_block hw'.box 2
                have s3 : w'.cell? ⟨wr.heap.size, 3, none⟩ = some (.int .i64 lv) := cell_of_block hw'.box 3
                have s4 : w'.cell? ⟨wr.heap.size, 4, none⟩ = some (.int .u64 ad) := cell_of_block hw'.box 4
                have s5 : w'.cell? ⟨wr.heap.size, 5, none⟩ = some (.int .u64 wd) := cell_of_block hw'.box 5
                have s6 : w'.cell? ⟨wr.heap.size, 6, none⟩ = some (.int .u64 od) := cell_of_block hw'.box 6
                have s7 : w'.cell? ⟨wr.heap.size, 7, none⟩ = some (.int .u64 bh) := cell_of_block hw'.box 7
                have s8 : w'.cell? ⟨wr.heap.size, 8, none⟩ = some (.slice sp1 l1 sc1) := cell_of_block hw'.box 8
                clear hw'
                go_simp
              simp only [Act.put, List.setIfInBounds_toArray, List.set_cons_zero, List.set_cons_succ]
              refine held_call (i := 27) (f := 19) (args := #[.pointer ((upd P tt none) wh), .pointer ((upd Q tt none) wh), .agg #[.int .i64 9, .int .i64 who, .int .i64 to, .int .i64 lv, .int .u64 ad, .int .u64 wd, .int .u64 od, .int .u64 bh, .slice sp1 l1 sc1]]) 158 (by kernel_rfl) rfl rfl rfl (by go_simp) ?_
              refine (plays_other who to lv ad wd od bh sp1 l1 sc1 9 _ _ _ (by omega)).mono ?_
              rintro e wZ ⟨rfl, kP⟩
              have T4 := T3.same kP
              have hbZ := kP.blk hb11 (fun f => f)
              have hHZ := T4.held hbZ hw3 ht3
              have hB4 := hB11.trans (kP.from_drew.below w.heap.size hB11.size (fun _ f => f.elim))
              refine ⟨_, rfl, hHZ, ?_⟩
              simp only [Act.put, List.setIfInBounds_toArray, List.set_cons_zero, List.set_cons_succ]
              clear kP T3 T11
              refine held_take (i := 28) (v := .bool false) 159 rfl rfl (by kernel_rfl) (by kernel_rfl) (by kernel_rfl) rfl (fun w' hw' => ?_) hHZ ?_
              · clear hw'
                go_simp
              simp only [Act.put, List.setIfInBounds_toArray, List.set_cons_zero, List.set_cons_succ]
              refine held_take (i := 29) (v := .bool false) 160 rfl rfl (by kernel_rfl) (by kernel_rfl) (by kernel_rfl) rfl (fun w' hw' => ?_) hHZ ?_
              · clear hw'
                go_simp
              simp only [Act.put, List.setIfInBounds_toArray, List.set_cons_zero, List.set_cons_succ]
              refine held_end (by kernel_rfl) ?_ _
              go_wp2
              go_roundw
              case rel => exact ⟨k1 + 1, _, _, _, by omega, by go_num, T4, hB4⟩
              case measure => simp [intOf]; omega
            · rw [hp] at cT
              rw [hq] at cR
              have nd := T2.low wh hw3 d0 hF3
              have nf := T2.low wh hw3 f0 hF4
              have hwf0 := hal.wf
              go_wp2_with fail
              refine (copy_at b0 c0 ws0 n0 _ hal.row).mono ?_
              rintro e wC ⟨rfl, rC, kC⟩
              have TC := T2.same kC
              have eT2 := TC.cellT tt ht3
              have gT2 := TC.frozenT tt
              have eR2 := TC.cellR wh hw3
              rw [hq] at eR2
              have cR2 : (wC.setCell ⟨W7.heap.size, tt, none⟩ (.pointer (some ⟨W9.heap.size + 1, 0, none⟩))).cell? ⟨W7.heap.size + 1, wh, none⟩ = some (.pointer (some ⟨d0, 0, none⟩)) := (World.cell?_setCell_other _ _ _ _ (by simp)).trans eR2
              have kS : Keeps (fun x => x = W7.heap.size) wC (wC.setCell ⟨W7.heap.size, tt, none⟩ (.pointer (some ⟨W9.heap.size + 1, 0, none⟩))) := (Keeps.refl (fun x => x = W7.heap.size) wC).setCell (p := ⟨W7.heap.size, tt, none⟩) (.inr rfl) _
              have refC := (hal.ref.kept kC (fun f => f) (fun f => f)).kept kS (by omega) (by omega)
              have hzC : (wC.setCell ⟨W7.heap.size, tt, none⟩ (.pointer (some ⟨W9.heap.size + 1, 0, none⟩))).heap.size = wC.heap.size := by simp
              have lC := rC.ltb
              have rC2 := rC.kept kS (by omega) (by omega)
              have bR2 : (wC.setCell ⟨W7.heap.size, tt, none⟩ (.pointer (some ⟨W9.heap.size + 1, 0, none⟩))).heap[W7.heap.size + 1]? = _ := (Below.heap_setCell wC ⟨W7.heap.size, tt, none⟩ _ _ (by simp)).trans TC.r
              have HZC : Hid _ := hzC
              clear hzC
              go_wp2_with fail
              refine (rcopy_at d0 f0 cap0 rest0 ws0 n0 _ refC).mono ?_
              rintro e wD ⟨bD, dD, capD, restD, rfl, hbD, hdD, fD, kD⟩
              have bR3 := kD.blk bR2 (fun f => f)
              have eR3 : wD.cell? ⟨W7.heap.size + 1, tt, none⟩ = some (.pointer (Q tt)) := by rw [cell_of_block bR3, arr_get Q tt ht3]
              have gR3 := frozen_of_block bR3 tt
              rw [HZC.out] at hbD hdD
              have zD := kD.size
              rw [HZC.out] at zD
              have lD := fD.ltb
              have lD2 := fD.ltc
              have kR : Keeps (fun x => x = W7.heap.size + 1) wD (wD.setCell ⟨W7.heap.size + 1, tt, none⟩ (.pointer (some ⟨bD, 0, none⟩))) := (Keeps.refl (fun x => x = W7.heap.size + 1) wD).setCell (p := ⟨W7.heap.size + 1, tt, none⟩) (.inr rfl) _
              have hT10 := copied_three T2 tt ht3 (some ⟨W9.heap.size + 1, 0, none⟩) (some ⟨bD, 0, none⟩) kC kD hB2.size (.inr ⟨W9.heap.size + 1, W9.heap.size, bD, dD, capD, restD, ws0, 0, rfl, rfl, ⟨(rC2.kept kD (fun f => f) (fun f => f)).kept kR (by omega) (by omega), fD.kept kR (by omega) (by omega), hwf0, by omega, by omega, by omega, by omega⟩, ⟨by omega, by omega⟩, ⟨by omega, by omega⟩, ⟨by omega, by omega⟩, ⟨by omega, by omega⟩⟩)
              clear rC rC2 refC fD bR2 bR3 TC hal nd nf
              have T10 := hT10.1
              have hB10 := hB2.trans (hT10.2.below w.heap.size hB2.size (fun x hx => by have := T2.hbt; have := T2.hbr; omega))
              have hb10 := hT10.2.blk hb2 (by omega)
              have dT := T10.cellT tt ht3
              have dR := T10.cellR tt ht3
              rw [upd_self] at dT dR
              clear hT10
              go_wp2_with fail
              generalize World.setCell _ (⟨W7.heap.size + 1, tt, none⟩ : Addr) _ = W10 at T10 hB10 hb10 dT dR ⊢
              go_quiet (fail)
              have T11 := T10.same ((Keeps.refl (fun _ => False) W10).drewN nq)
              have hB11 : Below w.heap.size w (W10.drewN nq) := ⟨hB10.os, hB10.tape, hB10.output, hB10.size, hB10.block⟩
              have hb11 : (W10.drewN nq).heap[wr.heap.size]? = _ := hb10
              generalize W10.drewN nq = W11 at T11 hB11 hb11 ⊢
              clear T10 hB10 hb10 dT dR
              have T3 := T11.same ((Keeps.refl (fun _ => False) W11).drew)
              have hH := T3.held (bs := wr.heap.size) hb11 hw3 ht3
              have z0 : W11.cell? ⟨wr.heap.size, 0, none⟩ = some (.int .i64 9) := cell_of_block hb11 0
              go_wp2
              refine wp_region_held_end (S := Held wr.heap.size W7.heap.size (W7.heap.size + 1) #[.int .i64 9, .int .i64 who, .int .i64 to, .int .i64 lv, .int .u64 ad, .int .u64 wd, .int .u64 od, .int .u64 bh, .slice sp1 l1 sc1] wh tt (upd P tt (some ⟨W9.heap.size + 1, 0, none⟩)) (upd Q tt (some ⟨bD, 0, none⟩))) 30 rfl (by kernel_rfl) ?_
              refine held_take (i := 0) (v := .pointer (some ⟨wr.heap.size, 0, none⟩)) 131 rfl rfl (by kernel_rfl) (by kernel_rfl) (by kernel_rfl) rfl (fun w' hw' => ?_) hH ?_
              · have s0 : w'.cell? ⟨wr.heap.size, 0, none⟩ = some (.int .i64 9) := cell_of_block hw'.box 0
                clear hw'
                go_simp
              simp only [Act.put, List.setIfInBounds_toArray, List.set_cons_zero, List.set_cons_succ]
              refine held_take (i := 1) (v := .int .i64 9) 132 rfl rfl (by kernel_rfl) (by kernel_rfl) (by kernel_rfl) rfl (fun w' hw' => ?_) hH ?_
              · have s0 : w'.cell? ⟨wr.heap.size, 0, none⟩ = some (.int .i64 9) := cell_of_block hw'.box 0
                clear hw'
                go_simp
              simp only [Act.put, List.setIfInBounds_toArray, List.set_cons_zero, List.set_cons_succ]
              refine held_take (i := 2) (v := .bool false) 133 rfl rfl (by kernel_rfl) (by kernel_rfl) (by kernel_rfl) rfl (fun w' hw' => ?_) hH ?_
              · have s0 : w'.cell? ⟨wr.heap.size, 0, none⟩ = some (.int .i64 9) := cell_of_block hw'.box 0
                clear hw'
                go_simp
              simp only [Act.put, List.setIfInBounds_toArray, List.set_cons_zero, List.set_cons_succ]
              refine held_take (i := 3) (v := .bool false) 134 rfl rfl (by kernel_rfl) (by kernel_rfl) (by kernel_rfl) rfl (fun w' hw' => ?_) hH ?_
              · have s0 : w'.cell? ⟨wr.heap.size, 0, none⟩ = some (.int .i64 9) := cell_of_block hw'.box 0
                clear hw'
                go_simp
              simp only [Act.put, List.setIfInBounds_toArray, List.set_cons_zero, List.set_cons_succ]
              refine held_skip (i := 4) 135 rfl rfl (by kernel_rfl) (by kernel_rfl) (by kernel_rfl) rfl hH ?_
              simp only [Act.put, List.setIfInBounds_toArray, List.set_cons_zero, List.set_cons_succ]
              refine held_skip (i := 5) 136 rfl rfl (by kernel_rfl) (by kernel_rfl) (by kernel_rfl) rfl hH ?_
              simp only [Act.put, List.setIfInBounds_toArray, List.set_cons_zero, List.set_cons_succ]
              refine held_skip (i := 6) 137 rfl rfl (by kernel_rfl) (by kernel_rfl) (by kernel_rfl) rfl hH ?_
              simp only [Act.put, List.setIfInBounds_toArray, List.set_cons_zero, List.set_cons_succ]
              refine held_skip (i := 7) 138 rfl rfl (by kernel_rfl) (by kernel_rfl) (by kernel_rfl) rfl hH ?_
              simp only [Act.put, List.setIfInBounds_toArray, List.set_cons_zero, List.set_cons_succ]
              refine held_skip (i := 8) 139 rfl rfl (by kernel_rfl) (by kernel_rfl) (by kernel_rfl) rfl hH ?_
              simp only [Act.put, List.setIfInBounds_toArray, List.set_cons_zero, List.set_cons_succ]
              refine held_skip (i := 9) 140 rfl rfl (by kernel_rfl) (by kernel_rfl) (by kernel_rfl) rfl hH ?_
              simp only [Act.put, List.setIfInBounds_toArray, List.set_cons_zero, List.set_cons_succ]
              refine held_skip (i := 10) 141 rfl rfl (by kernel_rfl) (by kernel_rfl) (by kernel_rfl) rfl hH ?_
              simp only [Act.put, List.setIfInBounds_toArray, List.set_cons_zero, List.set_cons_succ]
              refine held_skip (i := 11) 142 rfl rfl (by kernel_rfl) (by kernel_rfl) (by kernel_rfl) rfl hH ?_
              simp only [Act.put, List.setIfInBounds_toArray, List.set_cons_zero, List.set_cons_succ]
              refine held_skip (i := 12) 143 rfl rfl (by kernel_rfl) (by kernel_rfl) (by kernel_rfl) rfl hH ?_
              simp only [Act.put, List.setIfInBounds_toArray, List.set_cons_zero, List.set_cons_succ]
              refine held_skip (i := 13) 144 rfl rfl (by kernel_rfl) (by kernel_rfl) (by kernel_rfl) rfl hH ?_
              simp only [Act.put, List.setIfInBounds_toArray, List.set_cons_zero, List.set_cons_succ]
              refine held_skip (i := 14) 145 rfl rfl (by kernel_rfl) (by kernel_rfl) (by kernel_rfl) rfl hH ?_
              simp only [Act.put, List.setIfInBounds_toArray, List.set_cons_zero, List.set_cons_succ]
              refine held_skip (i := 15) 146 rfl rfl (by kernel_rfl) (by kernel_rfl) (by kernel_rfl) rfl hH ?_
              simp only [Act.put, List.setIfInBounds_toArray, List.set_cons_zero, List.set_cons_succ]
              refine held_skip (i := 16) 147 rfl rfl (by kernel_rfl) (by kernel_rfl) (by kernel_rfl) rfl hH ?_
              simp only [Act.put, List.setIfInBounds_toArray, List.set_cons_zero, List.set_cons_succ]
              refine held_skip (i := 17) 148 rfl rfl (by kernel_rfl) (by kernel_rfl) (by kernel_rfl) rfl hH ?_
              simp only [Act.put, List.setIfInBounds_toArray, List.set_cons_zero, List.set_cons_succ]
              refine held_take (i := 18) (v := .bool false) 149 rfl rfl (by kernel_rfl) (by kernel_rfl) (by kernel_rfl) rfl (fun w' hw' => ?_) hH ?_
              · have s0 : w'.cell? ⟨wr.heap.size, 0, none⟩ = some (.int .i64 9) := cell_of_block hw'.box 0
                clear hw'
                go_simp
              simp only [Act.put, List.setIfInBounds_toArray, List.set_cons_zero, List.set_cons_succ]
              refine held_take (i := 19) (v := .bool false) 150 rfl rfl (by kernel_rfl) (by kernel_rfl) (by kernel_rfl) rfl (fun w' hw' => ?_) hH ?_
              · have s0 : w'.cell? ⟨wr.heap.size, 0, none⟩ = some (.int .i64 9) := cell_of_block hw'.box 0
                clear hw'
                go_simp
              simp only [Act.put, List.setIfInBounds_toArray, List.set_cons_zero, List.set_cons_succ]
              refine held_take (i := 20) (v := .int .i64 wh) 151 rfl rfl (by kernel_rfl) (by kernel_rfl) (by kernel_rfl) rfl (fun w' hw' => ?_) hH ?_
              · have s0 : w'.cell? ⟨wr.heap.size, 0, none⟩ = some (.int .i64 9) := cell_of_block hw'.box 0
                clear hw'
                go_simp
              simp only [Act.put, List.setIfInBounds_toArray, List.set_cons_zero, List.set_cons_succ]
              refine held_take (i := 21) (v := .pointer (some ⟨W7.heap.size, wh, none⟩)) 152 rfl rfl (by kernel_rfl) (by kernel_rfl) (by kernel_rfl) rfl (fun w' hw' => ?_) hH ?_
              · have s0 : w'.cell? ⟨wr.heap.size, 0, none⟩ = some (.int .i64 9) := cell_of_block hw'.box 0
                clear hw'
                go_simp
              simp only [Act.put, List.setIfInBounds_toArray, List.set_cons_zero, List.set_cons_succ]
              refine held_take (i := 22) (v := .pointer ((upd P tt (some ⟨W9.heap.size + 1, 0, none⟩)) wh)) 153 rfl rfl (by kernel_rfl) (by kernel_rfl) (by kernel_rfl) rfl (fun w' hw' => ?_) hH ?_
              · have s0 : w'.cell? ⟨wr.heap.size, 0, none⟩ = some (.int .i64 9) := cell_of_block hw'.box 0
                have s9 := hw'.t1
                clear hw'
                go_simp
              simp only [Act.put, List.setIfInBounds_toArray, List.set_cons_zero, List.set_cons_succ]
              refine held_take (i := 23) (v := .int .i64 wh) 154 rfl rfl (by kernel_rfl) (by kernel_rfl) (by kernel_rfl) rfl (fun w' hw' => ?_) hH ?_
              · have s0 : w'.cell? ⟨wr.heap.size, 0, none⟩ = some (.int .i64 9) := cell_of_block hw'.box 0
                clear hw'
                go_simp
              simp only [Act.put, List.setIfInBounds_toArray, List.set_cons_zero, List.set_cons_succ]
              refine held_take (i := 24) (v := .pointer (some ⟨W7.heap.size + 1, wh, none⟩)) 155 rfl rfl (by kernel_rfl) (by kernel_rfl) (by kernel_rfl) rfl (fun w' hw' => ?_) hH ?_
              · have s0 : w'.cell? ⟨wr.heap.size, 0, none⟩ = some (.int .i64 9) := cell_of_block hw'.box 0
                clear hw'
                go_simp
              simp only [Act.put, List.setIfInBounds_toArray, List.set_cons_zero, List.set_cons_succ]
              refine held_take (i := 25) (v := .pointer ((upd Q tt (some ⟨bD, 0, none⟩)) wh)) 156 rfl rfl (by kernel_rfl) (by kernel_rfl) (by kernel_rfl) rfl (fun w' hw' => ?_) hH ?_
              · have s0 : w'.cell? ⟨wr.heap.size, 0, none⟩ = some (.int .i64 9) := cell_of_block hw'.box 0
                have s9 := hw'.r1
                clear hw'
                go_simp
              simp only [Act.put, List.setIfInBounds_toArray, List.set_cons_zero, List.set_cons_succ]
              refine held_take (i := 26) (v := .agg #[.int .i64 9, .int .i64 who, .int .i64 to, .int .i64 lv, .int .u64 ad, .int .u64 wd, .int .u64 od, .int .u64 bh, .slice sp1 l1 sc1]) 157 rfl rfl (by kernel_rfl) (by kernel_rfl) (by kernel_rfl) rfl (fun w' hw' => ?_) hH ?_
              · have s0 : w'.cell? ⟨wr.heap.size, 0, none⟩ = some (.int .i64 9) := cell_of_block hw'.box 0
                have s1 : w'.cell? ⟨wr.heap.size, 1, none⟩ = some (.int .i64 who) := cell_of_block hw'.box 1
                have s2 : w'.cell? ⟨wr.heap.size, 2, none⟩ = some (.int .i64 to) := cell_of_block hw'.box 2
                have s3 : w'.cell? ⟨wr.heap.size, 3, none⟩ = some (.int .i64 lv) := cell_of_block hw'.box 3
                have s4 : w'.cell? ⟨wr.heap.size, 4, none⟩ = some (.int .u64 ad) := cell_of_block hw'.box 4
                have s5 : w'.cell? ⟨wr.heap.size, 5, none⟩ = some (.int .u64 wd) := cell_of_block hw'.box 5
                have s6 : w'.cell? ⟨wr.heap.size, 6, none⟩ = some (.int .u64 od) := cell_of_block hw'.box 6
                have s7 : w'.cell? ⟨wr.heap.size, 7, none⟩ = some (.int .u64 bh) := cell_of_block hw'.box 7
                have s8 : w'.cell? ⟨wr.heap.size, 8, none⟩ = some (.slice sp1 l1 sc1) := cell_of_block hw'.box 8
                clear hw'
                go_simp
              simp only [Act.put, List.setIfInBounds_toArray, List.set_cons_zero, List.set_cons_succ]
              refine held_call (i := 27) (f := 19) (args := #[.pointer ((upd P tt (some ⟨W9.heap.size + 1, 0, none⟩)) wh), .pointer ((upd Q tt (some ⟨bD, 0, none⟩)) wh), .agg #[.int .i64 9, .int .i64 who, .int .i64 to, .int .i64 lv, .int .u64 ad, .int .u64 wd, .int .u64 od, .int .u64 bh, .slice sp1 l1 sc1]]) 158 (by kernel_rfl) rfl rfl rfl (by go_simp) ?_
              refine (plays_other who to lv ad wd od bh sp1 l1 sc1 9 _ _ _ (by omega)).mono ?_
              rintro e wZ ⟨rfl, kP⟩
              have T4 := T3.same kP
              have hbZ := kP.blk hb11 (fun f => f)
              have hHZ := T4.held hbZ hw3 ht3
              have hB4 := hB11.trans (kP.from_drew.below w.heap.size hB11.size (fun _ f => f.elim))
              refine ⟨_, rfl, hHZ, ?_⟩
              simp only [Act.put, List.setIfInBounds_toArray, List.set_cons_zero, List.set_cons_succ]
              clear kP T3 T11
              refine held_take (i := 28) (v := .bool false) 159 rfl rfl (by kernel_rfl) (by kernel_rfl) (by kernel_rfl) rfl (fun w' hw' => ?_) hHZ ?_
              · clear hw'
                go_simp
              simp only [Act.put, List.setIfInBounds_toArray, List.set_cons_zero, List.set_cons_succ]
              refine held_take (i := 29) (v := .bool false) 160 rfl rfl (by kernel_rfl) (by kernel_rfl) (by kernel_rfl) rfl (fun w' hw' => ?_) hHZ ?_
              · clear hw'
                go_simp
              simp only [Act.put, List.setIfInBounds_toArray, List.set_cons_zero, List.set_cons_succ]
              refine held_end (by kernel_rfl) ?_ _
              go_wp2
              go_roundw
              case rel => exact ⟨k1 + 1, _, _, _, by omega, by go_num, T4, hB4⟩
              case measure => simp [intOf]; omega
          · have h9' : (kd == 9) = false := by simpa using h9
            by_cases h10 : kd = 10
            ·
              subst h10
              have T3 := T2.same ((Keeps.refl (fun _ => False) W9).drew)
              have hH := T3.held (bs := wr.heap.size) hb2 hw3 ht3
              clear vlen vreads vnil vbytes vwf y0 y1 y2 y3 y4 y5 y6 y7 y8
              go_wp2
              refine wp_region_held_end (S := Held wr.heap.size W7.heap.size (W7.heap.size + 1) #[.int .i64 10, .int .i64 who, .int .i64 to, .int .i64 lv, .int .u64 ad, .int .u64 wd, .int .u64 od, .int .u64 bh, .slice sp1 l1 sc1] wh tt P Q) 30 rfl (by kernel_rfl) ?_
              refine held_take (i := 0) (v := .pointer (some ⟨wr.heap.size, 0, none⟩)) 131 rfl rfl (by kernel_rfl) (by kernel_rfl) (by kernel_rfl) rfl (fun w' hw' => ?_) hH ?_
              · have s0 : w'.cell? ⟨wr.heap.size, 0, none⟩ = some (.int .i64 10) := cell_of_block hw'.box 0
                clear hw'
                go_simp
              simp only [Act.put, List.setIfInBounds_toArray, List.set_cons_zero, List.set_cons_succ]
              refine held_take (i := 1) (v := .int .i64 10) 132 rfl rfl (by kernel_rfl) (by kernel_rfl) (by kernel_rfl) rfl (fun w' hw' => ?_) hH ?_
              · have s0 : w'.cell? ⟨wr.heap.size, 0, none⟩ = some (.int .i64 10) := cell_of_block hw'.box 0
                clear hw'
                go_simp
              simp only [Act.put, List.setIfInBounds_toArray, List.set_cons_zero, List.set_cons_succ]
              refine held_take (i := 2) (v := .bool true) 133 rfl rfl (by kernel_rfl) (by kernel_rfl) (by kernel_rfl) rfl (fun w' hw' => ?_) hH ?_
              · have s0 : w'.cell? ⟨wr.heap.size, 0, none⟩ = some (.int .i64 10) := cell_of_block hw'.box 0
                clear hw'
                go_simp
              simp only [Act.put, List.setIfInBounds_toArray, List.set_cons_zero, List.set_cons_succ]
              refine held_take (i := 3) (v := .bool true) 134 rfl rfl (by kernel_rfl) (by kernel_rfl) (by kernel_rfl) rfl (fun w' hw' => ?_) hH ?_
              · have s0 : w'.cell? ⟨wr.heap.size, 0, none⟩ = some (.int .i64 10) := cell_of_block hw'.box 0
                clear hw'
                go_simp
              simp only [Act.put, List.setIfInBounds_toArray, List.set_cons_zero, List.set_cons_succ]
              refine held_take (i := 4) (v := .int .i64 wh) 135 rfl rfl (by kernel_rfl) (by kernel_rfl) (by kernel_rfl) rfl (fun w' hw' => ?_) hH ?_
              · have s0 : w'.cell? ⟨wr.heap.size, 0, none⟩ = some (.int .i64 10) := cell_of_block hw'.box 0
                clear hw'
                go_simp
              simp only [Act.put, List.setIfInBounds_toArray, List.set_cons_zero, List.set_cons_succ]
              refine held_take (i := 5) (v := .pointer (some ⟨W7.heap.size, wh, none⟩)) 136 rfl rfl (by kernel_rfl) (by kernel_rfl) (by kernel_rfl) rfl (fun w' hw' => ?_) hH ?_
              · have s0 : w'.cell? ⟨wr.heap.size, 0, none⟩ = some (.int .i64 10) := cell_of_block hw'.box 0
                clear hw'
                go_simp
              simp only [Act.put, List.setIfInBounds_toArray, List.set_cons_zero, List.set_cons_succ]
              refine held_take (i := 6) (v := .pointer (P wh)) 137 rfl rfl (by kernel_rfl) (by kernel_rfl) (by kernel_rfl) rfl (fun w' hw' => ?_) hH ?_
              · have s0 : w'.cell? ⟨wr.heap.size, 0, none⟩ = some (.int .i64 10) := cell_of_block hw'.box 0
                have s9 := hw'.t1
                clear hw'
                go_simp
              simp only [Act.put, List.setIfInBounds_toArray, List.set_cons_zero, List.set_cons_succ]
              refine held_take (i := 7) (v := .int .i64 tt) 138 rfl rfl (by kernel_rfl) (by kernel_rfl) (by kernel_rfl) rfl (fun w' hw' => ?_) hH ?_
              · have s0 : w'.cell? ⟨wr.heap.size, 0, none⟩ = some (.int .i64 10) := cell_of_block hw'.box 0
                clear hw'
                go_simp
              simp only [Act.put, List.setIfInBounds_toArray, List.set_cons_zero, List.set_cons_succ]
              refine held_take (i := 8) (v := .pointer (some ⟨W7.heap.size, tt, none⟩)) 139 rfl rfl (by kernel_rfl) (by kernel_rfl) (by kernel_rfl) rfl (fun w' hw' => ?_) hH ?_
              · have s0 : w'.cell? ⟨wr.heap.size, 0, none⟩ = some (.int .i64 10) := cell_of_block hw'.box 0
                clear hw'
                go_simp
              simp only [Act.put, List.setIfInBounds_toArray, List.set_cons_zero, List.set_cons_succ]
              refine held_take (i := 9) (v := .pointer (P tt)) 140 rfl rfl (by kernel_rfl) (by kernel_rfl) (by kernel_rfl) rfl (fun w' hw' => ?_) hH ?_
              · have s0 : w'.cell? ⟨wr.heap.size, 0, none⟩ = some (.int .i64 10) := cell_of_block hw'.box 0
                have s9 := hw'.t2
                clear hw'
                go_simp
              simp only [Act.put, List.setIfInBounds_toArray, List.set_cons_zero, List.set_cons_succ]
              refine held_take (i := 10) (v := .int .i64 wh) 141 rfl rfl (by kernel_rfl) (by kernel_rfl) (by kernel_rfl) rfl (fun w' hw' => ?_) hH ?_
              · have s0 : w'.cell? ⟨wr.heap.size, 0, none⟩ = some (.int .i64 10) := cell_of_block hw'.box 0
                clear hw'
                go_simp
              simp only [Act.put, List.setIfInBounds_toArray, List.set_cons_zero, List.set_cons_succ]
              refine held_take (i := 11) (v := .pointer (some ⟨W7.heap.size + 1, wh, none⟩)) 142 rfl rfl (by kernel_rfl) (by kernel_rfl) (by kernel_rfl) rfl (fun w' hw' => ?_) hH ?_
              · have s0 : w'.cell? ⟨wr.heap.size, 0, none⟩ = some (.int .i64 10) := cell_of_block hw'.box 0
                clear hw'
                go_simp
              simp only [Act.put, List.setIfInBounds_toArray, List.set_cons_zero, List.set_cons_succ]
              refine held_take (i := 12) (v := .pointer (Q wh)) 143 rfl rfl (by kernel_rfl) (by kernel_rfl) (by kernel_rfl) rfl (fun w' hw' => ?_) hH ?_
              · have s0 : w'.cell? ⟨wr.heap.size, 0, none⟩ = some (.int .i64 10) := cell_of_block hw'.box 0
                have s9 := hw'.r1
                clear hw'
                go_simp
              simp only [Act.put, List.setIfInBounds_toArray, List.set_cons_zero, List.set_cons_succ]
              refine held_take (i := 13) (v := .int .i64 tt) 144 rfl rfl (by kernel_rfl) (by kernel_rfl) (by kernel_rfl) rfl (fun w' hw' => ?_) hH ?_
              · have s0 : w'.cell? ⟨wr.heap.size, 0, none⟩ = some (.int .i64 10) := cell_of_block hw'.box 0
                clear hw'
                go_simp
              simp only [Act.put, List.setIfInBounds_toArray, List.set_cons_zero, List.set_cons_succ]
              refine held_take (i := 14) (v := .pointer (some ⟨W7.heap.size + 1, tt, none⟩)) 145 rfl rfl (by kernel_rfl) (by kernel_rfl) (by kernel_rfl) rfl (fun w' hw' => ?_) hH ?_
              · have s0 : w'.cell? ⟨wr.heap.size, 0, none⟩ = some (.int .i64 10) := cell_of_block hw'.box 0
                clear hw'
                go_simp
              simp only [Act.put, List.setIfInBounds_toArray, List.set_cons_zero, List.set_cons_succ]
              refine held_take (i := 15) (v := .pointer (Q tt)) 146 rfl rfl (by kernel_rfl) (by kernel_rfl) (by kernel_rfl) rfl (fun w' hw' => ?_) hH ?_
              · have s0 : w'.cell? ⟨wr.heap.size, 0, none⟩ = some (.int .i64 10) := cell_of_block hw'.box 0
                have s9 := hw'.r2
                clear hw'
                go_simp
              simp only [Act.put, List.setIfInBounds_toArray, List.set_cons_zero, List.set_cons_succ]
              refine held_call (i := 16) (f := 18) (args := #[.pointer (P wh), .pointer (P tt), .pointer (Q wh), .pointer (Q tt)]) 147 (by kernel_rfl) rfl rfl rfl (by go_simp) ?_
              refine (differs_any (P wh) (Q wh) (P tt) (Q tt) (F wh) (F tt) _ (T3.both wh hw3) (T3.both tt ht3)).mono ?_
              rintro e wA ⟨rfl, kD⟩
              have T5 := T3.same kD
              have hb5 := kD.blk hb2 (fun f => f)
              have hH5 := T5.held hb5 hw3 ht3
              refine ⟨_, rfl, hH5, ?_⟩
              simp only [Act.put, List.setIfInBounds_toArray, List.set_cons_zero, List.set_cons_succ]
              refine held_take (i := 17) (v := .bool false) 148 rfl rfl (by kernel_rfl) (by kernel_rfl) (by kernel_rfl) rfl (fun w' hw' => ?_) hH5 ?_
              · have s0 : w'.cell? ⟨wr.heap.size, 0, none⟩ = some (.int .i64 10) := cell_of_block hw'.box 0
                clear hw'
                go_simp
              simp only [Act.put, List.setIfInBounds_toArray, List.set_cons_zero, List.set_cons_succ]
              refine held_take (i := 18) (v := .bool false) 149 rfl rfl (by kernel_rfl) (by kernel_rfl) (by kernel_rfl) rfl (fun w' hw' => ?_) hH5 ?_
              · have s0 : w'.cell? ⟨wr.heap.size, 0, none⟩ = some (.int .i64 10) := cell_of_block hw'.box 0
                clear hw'
                go_simp
              simp only [Act.put, List.setIfInBounds_toArray, List.set_cons_zero, List.set_cons_succ]
              refine held_take (i := 19) (v := .bool false) 150 rfl rfl (by kernel_rfl) (by kernel_rfl) (by kernel_rfl) rfl (fun w' hw' => ?_) hH5 ?_
              · have s0 : w'.cell? ⟨wr.heap.size, 0, none⟩ = some (.int .i64 10) := cell_of_block hw'.box 0
                clear hw'
                go_simp
              simp only [Act.put, List.setIfInBounds_toArray, List.set_cons_zero, List.set_cons_succ]
              refine held_take (i := 20) (v := .int .i64 wh) 151 rfl rfl (by kernel_rfl) (by kernel_rfl) (by kernel_rfl) rfl (fun w' hw' => ?_) hH5 ?_
              · have s0 : w'.cell? ⟨wr.heap.size, 0, none⟩ = some (.int .i64 10) := cell_of_block hw'.box 0
                clear hw'
                go_simp
              simp only [Act.put, List.setIfInBounds_toArray, List.set_cons_zero, List.set_cons_succ]
              refine held_take (i := 21) (v := .pointer (some ⟨W7.heap.size, wh, none⟩)) 152 rfl rfl (by kernel_rfl) (by kernel_rfl) (by kernel_rfl) rfl (fun w' hw' => ?_) hH5 ?_
              · have s0 : w'.cell? ⟨wr.heap.size, 0, none⟩ = some (.int .i64 10) := cell_of_block hw'.box 0
                clear hw'
                go_simp
              simp only [Act.put, List.setIfInBounds_toArray, List.set_cons_zero, List.set_cons_succ]
              refine held_take (i := 22) (v := .pointer (P wh)) 153 rfl rfl (by kernel_rfl) (by kernel_rfl) (by kernel_rfl) rfl (fun w' hw' => ?_) hH5 ?_
              · have s0 : w'.cell? ⟨wr.heap.size, 0, none⟩ = some (.int .i64 10) := cell_of_block hw'.box 0
                have s9 := hw'.t1
                clear hw'
                go_simp
              simp only [Act.put, List.setIfInBounds_toArray, List.set_cons_zero, List.set_cons_succ]
              refine held_take (i := 23) (v := .int .i64 wh) 154 rfl rfl (by kernel_rfl) (by kernel_rfl) (by kernel_rfl) rfl (fun w' hw' => ?_) hH5 ?_
              · have s0 : w'.cell? ⟨wr.heap.size, 0, none⟩ = some (.int .i64 10) := cell_of_block hw'.box 0
                clear hw'
                go_simp
              simp only [Act.put, List.setIfInBounds_toArray, List.set_cons_zero, List.set_cons_succ]
              refine held_take (i := 24) (v := .pointer (some ⟨W7.heap.size + 1, wh, none⟩)) 155 rfl rfl (by kernel_rfl) (by kernel_rfl) (by kernel_rfl) rfl (fun w' hw' => ?_) hH5 ?_
              · have s0 : w'.cell? ⟨wr.heap.size, 0, none⟩ = some (.int .i64 10) := cell_of_block hw'.box 0
                clear hw'
                go_simp
              simp only [Act.put, List.setIfInBounds_toArray, List.set_cons_zero, List.set_cons_succ]
              refine held_take (i := 25) (v := .pointer (Q wh)) 156 rfl rfl (by kernel_rfl) (by kernel_rfl) (by kernel_rfl) rfl (fun w' hw' => ?_) hH5 ?_
              · have s0 : w'.cell? ⟨wr.heap.size, 0, none⟩ = some (.int .i64 10) := cell_of_block hw'.box 0
                have s9 := hw'.r1
                clear hw'
                go_simp
              simp only [Act.put, List.setIfInBounds_toArray, List.set_cons_zero, List.set_cons_succ]
              refine held_take (i := 26) (v := .agg #[.int .i64 10, .int .i64 who, .int .i64 to, .int .i64 lv, .int .u64 ad, .int .u64 wd, .int .u64 od, .int .u64 bh, .slice sp1 l1 sc1]) 157 rfl rfl (by kernel_rfl) (by kernel_rfl) (by kernel_rfl) rfl (fun w' hw' => ?_) hH5 ?_
              · have s0 : w'.cell? ⟨wr.heap.size, 0, none⟩ = some (.int .i64 10) := cell_of_block hw'.box 0
                have s1 : w'.cell? ⟨wr.heap.size, 1, none⟩ = some (.int .i64 who) := cell_of_block hw'.box 1
                have s2 : w'.cell? ⟨wr.heap.size, 2, none⟩ = some (.int .i64 to) := cell_of_block hw'.box 2
                have s3 : w'.cell? ⟨wr.heap.size, 3, none⟩ = some (.int .i64 lv) := cell_of_block hw'.box 3
                have s4 : w'.cell? ⟨wr.heap.size, 4, none⟩ = some (.int .u64 ad) := cell_of_block hw'.box 4
                have s5 : w'.cell? ⟨wr.heap.size, 5, none⟩ = some (.int .u64 wd) := cell_of_block hw'.box 5
                have s6 : w'.cell? ⟨wr.heap.size, 6, none⟩ = some (.int .u64 od) := cell_of_block hw'.box 6
                have s7 : w'.cell? ⟨wr.heap.size, 7, none⟩ = some (.int .u64 bh) := cell_of_block hw'.box 7
                have s8 : w'.cell? ⟨wr.heap.size, 8, none⟩ = some (.slice sp1 l1 sc1) := cell_of_block hw'.box 8
                clear hw'
                go_simp
              simp only [Act.put, List.setIfInBounds_toArray, List.set_cons_zero, List.set_cons_succ]
              refine held_call (i := 27) (f := 19) (args := #[.pointer (P wh), .pointer (Q wh), .agg #[.int .i64 10, .int .i64 who, .int .i64 to, .int .i64 lv, .int .u64 ad, .int .u64 wd, .int .u64 od, .int .u64 bh, .slice sp1 l1 sc1]]) 158 (by kernel_rfl) rfl rfl rfl (by go_simp) ?_
              refine (plays_other who to lv ad wd od bh sp1 l1 sc1 10 (P wh) (Q wh) _ (by omega)).mono ?_
              rintro e wZ ⟨rfl, kP⟩
              have T4 := T5.same kP
              have hbZ := kP.blk hb5 (fun f => f)
              have hHZ := T4.held hbZ hw3 ht3
              have hB4 := hB2.trans ((kD.from_drew.trans kP).below w.heap.size hB2.size (fun _ f => f.elim))
              refine ⟨_, rfl, hHZ, ?_⟩
              simp only [Act.put, List.setIfInBounds_toArray, List.set_cons_zero, List.set_cons_succ]
              clear kP kD T3 T5
              refine held_take (i := 28) (v := .bool false) 159 rfl rfl (by kernel_rfl) (by kernel_rfl) (by kernel_rfl) rfl (fun w' hw' => ?_) hHZ ?_
              · clear hw'
                go_simp
              simp only [Act.put, List.setIfInBounds_toArray, List.set_cons_zero, List.set_cons_succ]
              refine held_take (i := 29) (v := .bool false) 160 rfl rfl (by kernel_rfl) (by kernel_rfl) (by kernel_rfl) rfl (fun w' hw' => ?_) hHZ ?_
              · clear hw'
                go_simp
              simp only [Act.put, List.setIfInBounds_toArray, List.set_cons_zero, List.set_cons_succ]
              refine held_end (by kernel_rfl) ?_ _
              go_wp2
              go_roundw
              case rel => exact ⟨k1 + 1, _, _, _, by omega, by go_num, T4, hB4⟩
              case measure => simp [intOf]; omega
            ·
              have h10' : (kd == 10) = false := by simpa using h10
              have T3 := T2.same ((Keeps.refl (fun _ => False) W9).drew)
              have hplay := plays_any kd who to lv ad wd od bh sp1 l1 sc1 vs1 (P wh) (Q wh) (F wh) W9.drew (T3.both wh hw3) ad0 ad1 wd0 wd1 vlen (Reads.under vreads ⟨hB2.os, hB2.tape, hB2.output, hB2.size, hB2.block⟩) vnil vbytes vwf
                (fun h0 x hx hF => by
                  obtain ⟨a0, ha0, hc0⟩ := vreads 0 (by omega)
                  rw [hx] at ha0
                  cases ha0
                  have hlt0 := World.block_lt_of_cell? _ _ hc0
                  have : (x.add 0).block = x.block := by unfold Addr.add; split <;> rfl
                  rw [this] at hlt0
                  have := hup wh hw3 _ hF
                  omega)
              have nb : ¬ F wh wr.heap.size := fun f => by have := hup wh hw3 _ f; omega
              have hH := T3.held (bs := wr.heap.size) hb2 hw3 ht3
              clear vlen vreads vnil vbytes vwf y0 y1 y2 y3 y4 y5 y6 y7 y8
              go_wp2
              refine wp_region_held_end (S := Held wr.heap.size W7.heap.size (W7.heap.size + 1) #[.int .i64 kd, .int .i64 who, .int .i64 to, .int .i64 lv, .int .u64 ad, .int .u64 wd, .int .u64 od, .int .u64 bh, .slice sp1 l1 sc1] wh tt P Q) 30 rfl (by kernel_rfl) ?_
              refine held_take (i := 0) (v := .pointer (some ⟨wr.heap.size, 0, none⟩)) 131 rfl rfl (by kernel_rfl) (by kernel_rfl) (by kernel_rfl) rfl (fun w' hw' => ?_) hH ?_
              · have s0 : w'.cell? ⟨wr.heap.size, 0, none⟩ = some (.int .i64 kd) := cell_of_block hw'.box 0
                clear hw'
                go_simp
              simp only [Act.put, List.setIfInBounds_toArray, List.set_cons_zero, List.set_cons_succ]
              refine held_take (i := 1) (v := .int .i64 kd) 132 rfl rfl (by kernel_rfl) (by kernel_rfl) (by kernel_rfl) rfl (fun w' hw' => ?_) hH ?_
              · have s0 : w'.cell? ⟨wr.heap.size, 0, none⟩ = some (.int .i64 kd) := cell_of_block hw'.box 0
                clear hw'
                go_simp
              simp only [Act.put, List.setIfInBounds_toArray, List.set_cons_zero, List.set_cons_succ]
              refine held_take (i := 2) (v := .bool false) 133 rfl rfl (by kernel_rfl) (by kernel_rfl) (by kernel_rfl) rfl (fun w' hw' => ?_) hH ?_
              · have s0 : w'.cell? ⟨wr.heap.size, 0, none⟩ = some (.int .i64 kd) := cell_of_block hw'.box 0
                clear hw'
                go_simp
              simp only [Act.put, List.setIfInBounds_toArray, List.set_cons_zero, List.set_cons_succ]
              refine held_take (i := 3) (v := .bool false) 134 rfl rfl (by kernel_rfl) (by kernel_rfl) (by kernel_rfl) rfl (fun w' hw' => ?_) hH ?_
              · have s0 : w'.cell? ⟨wr.heap.size, 0, none⟩ = some (.int .i64 kd) := cell_of_block hw'.box 0
                clear hw'
                go_simp
              simp only [Act.put, List.setIfInBounds_toArray, List.set_cons_zero, List.set_cons_succ]
              refine held_skip (i := 4) 135 rfl rfl (by kernel_rfl) (by kernel_rfl) (by kernel_rfl) rfl hH ?_
              simp only [Act.put, List.setIfInBounds_toArray, List.set_cons_zero, List.set_cons_succ]
              refine held_skip (i := 5) 136 rfl rfl (by kernel_rfl) (by kernel_rfl) (by kernel_rfl) rfl hH ?_
              simp only [Act.put, List.setIfInBounds_toArray, List.set_cons_zero, List.set_cons_succ]
              refine held_skip (i := 6) 137 rfl rfl (by kernel_rfl) (by kernel_rfl) (by kernel_rfl) rfl hH ?_
              simp only [Act.put, List.setIfInBounds_toArray, List.set_cons_zero, List.set_cons_succ]
              refine held_skip (i := 7) 138 rfl rfl (by kernel_rfl) (by kernel_rfl) (by kernel_rfl) rfl hH ?_
              simp only [Act.put, List.setIfInBounds_toArray, List.set_cons_zero, List.set_cons_succ]
              refine held_skip (i := 8) 139 rfl rfl (by kernel_rfl) (by kernel_rfl) (by kernel_rfl) rfl hH ?_
              simp only [Act.put, List.setIfInBounds_toArray, List.set_cons_zero, List.set_cons_succ]
              refine held_skip (i := 9) 140 rfl rfl (by kernel_rfl) (by kernel_rfl) (by kernel_rfl) rfl hH ?_
              simp only [Act.put, List.setIfInBounds_toArray, List.set_cons_zero, List.set_cons_succ]
              refine held_skip (i := 10) 141 rfl rfl (by kernel_rfl) (by kernel_rfl) (by kernel_rfl) rfl hH ?_
              simp only [Act.put, List.setIfInBounds_toArray, List.set_cons_zero, List.set_cons_succ]
              refine held_skip (i := 11) 142 rfl rfl (by kernel_rfl) (by kernel_rfl) (by kernel_rfl) rfl hH ?_
              simp only [Act.put, List.setIfInBounds_toArray, List.set_cons_zero, List.set_cons_succ]
              refine held_skip (i := 12) 143 rfl rfl (by kernel_rfl) (by kernel_rfl) (by kernel_rfl) rfl hH ?_
              simp only [Act.put, List.setIfInBounds_toArray, List.set_cons_zero, List.set_cons_succ]
              refine held_skip (i := 13) 144 rfl rfl (by kernel_rfl) (by kernel_rfl) (by kernel_rfl) rfl hH ?_
              simp only [Act.put, List.setIfInBounds_toArray, List.set_cons_zero, List.set_cons_succ]
              refine held_skip (i := 14) 145 rfl rfl (by kernel_rfl) (by kernel_rfl) (by kernel_rfl) rfl hH ?_
              simp only [Act.put, List.setIfInBounds_toArray, List.set_cons_zero, List.set_cons_succ]
              refine held_skip (i := 15) 146 rfl rfl (by kernel_rfl) (by kernel_rfl) (by kernel_rfl) rfl hH ?_
              simp only [Act.put, List.setIfInBounds_toArray, List.set_cons_zero, List.set_cons_succ]
              refine held_skip (i := 16) 147 rfl rfl (by kernel_rfl) (by kernel_rfl) (by kernel_rfl) rfl hH ?_
              simp only [Act.put, List.setIfInBounds_toArray, List.set_cons_zero, List.set_cons_succ]
              refine held_skip (i := 17) 148 rfl rfl (by kernel_rfl) (by kernel_rfl) (by kernel_rfl) rfl hH ?_
              simp only [Act.put, List.setIfInBounds_toArray, List.set_cons_zero, List.set_cons_succ]
              refine held_take (i := 18) (v := .bool false) 149 rfl rfl (by kernel_rfl) (by kernel_rfl) (by kernel_rfl) rfl (fun w' hw' => ?_) hH ?_
              · have s0 : w'.cell? ⟨wr.heap.size, 0, none⟩ = some (.int .i64 kd) := cell_of_block hw'.box 0
                clear hw'
                go_simp
              simp only [Act.put, List.setIfInBounds_toArray, List.set_cons_zero, List.set_cons_succ]
              refine held_take (i := 19) (v := .bool false) 150 rfl rfl (by kernel_rfl) (by kernel_rfl) (by kernel_rfl) rfl (fun w' hw' => ?_) hH ?_
              · have s0 : w'.cell? ⟨wr.heap.size, 0, none⟩ = some (.int .i64 kd) := cell_of_block hw'.box 0
                clear hw'
                go_simp
              simp only [Act.put, List.setIfInBounds_toArray, List.set_cons_zero, List.set_cons_succ]
              refine held_take (i := 20) (v := .int .i64 wh) 151 rfl rfl (by kernel_rfl) (by kernel_rfl) (by kernel_rfl) rfl (fun w' hw' => ?_) hH ?_
              · have s0 : w'.cell? ⟨wr.heap.size, 0, none⟩ = some (.int .i64 kd) := cell_of_block hw'.box 0
                clear hw'
                go_simp
              simp only [Act.put, List.setIfInBounds_toArray, List.set_cons_zero, List.set_cons_succ]
              refine held_take (i := 21) (v := .pointer (some ⟨W7.heap.size, wh, none⟩)) 152 rfl rfl (by kernel_rfl) (by kernel_rfl) (by kernel_rfl) rfl (fun w' hw' => ?_) hH ?_
              · have s0 : w'.cell? ⟨wr.heap.size, 0, none⟩ = some (.int .i64 kd) := cell_of_block hw'.box 0
                clear hw'
                go_simp
              simp only [Act.put, List.setIfInBounds_toArray, List.set_cons_zero, List.set_cons_succ]
              refine held_take (i := 22) (v := .pointer (P wh)) 153 rfl rfl (by kernel_rfl) (by kernel_rfl) (by kernel_rfl) rfl (fun w' hw' => ?_) hH ?_
              · have s0 : w'.cell? ⟨wr.heap.size, 0, none⟩ = some (.int .i64 kd) := cell_of_block hw'.box 0
                have s9 := hw'.t1
                clear hw'
                go_simp
              simp only [Act.put, List.setIfInBounds_toArray, List.set_cons_zero, List.set_cons_succ]
              refine held_take (i := 23) (v := .int .i64 wh) 154 rfl rfl (by kernel_rfl) (by kernel_rfl) (by kernel_rfl) rfl (fun w' hw' => ?_) hH ?_
              · have s0 : w'.cell? ⟨wr.heap.size, 0, none⟩ = some (.int .i64 kd) := cell_of_block hw'.box 0
                clear hw'
                go_simp
              simp only [Act.put, List.setIfInBounds_toArray, List.set_cons_zero, List.set_cons_succ]
              refine held_take (i := 24) (v := .pointer (some ⟨W7.heap.size + 1, wh, none⟩)) 155 rfl rfl (by kernel_rfl) (by kernel_rfl) (by kernel_rfl) rfl (fun w' hw' => ?_) hH ?_
              · have s0 : w'.cell? ⟨wr.heap.size, 0, none⟩ = some (.int .i64 kd) := cell_of_block hw'.box 0
                clear hw'
                go_simp
              simp only [Act.put, List.setIfInBounds_toArray, List.set_cons_zero, List.set_cons_succ]
              refine held_take (i := 25) (v := .pointer (Q wh)) 156 rfl rfl (by kernel_rfl) (by kernel_rfl) (by kernel_rfl) rfl (fun w' hw' => ?_) hH ?_
              · have s0 : w'.cell? ⟨wr.heap.size, 0, none⟩ = some (.int .i64 kd) := cell_of_block hw'.box 0
                have s9 := hw'.r1
                clear hw'
                go_simp
              simp only [Act.put, List.setIfInBounds_toArray, List.set_cons_zero, List.set_cons_succ]
              refine held_take (i := 26) (v := .agg #[.int .i64 kd, .int .i64 who, .int .i64 to, .int .i64 lv, .int .u64 ad, .int .u64 wd, .int .u64 od, .int .u64 bh, .slice sp1 l1 sc1]) 157 rfl rfl (by kernel_rfl) (by kernel_rfl) (by kernel_rfl) rfl (fun w' hw' => ?_) hH ?_
              · have s0 : w'.cell? ⟨wr.heap.size, 0, none⟩ = some (.int .i64 kd) := cell_of_block hw'.box 0
                have s1 : w'.cell? ⟨wr.heap.size, 1, none⟩ = some (.int .i64 who) := cell_of_block hw'.box 1
                have s2 : w'.cell? ⟨wr.heap.size, 2, none⟩ = some (.int .i64 to) := cell_of_block hw'.box 2
                have s3 : w'.cell? ⟨wr.heap.size, 3, none⟩ = some (.int .i64 lv) := cell_of_block hw'.box 3
                have s4 : w'.cell? ⟨wr.heap.size, 4, none⟩ = some (.int .u64 ad) := cell_of_block hw'.box 4
                have s5 : w'.cell? ⟨wr.heap.size, 5, none⟩ = some (.int .u64 wd) := cell_of_block hw'.box 5
                have s6 : w'.cell? ⟨wr.heap.size, 6, none⟩ = some (.int .u64 od) := cell_of_block hw'.box 6
                have s7 : w'.cell? ⟨wr.heap.size, 7, none⟩ = some (.int .u64 bh) := cell_of_block hw'.box 7
                have s8 : w'.cell? ⟨wr.heap.size, 8, none⟩ = some (.slice sp1 l1 sc1) := cell_of_block hw'.box 8
                clear hw'
                go_simp
              simp only [Act.put, List.setIfInBounds_toArray, List.set_cons_zero, List.set_cons_succ]
              refine held_call (i := 27) (f := 19) (args := #[.pointer (P wh), .pointer (Q wh), .agg #[.int .i64 kd, .int .i64 who, .int .i64 to, .int .i64 lv, .int .u64 ad, .int .u64 wd, .int .u64 od, .int .u64 bh, .slice sp1 l1 sc1]]) 158 (by kernel_rfl) rfl rfl rfl (by go_simp) ?_
              refine hplay.mono ?_
              rintro e wZ ⟨rfl, hBB, kP⟩
              have T4 := T3.kept wh hw3 kP hBB
              have hbZ := kP.blk hb2 nb
              have hHZ := T4.held hbZ hw3 ht3
              refine ⟨_, rfl, hHZ, ?_⟩
              simp only [Act.put, List.setIfInBounds_toArray, List.set_cons_zero, List.set_cons_succ]
              have hB4 := hB2.trans (kP.from_drew.below w.heap.size hB2.size (fun x hx => (hup wh hw3 x hx).1))
              clear hplay hBB kP T3
              refine held_take (i := 28) (v := .bool false) 159 rfl rfl (by kernel_rfl) (by kernel_rfl) (by kernel_rfl) rfl (fun w' hw' => ?_) hHZ ?_
              · clear hw'
                go_simp
              simp only [Act.put, List.setIfInBounds_toArray, List.set_cons_zero, List.set_cons_succ]
              refine held_take (i := 29) (v := .bool false) 160 rfl rfl (by kernel_rfl) (by kernel_rfl) (by kernel_rfl) rfl (fun w' hw' => ?_) hHZ ?_
              · clear hw'
                go_simp
              simp only [Act.put, List.setIfInBounds_toArray, List.set_cons_zero, List.set_cons_succ]
              refine held_end (by kernel_rfl) ?_ _
              go_wp2
              go_roundw
              case rel => exact ⟨k1 + 1, _, _, _, by omega, by go_num, T4, hB4⟩
              case measure => simp [intOf]; omega
        · obtain rfl : k1 = m := by omega
          obtain ⟨WA, hWA⟩ : ∃ W1, W1 = wr := ⟨_, rfl⟩
          subst hWA
          go_wp2_with fail
          go_loopw [23] (fun i wr => ∃ k : Nat, k ≤ 3 ∧ i = .int .i64 k ∧ Three w.heap.size W7.heap.size (W7.heap.size + 1) wr P Q F ∧ Below w.heap.size w wr) (fun i _ => 3 - (intOf i).toNat)
          case atStart => exact ⟨0, by omega, rfl, T, hB⟩
          case round =>
            obtain ⟨k3, hk3, rfl, T3, hB3⟩ := hrel
            clear T hB
            by_cases hlt3 : k3 < 3
            · have hlt3' : (k3 : Int) < 3 := by omega
              have cT := T3.cellT k3 hlt3
              have cR := T3.cellR k3 hlt3
              have hcall := tells_any (P k3) (Q k3) (F k3) 0 (by omega) wr.drew ((T3.same ((Keeps.refl (fun _ => False) wr).drew)).both k3 hlt3)
              go_wp2
              go_region_held3 (fun w' => w'.cell? ⟨W7.heap.size, k3, none⟩ = some (.pointer (P k3)) ∧ w'.cell? ⟨W7.heap.size + 1, k3, none⟩ = some (.pointer (Q k3))) (first | go_keep | (exact ⟨oT, oR⟩))
                ((go_at_call 20; refine hcall.mono ?_; rintro e wB ⟨rfl, kP⟩; replace kP := kP.from_drew; have oT := kP.cell (fun f => f) cT; have oR := kP.cell (fun f => f) cR))
              have T4 := T3.same kP
              have hB4 := hB3.trans (kP.below w.heap.size hB3.size (fun _ f => f.elim))
              clear hcall
              go_wp2
              go_roundw
              case rel => exact ⟨k3 + 1, by omega, by go_num, T4, hB4⟩
              case measure => simp [intOf]; omega
            · obtain rfl : k3 = 3 := by omega
              go_wp2_with fail
              refine (known_any _).mono ?_
              rintro e wB ⟨rfl, kP⟩
              have hB4 := hB3.trans (kP.below w.heap.size hB3.size (fun _ f => f.elim))
              go_wp2_with fail
              go_ret
              exact ⟨rfl, hB4⟩

end Go.Proofs.Ytmffkcbdgpaieaa
