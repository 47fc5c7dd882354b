/-
  The walk of IndexMeanwhile. No statement of the seat is proved here.
-/
import Derived.Test.YtbhocajmcfdffaaDoorMwA
namespace Go.Proofs.YtbhocajmcfdffaaDoor
open Go.RowKit Go.Shelf
attribute [local go_sem] Oper.semAt_some

set_option maxRecDepth 100000 in
set_option maxHeartbeats 4000000 in
theorem mw_walk (vp vm vt : Value) (ps ms ts : List Int) (w : World) (hw : Tz w) (hp : Reads w vp ps) (hm : Reads w vm ms) (ht : Reads w vt ts) (hlp : ps.length ≤ 1048576) :
    Calls Tryd.prog 5 #[vp, vm, vt] w fun e w' => e = .returned (.bool true) ∧ Below w.heap.size w w' := by
  obtain ⟨ap, cp, rfl⟩ := hp.form
  obtain ⟨am, cm, rfl⟩ := hm.form
  obtain ⟨at', ct, rfl⟩ := ht.form
  refine (callsIn_wide (n := 5)).1 ?_
  refine callsIn_of_wp_marks Tryd.func5 rfl trivial ?_ rfl
  simp only [Tryd.ntmps5, List.size_toArray, List.length_cons, List.length_nil, Nat.reduceAdd, Nat.reduceSub, Array.replicate_succ, Array.replicate_zero, List.push_toArray, List.append_toArray, List.nil_append, List.cons_append]
  gi_wp2_with fail
  have hb0 : Below w.heap.size w (((w.alloc (.cells #[.slice am ms.length cm] 37)).alloc (.cells #[.slice at' ts.length ct] 37)).alloc (.cells #[.bool false] 4)) :=
    (((Below.refl _ w).alloc (Nat.le_refl _) _).alloc (by simp) _).alloc (by simp; omega) _
  have e0 := alloc_old (alloc_old (alloc_block w (.cells #[.slice am ms.length cm] 37)) (.cells #[.slice at' ts.length ct] 37)) (.cells #[.bool false] 4)
  have e1 := alloc_old (alloc_block (w.alloc (.cells #[.slice am ms.length cm] 37)) (.cells #[.slice at' ts.length ct] 37)) (.cells #[.bool false] 4)
  have e2 := alloc_block ((w.alloc (.cells #[.slice am ms.length cm] 37)).alloc (.cells #[.slice at' ts.length ct] 37)) (.cells #[.bool false] 4)
  simp only [World.size_alloc] at e1 e2
  generalize ((w.alloc (.cells #[.slice am ms.length cm] 37)).alloc (.cells #[.slice at' ts.length ct] 37)).alloc (.cells #[.bool false] 4) = W0 at hb0 e0 e1 e2 ⊢
  refine ⟨trivial, (callsIn_wide.2 (U.hold_new (wv (fun _ => 0)) W0)).mono ?_⟩
  rintro e w1 ⟨rfl, ⟨Ot, hHt, hOt⟩, hk1⟩
  gi_wp2_with fail
  have e3 := alloc_block w1 (.cells #[.pointer (some ⟨W0.heap.size + 2, 0, none⟩)] 23)
  have hHt1 := hHt.below ((Below.refl _ w1).alloc (Nat.le_refl _) (.cells #[.pointer (some ⟨W0.heap.size + 2, 0, none⟩)] 23))
  have hk1' := hk1.alloc (.cells #[.pointer (some ⟨W0.heap.size + 2, 0, none⟩)] 23)
  generalize hW1 : w1.alloc (.cells #[.pointer (some ⟨W0.heap.size + 2, 0, none⟩)] 23) = W1 at e3 hHt1 hk1' ⊢
  refine ⟨trivial, (callsIn_wide.2 (R.hold_new (fun _ => 0) W1)).mono ?_⟩
  rintro e w2 ⟨rfl, ⟨Or, hHr, hOr⟩, hk2⟩
  have hP0 := (pair_new hHt1 hOt hk1' hHr hOr hk2).rebase hb0
  have hbx : Bx w.heap.size w1.heap.size w2.heap.size (W0.heap.size + 2) (W1.heap.size + 1) (.slice am ms.length cm) (.slice at' ts.length ct) (w2.alloc (.cells #[.pointer (some ⟨W1.heap.size + 1, 0, none⟩)] 27)) :=
    ⟨alloc_old (hk2.old (hk1'.old e0 (fun f => f)) (fun f => f)) _, alloc_old (hk2.old (hk1'.old e1 (fun f => f)) (fun f => f)) _, alloc_old (hk2.old (hk1'.old e2 (fun f => f)) (fun f => f)) _, alloc_old (hk2.old e3 (fun f => f)) _, alloc_block w2 _⟩
  have hP1 := hP0.both ((Below.refl _ w2).alloc (Nat.le_refl _) (.cells #[.pointer (some ⟨W1.heap.size + 1, 0, none⟩)] 27))
  have hB7 : w.heap.size + 3 ≤ w1.heap.size := Nat.le_trans (lt_of_block e2) hk1.size
  have hB8 : w1.heap.size < w2.heap.size := Nat.lt_of_lt_of_le (lt_of_block e3) hk2.size
  generalize W0.heap.size + 2 = bt at *
  generalize W1.heap.size + 1 = br at *
  have hB8' : w2.heap.size < (w2.alloc (.cells #[.pointer (some ⟨br, 0, none⟩)] 27)).heap.size := by simp
  have x7 : (w2.alloc (.cells #[.pointer (some ⟨br, 0, none⟩)] 27)).cell? ⟨_, 0, none⟩ = some _ := cell_of_block hbx.t 0
  gi_wp2_with fail
  clear x7
  generalize w2.alloc (.cells #[.pointer (some ⟨br, 0, none⟩)] 27) = W2 at hbx hP1 hB8' ⊢
  generalize w1.heap.size = B7 at *
  generalize w2.heap.size = B8 at *
  clear hP0 hHr hOr hk2 hHt1 hOt hk1' hk1 hHt e0 e1 e2 e3 hb0
  gi_loopw [9] (fun i wr => ∃ (k p : Nat) (K : List (Option Int)) (O : List Int) (uf : Int → Int) (Ot Or : Nat → Prop), k ≤ ps.length ∧ i = .int .i64 k ∧ O.length ≤ k ∧ p ≤ 40 ∧ B8 < wr.heap.size ∧ Pair w wr bt br p K O uf Ot Or ∧ Bx w.heap.size B7 B8 bt br (.slice am ms.length cm) (.slice at' ts.length ct) wr) (fun i _ => ps.length - (intOf i).toNat)
  case atStart => exact ⟨0, 3, _, _, _, _, _, by omega, rfl, by simp, by omega, hB8', hP1, hbx⟩
  case round =>
    obtain ⟨k, p, K, O, uf, Ot, Or, hk, rfl, hOk, hp40, hB8', hP1, hbx⟩ := hrel
    by_cases hlt : k < ps.length
    · obtain ⟨g, off, rfl, hc⟩ := (hp.below hP1.below).at hlt
      obtain ⟨x, hx⟩ : ∃ x, oat ps k = x := ⟨_, rfl⟩
      rw [hx] at hc
      obtain ⟨u, hu⟩ : ∃ u : Int, u = (k : Int) + 7 := ⟨_, rfl⟩
      have hu64 : IntKind.u64.wrap (k : Int) = k := by rw [IntKind.wrap_u64]; omega
      have hu7 : IntKind.u64.wrap ((k : Int) + 7) = u := by rw [IntKind.wrap_u64, hu]; omega
      have hPW := hP1.like (W1 := wr.drew) ⟨rfl, rfl, rfl, rfl⟩
      have hbW : Bx w.heap.size B7 B8 bt br (.slice am ms.length cm) (.slice at' ts.length ct) wr.drew := hbx.turn (fun q c t hq _ => hq)
      have hg : Calls Tryd.prog 14 #[.pointer (some ⟨bt, 0, none⟩), .pointer (some ⟨br, 0, none⟩), .agg #[.int .i64 1, .int .i64 0, .int .i64 0, .int .i64 0, .int .u64 x, .int .u64 u]] wr.drew fun e w' => e = .returned (.bool true) ∧
          (w'.cell? ⟨B7, 0, none⟩ = some (.pointer (some ⟨bt, 0, none⟩)) ∧ w'.cell? ⟨B8, 0, none⟩ = some (.pointer (some ⟨br, 0, none⟩)) ∧ w'.cell? ⟨g, off + k, none⟩ = some (.int .u64 x)) ∧
            (Hid (∃ (p' : Nat) (K' : List (Option Int)) (O' : List Int) (uf' : Int → Int) (Ot' Or' : Nat → Prop), O'.length ≤ k + 1 ∧ p' ≤ 40 ∧ B8 < w'.heap.size ∧ Pair w w' bt br p' K' O' uf' Ot' Or' ∧ Bx w.heap.size B7 B8 bt br (.slice am ms.length cm) (.slice at' ts.length ct) w')) := by
        refine (plays_put w wr.drew bt br p K O uf Ot Or hPW hw 0 0 0 x u (by omega)).mono ?_
        rintro e w' ⟨rfl, Ot', Or', hP', hk'⟩
        have hbx' := hbW.turn (fun q c t hq ht => hPW.box hk' hq ht)
        have hWz : wr.heap.size ≤ w'.heap.size := hk'.size
        refine ⟨rfl, ⟨cell_of_block hbx'.t 0, cell_of_block hbx'.r 0, ?_⟩, _, _, _, _, _, _, by have := putO_le O x; omega, putP_le hp40 (by omega), by omega, hP', hbx'⟩
        obtain ⟨g2, o2, e, hc2⟩ := (hp.below hP'.below).at hlt
        injection e with e
        injection e with e1 e2
        subst e1 e2
        rw [hc2, hx]
      have hS0 : wr.drew.cell? ⟨B7, 0, none⟩ = some (.pointer (some ⟨bt, 0, none⟩)) ∧ wr.drew.cell? ⟨B8, 0, none⟩ = some (.pointer (some ⟨br, 0, none⟩)) ∧ wr.drew.cell? ⟨g, off + k, none⟩ = some (.int .u64 x) :=
        ⟨cell_of_block hbx.t 0, cell_of_block hbx.r 0, hc⟩
      clear hP1 hbx hc hu hx hPW hbW
      gi_wp2_with fail
      refine wpIn_wide.2 ?_
      go_region_held3 (fun W => W.cell? ⟨B7, 0, none⟩ = some (.pointer (some ⟨bt, 0, none⟩)) ∧ W.cell? ⟨B8, 0, none⟩ = some (.pointer (some ⟨br, 0, none⟩)) ∧ W.cell? ⟨g, off + k, none⟩ = some (.int .u64 x)) (assumption)
        ((go_at_call 14; refine hg.mono ?_; rintro e w6 ⟨rfl, hS6, hD6⟩))
      clear hg hS0
      gi_wp2_with fail
      obtain ⟨p', K', O', uf', Ot', Or', q1, q2, q3, q4, q5⟩ := hD6.out
      exact ⟨⟨k + 1, p', K', O', uf', Ot', Or', by omega, by go_num, q1, q2, q3, q4, q5⟩, by simp [intOf]; omega⟩
    · obtain rfl : k = ps.length := by omega
      clear hlt hk hp
      have hsz := hP1.below.size
      have hO0 : O.length ≤ 1048576 := by omega
      have x8 : wr.cell? ⟨_, 0, none⟩ = some _ := cell_of_block hbx.r 0
      gi_wp2_with fail
      refine ⟨trivial, (callsIn_wide.2 (R.copy_at br p K O uf Or wr hP1.r (by omega) (by omega))).mono ?_⟩
      rintro e w3 ⟨bw, v, rfl, ⟨Ow, hH, hOw⟩, hk3⟩
      obtain ⟨av, cv, rfl⟩ := hH.reads.form
      have hb3 := hk3.below _ (Nat.le_refl _) (fun _ f => f.elim)
      have hP3 := hP1.both hb3
      have hap : ∀ q, Ow q → ¬ (Ot q ∨ Or q) := fun q hq e => by
        have h1 := hOw q hq
        rcases e with e | e
        · have := hP1.t.lt e; omega
        · have := hP1.r.lt e; omega
      have hbx3 := hbx.turn (fun q c t hq _ => hk3.old hq (fun f => f))
      have hs3 := hk3.size
      clear hP1 hbx hk3 hOw x8
      have c7 := alloc_old hbx3.t (.cells #[.pointer (some ⟨bw, 0, none⟩)] 27)
      have x7 : (w3.alloc (.cells #[.pointer (some ⟨bw, 0, none⟩)] 27)).cell? ⟨_, 0, none⟩ = some _ := cell_of_block c7 0
      have hnf := func_not_nilU
      gi_wp2_with (refine ⟨trivial, ?_⟩; gi_at_call 19; refine (callsIn_wide.2 (U.all_any _ _)).mono ?_; rintro e w' ⟨rfl, rfl⟩)
      clear x7
      have hb5 : Below w3.heap.size w3 (((w3.alloc (.cells #[.pointer (some ⟨bw, 0, none⟩)] 27)).alloc (.cells #[.pointer (some ⟨bt, 0, none⟩)] 23)).alloc (.cells #[.int .i64 0] 3)) :=
        (((Below.refl _ w3).alloc (Nat.le_refl _) _).alloc (by simp) _).alloc (by simp; omega) _
      have e10 := alloc_old (alloc_old (alloc_block w3 (.cells #[.pointer (some ⟨bw, 0, none⟩)] 27)) (.cells #[.pointer (some ⟨bt, 0, none⟩)] 23)) (.cells #[.int .i64 0] 3)
      have e11 := alloc_old (alloc_block (w3.alloc (.cells #[.pointer (some ⟨bw, 0, none⟩)] 27)) (.cells #[.pointer (some ⟨bt, 0, none⟩)] 23)) (.cells #[.int .i64 0] 3)
      have e12 := alloc_block ((w3.alloc (.cells #[.pointer (some ⟨bw, 0, none⟩)] 27)).alloc (.cells #[.pointer (some ⟨bt, 0, none⟩)] 23)) (.cells #[.int .i64 0] 3)
      have hz5 : (((w3.alloc (.cells #[.pointer (some ⟨bw, 0, none⟩)] 27)).alloc (.cells #[.pointer (some ⟨bt, 0, none⟩)] 23)).alloc (.cells #[.int .i64 0] 3)).heap.size = w3.heap.size + 3 := by simp
      simp only [World.size_alloc] at e11 e12
      generalize ((w3.alloc (.cells #[.pointer (some ⟨bw, 0, none⟩)] 27)).alloc (.cells #[.pointer (some ⟨bt, 0, none⟩)] 23)).alloc (.cells #[.int .i64 0] 3) = W5 at hb5 e10 e11 e12 hz5 ⊢
      have hP5 := hP3.both hb5
      obtain ⟨s, e0', bf, hG, _⟩ := hP5.t
      have hI0 : MwI w B7 B8 w3.heap.size (w3.heap.size + 1 + 1) bt br bw (.slice am ms.length cm) (.slice at' ts.length ct) (.slice av O.length cv) p K O uf [] W5 :=
        ⟨⟨⟨p, K, O, uf, Ot, Or, Ow, hP5, hH.blocks (fun q hq => hb5.block q (hH.lt hq)), hap, by simp⟩, ⟨hbx3.turn (fun q c t hq _ => (hb5.block q (lt_of_block hq)).trans hq), e10, e12⟩⟩, by simp⟩
      have hB10 : B8 < w3.heap.size := by omega
      obtain ⟨B10, hB10e⟩ : ∃ B10, w3.heap.size = B10 := ⟨_, rfl⟩
      rw [hB10e] at hI0 hB10 e11 hz5 ⊢
      have HZ : Hid (W5.heap.size = B10 + 3) := hz5
      have hmany : O.length ≤ 4398046511104 := by omega
      have hwb := hP5.below.size
      clear hP5 hP3 hH hap hbx3 hb5 hb3 e10 e12 c7 hB10e hs3
      refine' range_own rfl (by omega) (gf := 61) (lb := #[.pointer (some ⟨B10 + 1, 0, none⟩)]) rfl trivial (enters_of Tryd.func61 (by kernel_rfl) rfl)
        (U.all_seq (5 - 1) (by omega) (B10 + 1) bt s e0' p K O bf uf W5 (cell_of_block e11 0) hG hmany) (Below.refl _ _)
        (fun h k => h.trans k) (fun W r r' hl => U.KeptNil.loop W _ r r' hl) (fun _ => rfl)
        (MwI w B7 B8 B10 (B10 + 1 + 1) bt br bw (.slice am ms.length cm) (.slice at' ts.length ct) (.slice av O.length cv) p K O uf)
        (fun _ pre X => (∀ j, pre ≠ (tellsL O uf).take j) ∧ Below w.heap.size w X)
        (mwI_own _ _ _ _ _ _ _ _ _ _ _ _ _ _ _ hwb) (fun _ pre X Y row ⟨h1, h2⟩ hg hr => ⟨h1, ownFrom_below (Nat.le_refl _) hwb pre X Y row h2 hg hr⟩)
        hI0 _ ?assign ?body ?done ?stop
      case assign =>
        intro l x W K hK
        gi_wp2
        exact hK
      case stop =>
        rintro c pre X ⟨j, hj, hpj⟩ ⟨hx, hB⟩ hK
        exact (hx (j + 1) hpj).elim
      case body =>
        rintro l pre ⟨k, u⟩ X ⟨hM, hpre⟩ hlen
        dsimp only
        obtain ⟨m, hm'⟩ : ∃ m, pre.length = m := ⟨_, rfl⟩
        rw [hm'] at hM hlen
        have HP : Hid (pre = (tellsL O uf).take pre.length) := hpre
        have HM : Hid (pre.length = m) := hm'
        have hmo : (oat O m) ∈ O := oat_mem hlen
        have hla : (m : Int) < (O.length : Int) := by omega
        have hga : decide (O.length ≤ m) = false := by simp; omega
        have hgb : ¬ (O.length : Int) ≤ (m : Int) := by omega
        have hgc : decide ((O.length : Int) ≤ (m : Int)) = false := decide_eq_false hgb
        have hmx : Tryd.prog.follows .mixedOrders = true := by kernel_rfl
        have x10 : X.cell? ⟨_, 0, none⟩ = some _ := cell_of_block hM.bx.was 0
        clear hpre hm' hI0 hG e11 hz5
        have hfacts : ∀ X1, Amid w B7 B8 B10 (B10 + 1 + 1) bt br bw (.slice am ms.length cm) (.slice at' ts.length ct) (.slice av O.length cv) p K O uf m (O.length + m) X1 → ∃ g off, av = some ⟨g, off, none⟩ ∧ X1.cell? ⟨g, off + m, none⟩ = some (.int .u64 (oat O m)) ∧ X1.cell? ⟨bw, 1, none⟩ = some (.slice av O.length cv) ∧ X1.cell? ⟨B10, 0, none⟩ = some (.pointer (some ⟨bw, 0, none⟩)) ∧ X1.cell? ⟨B10 + 1 + 1, 0, none⟩ = some (.int .i64 m) ∧ X1.cell? ⟨w.heap.size + 1 + 1, 0, none⟩ = some (.bool false) ∧ X1.frozen? ⟨w.heap.size + 1 + 1, 0, none⟩ = false := fun X1 h1 => by
          obtain ⟨Ow, hH⟩ := h1.had
          obtain ⟨g, off, e, hc⟩ := hH.reads.at hlen
          exact ⟨g, off, e, hc, hH.c1, cell_of_block h1.bx.was 0, cell_of_block h1.bx.n 0, cell_of_block h1.bx.bx.res 0, frozen_of_block h1.bx.bx.res 0⟩
        have hget := hM.get k
        by_cases hk : k = oat O m
        · have hk' : oat O m = k := hk.symm
          have HK : Hid (oat O m = k) := hk'
          rw [hk'] at hmo hfacts
          rw [if_pos hmo, decide_eq_true hmo] at hget
          clear hk hk' hmo
          by_cases hu : u = uf k
          · have HU : Hid (uf k = u) := hu.symm
            rw [← hu] at hget
            clear hu
            gi_wp2_with fail
            refine ⟨trivial, (CallsIn.inRound l (callsIn_wide.2 hget)).mono ?_⟩
            rintro e X1 ⟨rfl, nq, hX1⟩
            have hl1 : Like X1 X := hX1 ▸ like_drewN X nq
            have hM1 := hM.like hl1
            have hSt1 : Still W5.heap.size X X1 := Still.like hl1
            have hlenq : ∀ j, Calls Tryd.prog 21 #[.pointer (some ⟨bw, 0, none⟩)] (X1.drewN j) fun e w' => e = .returned (.int .i64 O.length) ∧ w' = X1.drewN j := fun j => (hM1.like (like_drewN X1 j)).len
            obtain ⟨g, off, hav, z1, z2, z3, z4, z5, z6⟩ := hfacts X1 hM1
            clear hX1 hl1 hM hget hfacts x10
            subst hav
            gi_wp2_with fail
            refine wpIn_round_quiet (by kernel_rfl) (by kernel_rfl) (by kernel_rfl) ?_
            repeat (go_big_quiet_step ((go_at_call 21; exact (hlenq _).mono (fun _ _ ⟨h1, h2⟩ => ⟨h1, _, h2⟩))))
            refine wpQuiet_nil ?_
            rintro _ ⟨nq2, rfl⟩
            have hM2 := hM1.like (like_drewN X1 nq2)
            have hSt2 : Still W5.heap.size X (X1.drewN nq2) := hSt1.trans (Still.like (like_drewN X1 nq2))
            clear z1 z2 z3 z4 z5 z6 hlenq hM1 hSt1
            gi_wp2_with fail
            generalize X1.drewN nq2 = X2 at hM2 hSt2 ⊢
            have hM2d := hM2.like (Y := X2.drew) ⟨rfl, rfl, rfl, rfl⟩
            have hSt2d : Still W5.heap.size X X2.drew := hSt2.trans (Still.like ⟨rfl, rfl, rfl, rfl⟩)
            clear hM2 hSt2
            by_cases hl1 : m < ms.length
            · by_cases hl2 : m < ts.length
              · skip
                obtain ⟨gx, ox, hxa, _⟩ := hm.at hl1
                subst hxa
                have HX : Hid (∀ W, Below w.heap.size w W → W.cell? ⟨gx, ox + m, none⟩ = some (.int .u64 (oat ms m))) := fun W hb => by
                  obtain ⟨g2, o2, e, hc⟩ := (hm.below hb).at hl1
                  injection e with e
                  injection e with e1 e2
                  subst e1 e2
                  exact hc
                generalize oat ms m = x at HX
                have d1 : (m : Int) < (ms.length : Int) := by omega
                obtain ⟨gy, oy, hya, _⟩ := ht.at hl2
                subst hya
                have HY : Hid (∀ W, Below w.heap.size w W → W.cell? ⟨gy, oy + m, none⟩ = some (.int .u64 (oat ts m))) := fun W hb => by
                  obtain ⟨g2, o2, e, hc⟩ := (ht.below hb).at hl2
                  injection e with e
                  injection e with e1 e2
                  subst e1 e2
                  exact hc
                generalize oat ts m = y at HY
                have d2 : (m : Int) < (ts.length : Int) := by omega
                have hsee : ∀ W Z, Amid w B7 B8 B10 (B10 + 1 + 1) bt br bw (.slice (some ⟨gx, ox, none⟩) ms.length cm) (.slice (some ⟨gy, oy, none⟩) ts.length ct) (.slice (some ⟨g, off, none⟩) O.length cv) p K O uf m Z W → W.cell? ⟨B10 + 1 + 1, 0, none⟩ = some (.int .i64 m) ∧ W.cell? ⟨w.heap.size, 0, none⟩ = some (.slice (some ⟨gx, ox, none⟩) ms.length cm) ∧ W.cell? ⟨w.heap.size + 1, 0, none⟩ = some (.slice (some ⟨gy, oy, none⟩) ts.length ct) ∧ W.cell? ⟨B7, 0, none⟩ = some (.pointer (some ⟨bt, 0, none⟩)) ∧ W.cell? ⟨B8, 0, none⟩ = some (.pointer (some ⟨br, 0, none⟩)) ∧ W.cell? ⟨gx, ox + m, none⟩ = some (.int .u64 x) ∧ W.cell? ⟨gy, oy + m, none⟩ = some (.int .u64 y) := fun W Z h =>
                  ⟨cell_of_block h.bx.n 0, cell_of_block h.bx.bx.more 0, cell_of_block h.bx.bx.take 0, cell_of_block h.bx.bx.t 0, cell_of_block h.bx.bx.r 0, HX.out _ h.below, HY.out _ h.below⟩
                have hS0 := hsee _ _ hM2d
                refine wpIn_round_held (S := fun W => W.cell? ⟨B10 + 1 + 1, 0, none⟩ = some (.int .i64 m) ∧ W.cell? ⟨w.heap.size, 0, none⟩ = some (.slice (some ⟨gx, ox, none⟩) ms.length cm) ∧ W.cell? ⟨w.heap.size + 1, 0, none⟩ = some (.slice (some ⟨gy, oy, none⟩) ts.length ct) ∧ W.cell? ⟨B7, 0, none⟩ = some (.pointer (some ⟨bt, 0, none⟩)) ∧ W.cell? ⟨B8, 0, none⟩ = some (.pointer (some ⟨br, 0, none⟩)) ∧ W.cell? ⟨gx, ox + m, none⟩ = some (.int .u64 x) ∧ W.cell? ⟨gy, oy + m, none⟩ = some (.int .u64 y)) 32 rfl hmx (by kernel_rfl) ?_
                refine held_take (i := 0) (v := .int .i64 m) 78 rfl rfl (by kernel_rfl) (by kernel_rfl) (by kernel_rfl) rfl (fun w' hw' => by obtain ⟨t1, t2, t3, t4, t5, t6, t7⟩ := hw'; go_simp) hS0 ?_
                simp only [Act.put, List.setIfInBounds_toArray, List.set_cons_zero, List.set_cons_succ]
                refine held_take (i := 1) (v := .slice (some ⟨gx, ox, none⟩) ms.length cm) 79 rfl rfl (by kernel_rfl) (by kernel_rfl) (by kernel_rfl) rfl (fun w' hw' => by obtain ⟨t1, t2, t3, t4, t5, t6, t7⟩ := hw'; go_simp) hS0 ?_
                simp only [Act.put, List.setIfInBounds_toArray, List.set_cons_zero, List.set_cons_succ]
                refine held_take (i := 2) (v := .int .i64 ms.length) 80 rfl rfl (by kernel_rfl) (by kernel_rfl) (by kernel_rfl) rfl (fun w' hw' => by obtain ⟨t1, t2, t3, t4, t5, t6, t7⟩ := hw'; go_simp) hS0 ?_
                simp only [Act.put, List.setIfInBounds_toArray, List.set_cons_zero, List.set_cons_succ]
                refine held_take (i := 3) (v := .bool true) 81 rfl rfl (by kernel_rfl) (by kernel_rfl) (by kernel_rfl) rfl (fun w' hw' => by obtain ⟨t1, t2, t3, t4, t5, t6, t7⟩ := hw'; go_simp) hS0 ?_
                simp only [Act.put, List.setIfInBounds_toArray, List.set_cons_zero, List.set_cons_succ]
                refine held_take (i := 4) (v := .bool true) 82 rfl rfl (by kernel_rfl) (by kernel_rfl) (by kernel_rfl) rfl (fun w' hw' => by obtain ⟨t1, t2, t3, t4, t5, t6, t7⟩ := hw'; go_simp) hS0 ?_
                simp only [Act.put, List.setIfInBounds_toArray, List.set_cons_zero, List.set_cons_succ]
                refine held_take (i := 5) (v := .pointer (some ⟨bt, 0, none⟩)) 83 rfl rfl (by kernel_rfl) (by kernel_rfl) (by kernel_rfl) rfl (fun w' hw' => by obtain ⟨t1, t2, t3, t4, t5, t6, t7⟩ := hw'; go_simp) hS0 ?_
                simp only [Act.put, List.setIfInBounds_toArray, List.set_cons_zero, List.set_cons_succ]
                refine held_take (i := 6) (v := .pointer (some ⟨br, 0, none⟩)) 84 rfl rfl (by kernel_rfl) (by kernel_rfl) (by kernel_rfl) rfl (fun w' hw' => by obtain ⟨t1, t2, t3, t4, t5, t6, t7⟩ := hw'; go_simp) hS0 ?_
                simp only [Act.put, List.setIfInBounds_toArray, List.set_cons_zero, List.set_cons_succ]
                refine held_take (i := 7) (v := .slice (some ⟨gx, ox, none⟩) ms.length cm) 85 rfl rfl (by kernel_rfl) (by kernel_rfl) (by kernel_rfl) rfl (fun w' hw' => by obtain ⟨t1, t2, t3, t4, t5, t6, t7⟩ := hw'; go_simp) hS0 ?_
                simp only [Act.put, List.setIfInBounds_toArray, List.set_cons_zero, List.set_cons_succ]
                refine held_take (i := 8) (v := .int .i64 m) 86 rfl rfl (by kernel_rfl) (by kernel_rfl) (by kernel_rfl) rfl (fun w' hw' => by obtain ⟨t1, t2, t3, t4, t5, t6, t7⟩ := hw'; go_simp) hS0 ?_
                simp only [Act.put, List.setIfInBounds_toArray, List.set_cons_zero, List.set_cons_succ]
                refine held_take (i := 9) (v := .pointer (some ⟨gx, ox + m, none⟩)) 87 rfl rfl (by kernel_rfl) (by kernel_rfl) (by kernel_rfl) rfl (fun w' hw' => by obtain ⟨t1, t2, t3, t4, t5, t6, t7⟩ := hw'; go_simp) hS0 ?_
                simp only [Act.put, List.setIfInBounds_toArray, List.set_cons_zero, List.set_cons_succ]
                refine held_take (i := 10) (v := .int .u64 x) 88 rfl rfl (by kernel_rfl) (by kernel_rfl) (by kernel_rfl) rfl (fun w' hw' => by obtain ⟨t1, t2, t3, t4, t5, t6, t7⟩ := hw'; go_simp) hS0 ?_
                simp only [Act.put, List.setIfInBounds_toArray, List.set_cons_zero, List.set_cons_succ]
                refine held_take (i := 11) (v := .agg #[.int .i64 1, .int .i64 0, .int .i64 0, .int .i64 0, .int .u64 x, .int .u64 1]) 89 rfl rfl (by kernel_rfl) (by kernel_rfl) (by kernel_rfl) rfl (fun w' hw' => by obtain ⟨t1, t2, t3, t4, t5, t6, t7⟩ := hw'; go_simp) hS0 ?_
                simp only [Act.put, List.setIfInBounds_toArray, List.set_cons_zero, List.set_cons_succ]
                refine held_call (i := 12) 90 (by kernel_rfl) rfl rfl rfl (by go_simp; rfl) ((hM2d.put hw (by omega) 0 0 0 x 1 W5.heap.size).mono ?_)
                rintro e Y1 ⟨rfl, hM3, hSt3⟩
                have hS3 := hsee _ _ hM3
                refine ⟨_, rfl, hS3, ?_⟩
                simp only [Act.put, List.setIfInBounds_toArray, List.set_cons_zero, List.set_cons_succ]
                refine held_take (i := 13) (v := .bool false) 91 rfl rfl (by kernel_rfl) (by kernel_rfl) (by kernel_rfl) rfl (fun w' hw' => by obtain ⟨t1, t2, t3, t4, t5, t6, t7⟩ := hw'; go_simp) hS3 ?_
                simp only [Act.put, List.setIfInBounds_toArray, List.set_cons_zero, List.set_cons_succ]
                refine held_take (i := 14) (v := .bool false) 92 rfl rfl (by kernel_rfl) (by kernel_rfl) (by kernel_rfl) rfl (fun w' hw' => by obtain ⟨t1, t2, t3, t4, t5, t6, t7⟩ := hw'; go_simp) hS3 ?_
                simp only [Act.put, List.setIfInBounds_toArray, List.set_cons_zero, List.set_cons_succ]
                refine held_take (i := 15) (v := .bool false) 93 rfl rfl (by kernel_rfl) (by kernel_rfl) (by kernel_rfl) rfl (fun w' hw' => by obtain ⟨t1, t2, t3, t4, t5, t6, t7⟩ := hw'; go_simp) hS3 ?_
                simp only [Act.put, List.setIfInBounds_toArray, List.set_cons_zero, List.set_cons_succ]
                refine held_take (i := 16) (v := .int .i64 m) 94 rfl rfl (by kernel_rfl) (by kernel_rfl) (by kernel_rfl) rfl (fun w' hw' => by obtain ⟨t1, t2, t3, t4, t5, t6, t7⟩ := hw'; go_simp) hS3 ?_
                simp only [Act.put, List.setIfInBounds_toArray, List.set_cons_zero, List.set_cons_succ]
                refine held_take (i := 17) (v := .slice (some ⟨gy, oy, none⟩) ts.length ct) 95 rfl rfl (by kernel_rfl) (by kernel_rfl) (by kernel_rfl) rfl (fun w' hw' => by obtain ⟨t1, t2, t3, t4, t5, t6, t7⟩ := hw'; go_simp) hS3 ?_
                simp only [Act.put, List.setIfInBounds_toArray, List.set_cons_zero, List.set_cons_succ]
                refine held_take (i := 18) (v := .int .i64 ts.length) 96 rfl rfl (by kernel_rfl) (by kernel_rfl) (by kernel_rfl) rfl (fun w' hw' => by obtain ⟨t1, t2, t3, t4, t5, t6, t7⟩ := hw'; go_simp) hS3 ?_
                simp only [Act.put, List.setIfInBounds_toArray, List.set_cons_zero, List.set_cons_succ]
                refine held_take (i := 19) (v := .bool true) 97 rfl rfl (by kernel_rfl) (by kernel_rfl) (by kernel_rfl) rfl (fun w' hw' => by obtain ⟨t1, t2, t3, t4, t5, t6, t7⟩ := hw'; go_simp) hS3 ?_
                simp only [Act.put, List.setIfInBounds_toArray, List.set_cons_zero, List.set_cons_succ]
                refine held_take (i := 20) (v := .bool true) 98 rfl rfl (by kernel_rfl) (by kernel_rfl) (by kernel_rfl) rfl (fun w' hw' => by obtain ⟨t1, t2, t3, t4, t5, t6, t7⟩ := hw'; go_simp) hS3 ?_
                simp only [Act.put, List.setIfInBounds_toArray, List.set_cons_zero, List.set_cons_succ]
                refine held_take (i := 21) (v := .pointer (some ⟨bt, 0, none⟩)) 99 rfl rfl (by kernel_rfl) (by kernel_rfl) (by kernel_rfl) rfl (fun w' hw' => by obtain ⟨t1, t2, t3, t4, t5, t6, t7⟩ := hw'; go_simp) hS3 ?_
                simp only [Act.put, List.setIfInBounds_toArray, List.set_cons_zero, List.set_cons_succ]
                refine held_take (i := 22) (v := .pointer (some ⟨br, 0, none⟩)) 100 rfl rfl (by kernel_rfl) (by kernel_rfl) (by kernel_rfl) rfl (fun w' hw' => by obtain ⟨t1, t2, t3, t4, t5, t6, t7⟩ := hw'; go_simp) hS3 ?_
                simp only [Act.put, List.setIfInBounds_toArray, List.set_cons_zero, List.set_cons_succ]
                refine held_take (i := 23) (v := .slice (some ⟨gy, oy, none⟩) ts.length ct) 101 rfl rfl (by kernel_rfl) (by kernel_rfl) (by kernel_rfl) rfl (fun w' hw' => by obtain ⟨t1, t2, t3, t4, t5, t6, t7⟩ := hw'; go_simp) hS3 ?_
                simp only [Act.put, List.setIfInBounds_toArray, List.set_cons_zero, List.set_cons_succ]
                refine held_take (i := 24) (v := .int .i64 m) 102 rfl rfl (by kernel_rfl) (by kernel_rfl) (by kernel_rfl) rfl (fun w' hw' => by obtain ⟨t1, t2, t3, t4, t5, t6, t7⟩ := hw'; go_simp) hS3 ?_
                simp only [Act.put, List.setIfInBounds_toArray, List.set_cons_zero, List.set_cons_succ]
                refine held_take (i := 25) (v := .pointer (some ⟨gy, oy + m, none⟩)) 103 rfl rfl (by kernel_rfl) (by kernel_rfl) (by kernel_rfl) rfl (fun w' hw' => by obtain ⟨t1, t2, t3, t4, t5, t6, t7⟩ := hw'; go_simp) hS3 ?_
                simp only [Act.put, List.setIfInBounds_toArray, List.set_cons_zero, List.set_cons_succ]
                refine held_take (i := 26) (v := .int .u64 y) 104 rfl rfl (by kernel_rfl) (by kernel_rfl) (by kernel_rfl) rfl (fun w' hw' => by obtain ⟨t1, t2, t3, t4, t5, t6, t7⟩ := hw'; go_simp) hS3 ?_
                simp only [Act.put, List.setIfInBounds_toArray, List.set_cons_zero, List.set_cons_succ]
                refine held_take (i := 27) (v := .agg #[.int .i64 3, .int .i64 0, .int .i64 0, .int .i64 0, .int .u64 y, .int .u64 0]) 105 rfl rfl (by kernel_rfl) (by kernel_rfl) (by kernel_rfl) rfl (fun w' hw' => by obtain ⟨t1, t2, t3, t4, t5, t6, t7⟩ := hw'; go_simp) hS3 ?_
                simp only [Act.put, List.setIfInBounds_toArray, List.set_cons_zero, List.set_cons_succ]
                refine held_call (i := 28) 106 (by kernel_rfl) rfl rfl rfl (by go_simp; rfl) ((hM3.took hw 0 0 0 y 0 W5.heap.size).mono ?_)
                rintro e Y2 ⟨rfl, hM4, hSt4⟩
                have hS4 := hsee _ _ hM4
                refine ⟨_, rfl, hS4, ?_⟩
                simp only [Act.put, List.setIfInBounds_toArray, List.set_cons_zero, List.set_cons_succ]
                refine held_take (i := 29) (v := .bool false) 107 rfl rfl (by kernel_rfl) (by kernel_rfl) (by kernel_rfl) rfl (fun w' hw' => by obtain ⟨t1, t2, t3, t4, t5, t6, t7⟩ := hw'; go_simp) hS4 ?_
                simp only [Act.put, List.setIfInBounds_toArray, List.set_cons_zero, List.set_cons_succ]
                refine held_take (i := 30) (v := .bool false) 108 rfl rfl (by kernel_rfl) (by kernel_rfl) (by kernel_rfl) rfl (fun w' hw' => by obtain ⟨t1, t2, t3, t4, t5, t6, t7⟩ := hw'; go_simp) hS4 ?_
                simp only [Act.put, List.setIfInBounds_toArray, List.set_cons_zero, List.set_cons_succ]
                refine held_take (i := 31) (v := .bool false) 109 rfl rfl (by kernel_rfl) (by kernel_rfl) (by kernel_rfl) rfl (fun w' hw' => by obtain ⟨t1, t2, t3, t4, t5, t6, t7⟩ := hw'; go_simp) hS4 ?_
                simp only [Act.put, List.setIfInBounds_toArray, List.set_cons_zero, List.set_cons_succ]
                refine held_end (by kernel_rfl) ?_ _
                obtain ⟨hM5, hSt5⟩ := Amid.count (hM4.mono (Z' := O.length + (m + 1)) (by omega)) (by omega) (by omega) (by omega) (by omega) ((m : Int) + 1) W5.heap.size
                have y1 := cell_of_block hM4.bx.n 0
                have y2 := frozen_of_block hM4.bx.n 0
                have hSt6 := ((hSt2d.trans hSt3).trans hSt4).trans hSt5
                clear hsee hS0 hM2d hSt2d hS3 hSt3 hS4 hSt4
                gi_wp2_with fail
                exact ⟨hSt6.1, hSt6.2, by rw [List.length_append, HM.out]; exact hM5, tellsL_snoc HP.out HM.out hlen HK.out HU.out⟩
              · skip
                obtain ⟨gx, ox, hxa, _⟩ := hm.at hl1
                subst hxa
                have HX : Hid (∀ W, Below w.heap.size w W → W.cell? ⟨gx, ox + m, none⟩ = some (.int .u64 (oat ms m))) := fun W hb => by
                  obtain ⟨g2, o2, e, hc⟩ := (hm.below hb).at hl1
                  injection e with e
                  injection e with e1 e2
                  subst e1 e2
                  exact hc
                generalize oat ms m = x at HX
                have d1 : (m : Int) < (ms.length : Int) := by omega
                have d2 : decide ((m : Int) < (ts.length : Int)) = false := decide_eq_false (by omega)
                have d2' : ¬ (m : Int) < (ts.length : Int) := by omega
                have hsee : ∀ W Z, Amid w B7 B8 B10 (B10 + 1 + 1) bt br bw (.slice (some ⟨gx, ox, none⟩) ms.length cm) (.slice at' ts.length ct) (.slice (some ⟨g, off, none⟩) O.length cv) p K O uf m Z W → W.cell? ⟨B10 + 1 + 1, 0, none⟩ = some (.int .i64 m) ∧ W.cell? ⟨w.heap.size, 0, none⟩ = some (.slice (some ⟨gx, ox, none⟩) ms.length cm) ∧ W.cell? ⟨w.heap.size + 1, 0, none⟩ = some (.slice at' ts.length ct) ∧ W.cell? ⟨B7, 0, none⟩ = some (.pointer (some ⟨bt, 0, none⟩)) ∧ W.cell? ⟨B8, 0, none⟩ = some (.pointer (some ⟨br, 0, none⟩)) ∧ W.cell? ⟨gx, ox + m, none⟩ = some (.int .u64 x) := fun W Z h =>
                  ⟨cell_of_block h.bx.n 0, cell_of_block h.bx.bx.more 0, cell_of_block h.bx.bx.take 0, cell_of_block h.bx.bx.t 0, cell_of_block h.bx.bx.r 0, HX.out _ h.below⟩
                have hS0 := hsee _ _ hM2d
                refine wpIn_round_held (S := fun W => W.cell? ⟨B10 + 1 + 1, 0, none⟩ = some (.int .i64 m) ∧ W.cell? ⟨w.heap.size, 0, none⟩ = some (.slice (some ⟨gx, ox, none⟩) ms.length cm) ∧ W.cell? ⟨w.heap.size + 1, 0, none⟩ = some (.slice at' ts.length ct) ∧ W.cell? ⟨B7, 0, none⟩ = some (.pointer (some ⟨bt, 0, none⟩)) ∧ W.cell? ⟨B8, 0, none⟩ = some (.pointer (some ⟨br, 0, none⟩)) ∧ W.cell? ⟨gx, ox + m, none⟩ = some (.int .u64 x)) 32 rfl hmx (by kernel_rfl) ?_
                refine held_take (i := 0) (v := .int .i64 m) 78 rfl rfl (by kernel_rfl) (by kernel_rfl) (by kernel_rfl) rfl (fun w' hw' => by obtain ⟨t1, t2, t3, t4, t5, t6⟩ := hw'; go_simp) hS0 ?_
                simp only [Act.put, List.setIfInBounds_toArray, List.set_cons_zero, List.set_cons_succ]
                refine held_take (i := 1) (v := .slice (some ⟨gx, ox, none⟩) ms.length cm) 79 rfl rfl (by kernel_rfl) (by kernel_rfl) (by kernel_rfl) rfl (fun w' hw' => by obtain ⟨t1, t2, t3, t4, t5, t6⟩ := hw'; go_simp) hS0 ?_
                simp only [Act.put, List.setIfInBounds_toArray, List.set_cons_zero, List.set_cons_succ]
                refine held_take (i := 2) (v := .int .i64 ms.length) 80 rfl rfl (by kernel_rfl) (by kernel_rfl) (by kernel_rfl) rfl (fun w' hw' => by obtain ⟨t1, t2, t3, t4, t5, t6⟩ := hw'; go_simp) hS0 ?_
                simp only [Act.put, List.setIfInBounds_toArray, List.set_cons_zero, List.set_cons_succ]
                refine held_take (i := 3) (v := .bool true) 81 rfl rfl (by kernel_rfl) (by kernel_rfl) (by kernel_rfl) rfl (fun w' hw' => by obtain ⟨t1, t2, t3, t4, t5, t6⟩ := hw'; go_simp) hS0 ?_
                simp only [Act.put, List.setIfInBounds_toArray, List.set_cons_zero, List.set_cons_succ]
                refine held_take (i := 4) (v := .bool true) 82 rfl rfl (by kernel_rfl) (by kernel_rfl) (by kernel_rfl) rfl (fun w' hw' => by obtain ⟨t1, t2, t3, t4, t5, t6⟩ := hw'; go_simp) hS0 ?_
                simp only [Act.put, List.setIfInBounds_toArray, List.set_cons_zero, List.set_cons_succ]
                refine held_take (i := 5) (v := .pointer (some ⟨bt, 0, none⟩)) 83 rfl rfl (by kernel_rfl) (by kernel_rfl) (by kernel_rfl) rfl (fun w' hw' => by obtain ⟨t1, t2, t3, t4, t5, t6⟩ := hw'; go_simp) hS0 ?_
                simp only [Act.put, List.setIfInBounds_toArray, List.set_cons_zero, List.set_cons_succ]
                refine held_take (i := 6) (v := .pointer (some ⟨br, 0, none⟩)) 84 rfl rfl (by kernel_rfl) (by kernel_rfl) (by kernel_rfl) rfl (fun w' hw' => by obtain ⟨t1, t2, t3, t4, t5, t6⟩ := hw'; go_simp) hS0 ?_
                simp only [Act.put, List.setIfInBounds_toArray, List.set_cons_zero, List.set_cons_succ]
                refine held_take (i := 7) (v := .slice (some ⟨gx, ox, none⟩) ms.length cm) 85 rfl rfl (by kernel_rfl) (by kernel_rfl) (by kernel_rfl) rfl (fun w' hw' => by obtain ⟨t1, t2, t3, t4, t5, t6⟩ := hw'; go_simp) hS0 ?_
                simp only [Act.put, List.setIfInBounds_toArray, List.set_cons_zero, List.set_cons_succ]
                refine held_take (i := 8) (v := .int .i64 m) 86 rfl rfl (by kernel_rfl) (by kernel_rfl) (by kernel_rfl) rfl (fun w' hw' => by obtain ⟨t1, t2, t3, t4, t5, t6⟩ := hw'; go_simp) hS0 ?_
                simp only [Act.put, List.setIfInBounds_toArray, List.set_cons_zero, List.set_cons_succ]
                refine held_take (i := 9) (v := .pointer (some ⟨gx, ox + m, none⟩)) 87 rfl rfl (by kernel_rfl) (by kernel_rfl) (by kernel_rfl) rfl (fun w' hw' => by obtain ⟨t1, t2, t3, t4, t5, t6⟩ := hw'; go_simp) hS0 ?_
                simp only [Act.put, List.setIfInBounds_toArray, List.set_cons_zero, List.set_cons_succ]
                refine held_take (i := 10) (v := .int .u64 x) 88 rfl rfl (by kernel_rfl) (by kernel_rfl) (by kernel_rfl) rfl (fun w' hw' => by obtain ⟨t1, t2, t3, t4, t5, t6⟩ := hw'; go_simp) hS0 ?_
                simp only [Act.put, List.setIfInBounds_toArray, List.set_cons_zero, List.set_cons_succ]
                refine held_take (i := 11) (v := .agg #[.int .i64 1, .int .i64 0, .int .i64 0, .int .i64 0, .int .u64 x, .int .u64 1]) 89 rfl rfl (by kernel_rfl) (by kernel_rfl) (by kernel_rfl) rfl (fun w' hw' => by obtain ⟨t1, t2, t3, t4, t5, t6⟩ := hw'; go_simp) hS0 ?_
                simp only [Act.put, List.setIfInBounds_toArray, List.set_cons_zero, List.set_cons_succ]
                refine held_call (i := 12) 90 (by kernel_rfl) rfl rfl rfl (by go_simp; rfl) ((hM2d.put hw (by omega) 0 0 0 x 1 W5.heap.size).mono ?_)
                rintro e Y1 ⟨rfl, hM3, hSt3⟩
                have hS3 := hsee _ _ hM3
                refine ⟨_, rfl, hS3, ?_⟩
                simp only [Act.put, List.setIfInBounds_toArray, List.set_cons_zero, List.set_cons_succ]
                refine held_take (i := 13) (v := .bool false) 91 rfl rfl (by kernel_rfl) (by kernel_rfl) (by kernel_rfl) rfl (fun w' hw' => by obtain ⟨t1, t2, t3, t4, t5, t6⟩ := hw'; go_simp) hS3 ?_
                simp only [Act.put, List.setIfInBounds_toArray, List.set_cons_zero, List.set_cons_succ]
                refine held_take (i := 14) (v := .bool false) 92 rfl rfl (by kernel_rfl) (by kernel_rfl) (by kernel_rfl) rfl (fun w' hw' => by obtain ⟨t1, t2, t3, t4, t5, t6⟩ := hw'; go_simp) hS3 ?_
                simp only [Act.put, List.setIfInBounds_toArray, List.set_cons_zero, List.set_cons_succ]
                refine held_take (i := 15) (v := .bool false) 93 rfl rfl (by kernel_rfl) (by kernel_rfl) (by kernel_rfl) rfl (fun w' hw' => by obtain ⟨t1, t2, t3, t4, t5, t6⟩ := hw'; go_simp) hS3 ?_
                simp only [Act.put, List.setIfInBounds_toArray, List.set_cons_zero, List.set_cons_succ]
                refine held_take (i := 16) (v := .int .i64 m) 94 rfl rfl (by kernel_rfl) (by kernel_rfl) (by kernel_rfl) rfl (fun w' hw' => by obtain ⟨t1, t2, t3, t4, t5, t6⟩ := hw'; go_simp) hS3 ?_
                simp only [Act.put, List.setIfInBounds_toArray, List.set_cons_zero, List.set_cons_succ]
                refine held_take (i := 17) (v := .slice at' ts.length ct) 95 rfl rfl (by kernel_rfl) (by kernel_rfl) (by kernel_rfl) rfl (fun w' hw' => by obtain ⟨t1, t2, t3, t4, t5, t6⟩ := hw'; go_simp) hS3 ?_
                simp only [Act.put, List.setIfInBounds_toArray, List.set_cons_zero, List.set_cons_succ]
                refine held_take (i := 18) (v := .int .i64 ts.length) 96 rfl rfl (by kernel_rfl) (by kernel_rfl) (by kernel_rfl) rfl (fun w' hw' => by obtain ⟨t1, t2, t3, t4, t5, t6⟩ := hw'; go_simp) hS3 ?_
                simp only [Act.put, List.setIfInBounds_toArray, List.set_cons_zero, List.set_cons_succ]
                refine held_take (i := 19) (v := .bool false) 97 rfl rfl (by kernel_rfl) (by kernel_rfl) (by kernel_rfl) rfl (fun w' hw' => by obtain ⟨t1, t2, t3, t4, t5, t6⟩ := hw'; go_simp) hS3 ?_
                simp only [Act.put, List.setIfInBounds_toArray, List.set_cons_zero, List.set_cons_succ]
                refine held_take (i := 20) (v := .bool false) 98 rfl rfl (by kernel_rfl) (by kernel_rfl) (by kernel_rfl) rfl (fun w' hw' => by obtain ⟨t1, t2, t3, t4, t5, t6⟩ := hw'; go_simp) hS3 ?_
                simp only [Act.put, List.setIfInBounds_toArray, List.set_cons_zero, List.set_cons_succ]
                refine held_skip (i := 21) 99 rfl rfl (by kernel_rfl) (by kernel_rfl) (by kernel_rfl) rfl hS3 ?_
                simp only [Act.put, List.setIfInBounds_toArray, List.set_cons_zero, List.set_cons_succ]
                refine held_skip (i := 22) 100 rfl rfl (by kernel_rfl) (by kernel_rfl) (by kernel_rfl) rfl hS3 ?_
                simp only [Act.put, List.setIfInBounds_toArray, List.set_cons_zero, List.set_cons_succ]
                refine held_skip (i := 23) 101 rfl rfl (by kernel_rfl) (by kernel_rfl) (by kernel_rfl) rfl hS3 ?_
                simp only [Act.put, List.setIfInBounds_toArray, List.set_cons_zero, List.set_cons_succ]
                refine held_skip (i := 24) 102 rfl rfl (by kernel_rfl) (by kernel_rfl) (by kernel_rfl) rfl hS3 ?_
                simp only [Act.put, List.setIfInBounds_toArray, List.set_cons_zero, List.set_cons_succ]
                refine held_skip (i := 25) 103 rfl rfl (by kernel_rfl) (by kernel_rfl) (by kernel_rfl) rfl hS3 ?_
                simp only [Act.put, List.setIfInBounds_toArray, List.set_cons_zero, List.set_cons_succ]
                refine held_skip (i := 26) 104 rfl rfl (by kernel_rfl) (by kernel_rfl) (by kernel_rfl) rfl hS3 ?_
                simp only [Act.put, List.setIfInBounds_toArray, List.set_cons_zero, List.set_cons_succ]
                refine held_skip (i := 27) 105 rfl rfl (by kernel_rfl) (by kernel_rfl) (by kernel_rfl) rfl hS3 ?_
                simp only [Act.put, List.setIfInBounds_toArray, List.set_cons_zero, List.set_cons_succ]
                refine held_skip (i := 28) 106 rfl rfl (by kernel_rfl) (by kernel_rfl) (by kernel_rfl) rfl hS3 ?_
                simp only [Act.put, List.setIfInBounds_toArray, List.set_cons_zero, List.set_cons_succ]
                refine held_skip (i := 29) 107 rfl rfl (by kernel_rfl) (by kernel_rfl) (by kernel_rfl) rfl hS3 ?_
                simp only [Act.put, List.setIfInBounds_toArray, List.set_cons_zero, List.set_cons_succ]
                refine held_take (i := 30) (v := .bool false) 108 rfl rfl (by kernel_rfl) (by kernel_rfl) (by kernel_rfl) rfl (fun w' hw' => by obtain ⟨t1, t2, t3, t4, t5, t6⟩ := hw'; go_simp) hS3 ?_
                simp only [Act.put, List.setIfInBounds_toArray, List.set_cons_zero, List.set_cons_succ]
                refine held_take (i := 31) (v := .bool false) 109 rfl rfl (by kernel_rfl) (by kernel_rfl) (by kernel_rfl) rfl (fun w' hw' => by obtain ⟨t1, t2, t3, t4, t5, t6⟩ := hw'; go_simp) hS3 ?_
                simp only [Act.put, List.setIfInBounds_toArray, List.set_cons_zero, List.set_cons_succ]
                refine held_end (by kernel_rfl) ?_ _
                obtain ⟨hM5, hSt5⟩ := Amid.count (hM3.mono (Z' := O.length + (m + 1)) (by omega)) (by omega) (by omega) (by omega) (by omega) ((m : Int) + 1) W5.heap.size
                have y1 := cell_of_block hM3.bx.n 0
                have y2 := frozen_of_block hM3.bx.n 0
                have hSt6 := (hSt2d.trans hSt3).trans hSt5
                clear hsee hS0 hM2d hSt2d hS3 hSt3
                gi_wp2_with fail
                exact ⟨hSt6.1, hSt6.2, by rw [List.length_append, HM.out]; exact hM5, tellsL_snoc HP.out HM.out hlen HK.out HU.out⟩
            · by_cases hl2 : m < ts.length
              · skip
                have d1 : decide ((m : Int) < (ms.length : Int)) = false := decide_eq_false (by omega)
                have d1' : ¬ (m : Int) < (ms.length : Int) := by omega
                obtain ⟨gy, oy, hya, _⟩ := ht.at hl2
                subst hya
                have HY : Hid (∀ W, Below w.heap.size w W → W.cell? ⟨gy, oy + m, none⟩ = some (.int .u64 (oat ts m))) := fun W hb => by
                  obtain ⟨g2, o2, e, hc⟩ := (ht.below hb).at hl2
                  injection e with e
                  injection e with e1 e2
                  subst e1 e2
                  exact hc
                generalize oat ts m = y at HY
                have d2 : (m : Int) < (ts.length : Int) := by omega
                have hsee : ∀ W Z, Amid w B7 B8 B10 (B10 + 1 + 1) bt br bw (.slice am ms.length cm) (.slice (some ⟨gy, oy, none⟩) ts.length ct) (.slice (some ⟨g, off, none⟩) O.length cv) p K O uf m Z W → W.cell? ⟨B10 + 1 + 1, 0, none⟩ = some (.int .i64 m) ∧ W.cell? ⟨w.heap.size, 0, none⟩ = some (.slice am ms.length cm) ∧ W.cell? ⟨w.heap.size + 1, 0, none⟩ = some (.slice (some ⟨gy, oy, none⟩) ts.length ct) ∧ W.cell? ⟨B7, 0, none⟩ = some (.pointer (some ⟨bt, 0, none⟩)) ∧ W.cell? ⟨B8, 0, none⟩ = some (.pointer (some ⟨br, 0, none⟩)) ∧ W.cell? ⟨gy, oy + m, none⟩ = some (.int .u64 y) := fun W Z h =>
                  ⟨cell_of_block h.bx.n 0, cell_of_block h.bx.bx.more 0, cell_of_block h.bx.bx.take 0, cell_of_block h.bx.bx.t 0, cell_of_block h.bx.bx.r 0, HY.out _ h.below⟩
                have hS0 := hsee _ _ hM2d
                refine wpIn_round_held (S := fun W => W.cell? ⟨B10 + 1 + 1, 0, none⟩ = some (.int .i64 m) ∧ W.cell? ⟨w.heap.size, 0, none⟩ = some (.slice am ms.length cm) ∧ W.cell? ⟨w.heap.size + 1, 0, none⟩ = some (.slice (some ⟨gy, oy, none⟩) ts.length ct) ∧ W.cell? ⟨B7, 0, none⟩ = some (.pointer (some ⟨bt, 0, none⟩)) ∧ W.cell? ⟨B8, 0, none⟩ = some (.pointer (some ⟨br, 0, none⟩)) ∧ W.cell? ⟨gy, oy + m, none⟩ = some (.int .u64 y)) 32 rfl hmx (by kernel_rfl) ?_
                refine held_take (i := 0) (v := .int .i64 m) 78 rfl rfl (by kernel_rfl) (by kernel_rfl) (by kernel_rfl) rfl (fun w' hw' => by obtain ⟨t1, t2, t3, t4, t5, t6⟩ := hw'; go_simp) hS0 ?_
                simp only [Act.put, List.setIfInBounds_toArray, List.set_cons_zero, List.set_cons_succ]
                refine held_take (i := 1) (v := .slice am ms.length cm) 79 rfl rfl (by kernel_rfl) (by kernel_rfl) (by kernel_rfl) rfl (fun w' hw' => by obtain ⟨t1, t2, t3, t4, t5, t6⟩ := hw'; go_simp) hS0 ?_
                simp only [Act.put, List.setIfInBounds_toArray, List.set_cons_zero, List.set_cons_succ]
                refine held_take (i := 2) (v := .int .i64 ms.length) 80 rfl rfl (by kernel_rfl) (by kernel_rfl) (by kernel_rfl) rfl (fun w' hw' => by obtain ⟨t1, t2, t3, t4, t5, t6⟩ := hw'; go_simp) hS0 ?_
                simp only [Act.put, List.setIfInBounds_toArray, List.set_cons_zero, List.set_cons_succ]
                refine held_take (i := 3) (v := .bool false) 81 rfl rfl (by kernel_rfl) (by kernel_rfl) (by kernel_rfl) rfl (fun w' hw' => by obtain ⟨t1, t2, t3, t4, t5, t6⟩ := hw'; go_simp) hS0 ?_
                simp only [Act.put, List.setIfInBounds_toArray, List.set_cons_zero, List.set_cons_succ]
                refine held_take (i := 4) (v := .bool false) 82 rfl rfl (by kernel_rfl) (by kernel_rfl) (by kernel_rfl) rfl (fun w' hw' => by obtain ⟨t1, t2, t3, t4, t5, t6⟩ := hw'; go_simp) hS0 ?_
                simp only [Act.put, List.setIfInBounds_toArray, List.set_cons_zero, List.set_cons_succ]
                refine held_skip (i := 5) 83 rfl rfl (by kernel_rfl) (by kernel_rfl) (by kernel_rfl) rfl hS0 ?_
                simp only [Act.put, List.setIfInBounds_toArray, List.set_cons_zero, List.set_cons_succ]
                refine held_skip (i := 6) 84 rfl rfl (by kernel_rfl) (by kernel_rfl) (by kernel_rfl) rfl hS0 ?_
                simp only [Act.put, List.setIfInBounds_toArray, List.set_cons_zero, List.set_cons_succ]
                refine held_skip (i := 7) 85 rfl rfl (by kernel_rfl) (by kernel_rfl) (by kernel_rfl) rfl hS0 ?_
                simp only [Act.put, List.setIfInBounds_toArray, List.set_cons_zero, List.set_cons_succ]
                refine held_skip (i := 8) 86 rfl rfl (by kernel_rfl) (by kernel_rfl) (by kernel_rfl) rfl hS0 ?_
                simp only [Act.put, List.setIfInBounds_toArray, List.set_cons_zero, List.set_cons_succ]
                refine held_skip (i := 9) 87 rfl rfl (by kernel_rfl) (by kernel_rfl) (by kernel_rfl) rfl hS0 ?_
                simp only [Act.put, List.setIfInBounds_toArray, List.set_cons_zero, List.set_cons_succ]
                refine held_skip (i := 10) 88 rfl rfl (by kernel_rfl) (by kernel_rfl) (by kernel_rfl) rfl hS0 ?_
                simp only [Act.put, List.setIfInBounds_toArray, List.set_cons_zero, List.set_cons_succ]
                refine held_skip (i := 11) 89 rfl rfl (by kernel_rfl) (by kernel_rfl) (by kernel_rfl) rfl hS0 ?_
                simp only [Act.put, List.setIfInBounds_toArray, List.set_cons_zero, List.set_cons_succ]
                refine held_skip (i := 12) 90 rfl rfl (by kernel_rfl) (by kernel_rfl) (by kernel_rfl) rfl hS0 ?_
                simp only [Act.put, List.setIfInBounds_toArray, List.set_cons_zero, List.set_cons_succ]
                refine held_skip (i := 13) 91 rfl rfl (by kernel_rfl) (by kernel_rfl) (by kernel_rfl) rfl hS0 ?_
                simp only [Act.put, List.setIfInBounds_toArray, List.set_cons_zero, List.set_cons_succ]
                refine held_take (i := 14) (v := .bool false) 92 rfl rfl (by kernel_rfl) (by kernel_rfl) (by kernel_rfl) rfl (fun w' hw' => by obtain ⟨t1, t2, t3, t4, t5, t6⟩ := hw'; go_simp) hS0 ?_
                simp only [Act.put, List.setIfInBounds_toArray, List.set_cons_zero, List.set_cons_succ]
                refine held_take (i := 15) (v := .bool false) 93 rfl rfl (by kernel_rfl) (by kernel_rfl) (by kernel_rfl) rfl (fun w' hw' => by obtain ⟨t1, t2, t3, t4, t5, t6⟩ := hw'; go_simp) hS0 ?_
                simp only [Act.put, List.setIfInBounds_toArray, List.set_cons_zero, List.set_cons_succ]
                refine held_take (i := 16) (v := .int .i64 m) 94 rfl rfl (by kernel_rfl) (by kernel_rfl) (by kernel_rfl) rfl (fun w' hw' => by obtain ⟨t1, t2, t3, t4, t5, t6⟩ := hw'; go_simp) hS0 ?_
                simp only [Act.put, List.setIfInBounds_toArray, List.set_cons_zero, List.set_cons_succ]
                refine held_take (i := 17) (v := .slice (some ⟨gy, oy, none⟩) ts.length ct) 95 rfl rfl (by kernel_rfl) (by kernel_rfl) (by kernel_rfl) rfl (fun w' hw' => by obtain ⟨t1, t2, t3, t4, t5, t6⟩ := hw'; go_simp) hS0 ?_
                simp only [Act.put, List.setIfInBounds_toArray, List.set_cons_zero, List.set_cons_succ]
                refine held_take (i := 18) (v := .int .i64 ts.length) 96 rfl rfl (by kernel_rfl) (by kernel_rfl) (by kernel_rfl) rfl (fun w' hw' => by obtain ⟨t1, t2, t3, t4, t5, t6⟩ := hw'; go_simp) hS0 ?_
                simp only [Act.put, List.setIfInBounds_toArray, List.set_cons_zero, List.set_cons_succ]
                refine held_take (i := 19) (v := .bool true) 97 rfl rfl (by kernel_rfl) (by kernel_rfl) (by kernel_rfl) rfl (fun w' hw' => by obtain ⟨t1, t2, t3, t4, t5, t6⟩ := hw'; go_simp) hS0 ?_
                simp only [Act.put, List.setIfInBounds_toArray, List.set_cons_zero, List.set_cons_succ]
                refine held_take (i := 20) (v := .bool true) 98 rfl rfl (by kernel_rfl) (by kernel_rfl) (by kernel_rfl) rfl (fun w' hw' => by obtain ⟨t1, t2, t3, t4, t5, t6⟩ := hw'; go_simp) hS0 ?_
                simp only [Act.put, List.setIfInBounds_toArray, List.set_cons_zero, List.set_cons_succ]
                refine held_take (i := 21) (v := .pointer (some ⟨bt, 0, none⟩)) 99 rfl rfl (by kernel_rfl) (by kernel_rfl) (by kernel_rfl) rfl (fun w' hw' => by obtain ⟨t1, t2, t3, t4, t5, t6⟩ := hw'; go_simp) hS0 ?_
                simp only [Act.put, List.setIfInBounds_toArray, List.set_cons_zero, List.set_cons_succ]
                refine held_take (i := 22) (v := .pointer (some ⟨br, 0, none⟩)) 100 rfl rfl (by kernel_rfl) (by kernel_rfl) (by kernel_rfl) rfl (fun w' hw' => by obtain ⟨t1, t2, t3, t4, t5, t6⟩ := hw'; go_simp) hS0 ?_
                simp only [Act.put, List.setIfInBounds_toArray, List.set_cons_zero, List.set_cons_succ]
                refine held_take (i := 23) (v := .slice (some ⟨gy, oy, none⟩) ts.length ct) 101 rfl rfl (by kernel_rfl) (by kernel_rfl) (by kernel_rfl) rfl (fun w' hw' => by obtain ⟨t1, t2, t3, t4, t5, t6⟩ := hw'; go_simp) hS0 ?_
                simp only [Act.put, List.setIfInBounds_toArray, List.set_cons_zero, List.set_cons_succ]
                refine held_take (i := 24) (v := .int .i64 m) 102 rfl rfl (by kernel_rfl) (by kernel_rfl) (by kernel_rfl) rfl (fun w' hw' => by obtain ⟨t1, t2, t3, t4, t5, t6⟩ := hw'; go_simp) hS0 ?_
                simp only [Act.put, List.setIfInBounds_toArray, List.set_cons_zero, List.set_cons_succ]
                refine held_take (i := 25) (v := .pointer (some ⟨gy, oy + m, none⟩)) 103 rfl rfl (by kernel_rfl) (by kernel_rfl) (by kernel_rfl) rfl (fun w' hw' => by obtain ⟨t1, t2, t3, t4, t5, t6⟩ := hw'; go_simp) hS0 ?_
                simp only [Act.put, List.setIfInBounds_toArray, List.set_cons_zero, List.set_cons_succ]
                refine held_take (i := 26) (v := .int .u64 y) 104 rfl rfl (by kernel_rfl) (by kernel_rfl) (by kernel_rfl) rfl (fun w' hw' => by obtain ⟨t1, t2, t3, t4, t5, t6⟩ := hw'; go_simp) hS0 ?_
                simp only [Act.put, List.setIfInBounds_toArray, List.set_cons_zero, List.set_cons_succ]
                refine held_take (i := 27) (v := .agg #[.int .i64 3, .int .i64 0, .int .i64 0, .int .i64 0, .int .u64 y, .int .u64 0]) 105 rfl rfl (by kernel_rfl) (by kernel_rfl) (by kernel_rfl) rfl (fun w' hw' => by obtain ⟨t1, t2, t3, t4, t5, t6⟩ := hw'; go_simp) hS0 ?_
                simp only [Act.put, List.setIfInBounds_toArray, List.set_cons_zero, List.set_cons_succ]
                refine held_call (i := 28) 106 (by kernel_rfl) rfl rfl rfl (by go_simp; rfl) ((hM2d.took hw 0 0 0 y 0 W5.heap.size).mono ?_)
                rintro e Y2 ⟨rfl, hM4, hSt4⟩
                have hS4 := hsee _ _ hM4
                refine ⟨_, rfl, hS4, ?_⟩
                simp only [Act.put, List.setIfInBounds_toArray, List.set_cons_zero, List.set_cons_succ]
                refine held_take (i := 29) (v := .bool false) 107 rfl rfl (by kernel_rfl) (by kernel_rfl) (by kernel_rfl) rfl (fun w' hw' => by obtain ⟨t1, t2, t3, t4, t5, t6⟩ := hw'; go_simp) hS4 ?_
                simp only [Act.put, List.setIfInBounds_toArray, List.set_cons_zero, List.set_cons_succ]
                refine held_take (i := 30) (v := .bool false) 108 rfl rfl (by kernel_rfl) (by kernel_rfl) (by kernel_rfl) rfl (fun w' hw' => by obtain ⟨t1, t2, t3, t4, t5, t6⟩ := hw'; go_simp) hS4 ?_
                simp only [Act.put, List.setIfInBounds_toArray, List.set_cons_zero, List.set_cons_succ]
                refine held_take (i := 31) (v := .bool false) 109 rfl rfl (by kernel_rfl) (by kernel_rfl) (by kernel_rfl) rfl (fun w' hw' => by obtain ⟨t1, t2, t3, t4, t5, t6⟩ := hw'; go_simp) hS4 ?_
                simp only [Act.put, List.setIfInBounds_toArray, List.set_cons_zero, List.set_cons_succ]
                refine held_end (by kernel_rfl) ?_ _
                obtain ⟨hM5, hSt5⟩ := Amid.count (hM4.mono (Z' := O.length + (m + 1)) (by omega)) (by omega) (by omega) (by omega) (by omega) ((m : Int) + 1) W5.heap.size
                have y1 := cell_of_block hM4.bx.n 0
                have y2 := frozen_of_block hM4.bx.n 0
                have hSt6 := (hSt2d.trans hSt4).trans hSt5
                clear hsee hS0 hM2d hSt2d hS4 hSt4
                gi_wp2_with fail
                exact ⟨hSt6.1, hSt6.2, by rw [List.length_append, HM.out]; exact hM5, tellsL_snoc HP.out HM.out hlen HK.out HU.out⟩
              · skip
                have d1 : decide ((m : Int) < (ms.length : Int)) = false := decide_eq_false (by omega)
                have d1' : ¬ (m : Int) < (ms.length : Int) := by omega
                have d2 : decide ((m : Int) < (ts.length : Int)) = false := decide_eq_false (by omega)
                have d2' : ¬ (m : Int) < (ts.length : Int) := by omega
                have hsee : ∀ W Z, Amid w B7 B8 B10 (B10 + 1 + 1) bt br bw (.slice am ms.length cm) (.slice at' ts.length ct) (.slice (some ⟨g, off, none⟩) O.length cv) p K O uf m Z W → W.cell? ⟨B10 + 1 + 1, 0, none⟩ = some (.int .i64 m) ∧ W.cell? ⟨w.heap.size, 0, none⟩ = some (.slice am ms.length cm) ∧ W.cell? ⟨w.heap.size + 1, 0, none⟩ = some (.slice at' ts.length ct) ∧ W.cell? ⟨B7, 0, none⟩ = some (.pointer (some ⟨bt, 0, none⟩)) ∧ W.cell? ⟨B8, 0, none⟩ = some (.pointer (some ⟨br, 0, none⟩)) := fun W Z h =>
                  ⟨cell_of_block h.bx.n 0, cell_of_block h.bx.bx.more 0, cell_of_block h.bx.bx.take 0, cell_of_block h.bx.bx.t 0, cell_of_block h.bx.bx.r 0⟩
                have hS0 := hsee _ _ hM2d
                refine wpIn_round_held (S := fun W => W.cell? ⟨B10 + 1 + 1, 0, none⟩ = some (.int .i64 m) ∧ W.cell? ⟨w.heap.size, 0, none⟩ = some (.slice am ms.length cm) ∧ W.cell? ⟨w.heap.size + 1, 0, none⟩ = some (.slice at' ts.length ct) ∧ W.cell? ⟨B7, 0, none⟩ = some (.pointer (some ⟨bt, 0, none⟩)) ∧ W.cell? ⟨B8, 0, none⟩ = some (.pointer (some ⟨br, 0, none⟩))) 32 rfl hmx (by kernel_rfl) ?_
                refine held_take (i := 0) (v := .int .i64 m) 78 rfl rfl (by kernel_rfl) (by kernel_rfl) (by kernel_rfl) rfl (fun w' hw' => by obtain ⟨t1, t2, t3, t4, t5⟩ := hw'; go_simp) hS0 ?_
                simp only [Act.put, List.setIfInBounds_toArray, List.set_cons_zero, List.set_cons_succ]
                refine held_take (i := 1) (v := .slice am ms.length cm) 79 rfl rfl (by kernel_rfl) (by kernel_rfl) (by kernel_rfl) rfl (fun w' hw' => by obtain ⟨t1, t2, t3, t4, t5⟩ := hw'; go_simp) hS0 ?_
                simp only [Act.put, List.setIfInBounds_toArray, List.set_cons_zero, List.set_cons_succ]
                refine held_take (i := 2) (v := .int .i64 ms.length) 80 rfl rfl (by kernel_rfl) (by kernel_rfl) (by kernel_rfl) rfl (fun w' hw' => by obtain ⟨t1, t2, t3, t4, t5⟩ := hw'; go_simp) hS0 ?_
                simp only [Act.put, List.setIfInBounds_toArray, List.set_cons_zero, List.set_cons_succ]
                refine held_take (i := 3) (v := .bool false) 81 rfl rfl (by kernel_rfl) (by kernel_rfl) (by kernel_rfl) rfl (fun w' hw' => by obtain ⟨t1, t2, t3, t4, t5⟩ := hw'; go_simp) hS0 ?_
                simp only [Act.put, List.setIfInBounds_toArray, List.set_cons_zero, List.set_cons_succ]
                refine held_take (i := 4) (v := .bool false) 82 rfl rfl (by kernel_rfl) (by kernel_rfl) (by kernel_rfl) rfl (fun w' hw' => by obtain ⟨t1, t2, t3, t4, t5⟩ := hw'; go_simp) hS0 ?_
                simp only [Act.put, List.setIfInBounds_toArray, List.set_cons_zero, List.set_cons_succ]
                refine held_skip (i := 5) 83 rfl rfl (by kernel_rfl) (by kernel_rfl) (by kernel_rfl) rfl hS0 ?_
                simp only [Act.put, List.setIfInBounds_toArray, List.set_cons_zero, List.set_cons_succ]
                refine held_skip (i := 6) 84 rfl rfl (by kernel_rfl) (by kernel_rfl) (by kernel_rfl) rfl hS0 ?_
                simp only [Act.put, List.setIfInBounds_toArray, List.set_cons_zero, List.set_cons_succ]
                refine held_skip (i := 7) 85 rfl rfl (by kernel_rfl) (by kernel_rfl) (by kernel_rfl) rfl hS0 ?_
                simp only [Act.put, List.setIfInBounds_toArray, List.set_cons_zero, List.set_cons_succ]
                refine held_skip (i := 8) 86 rfl rfl (by kernel_rfl) (by kernel_rfl) (by kernel_rfl) rfl hS0 ?_
                simp only [Act.put, List.setIfInBounds_toArray, List.set_cons_zero, List.set_cons_succ]
                refine held_skip (i := 9) 87 rfl rfl (by kernel_rfl) (by kernel_rfl) (by kernel_rfl) rfl hS0 ?_
                simp only [Act.put, List.setIfInBounds_toArray, List.set_cons_zero, List.set_cons_succ]
                refine held_skip (i := 10) 88 rfl rfl (by kernel_rfl) (by kernel_rfl) (by kernel_rfl) rfl hS0 ?_
                simp only [Act.put, List.setIfInBounds_toArray, List.set_cons_zero, List.set_cons_succ]
                refine held_skip (i := 11) 89 rfl rfl (by kernel_rfl) (by kernel_rfl) (by kernel_rfl) rfl hS0 ?_
                simp only [Act.put, List.setIfInBounds_toArray, List.set_cons_zero, List.set_cons_succ]
                refine held_skip (i := 12) 90 rfl rfl (by kernel_rfl) (by kernel_rfl) (by kernel_rfl) rfl hS0 ?_
                simp only [Act.put, List.setIfInBounds_toArray, List.set_cons_zero, List.set_cons_succ]
                refine held_skip (i := 13) 91 rfl rfl (by kernel_rfl) (by kernel_rfl) (by kernel_rfl) rfl hS0 ?_
                simp only [Act.put, List.setIfInBounds_toArray, List.set_cons_zero, List.set_cons_succ]
                refine held_take (i := 14) (v := .bool false) 92 rfl rfl (by kernel_rfl) (by kernel_rfl) (by kernel_rfl) rfl (fun w' hw' => by obtain ⟨t1, t2, t3, t4, t5⟩ := hw'; go_simp) hS0 ?_
                simp only [Act.put, List.setIfInBounds_toArray, List.set_cons_zero, List.set_cons_succ]
                refine held_take (i := 15) (v := .bool false) 93 rfl rfl (by kernel_rfl) (by kernel_rfl) (by kernel_rfl) rfl (fun w' hw' => by obtain ⟨t1, t2, t3, t4, t5⟩ := hw'; go_simp) hS0 ?_
                simp only [Act.put, List.setIfInBounds_toArray, List.set_cons_zero, List.set_cons_succ]
                refine held_take (i := 16) (v := .int .i64 m) 94 rfl rfl (by kernel_rfl) (by kernel_rfl) (by kernel_rfl) rfl (fun w' hw' => by obtain ⟨t1, t2, t3, t4, t5⟩ := hw'; go_simp) hS0 ?_
                simp only [Act.put, List.setIfInBounds_toArray, List.set_cons_zero, List.set_cons_succ]
                refine held_take (i := 17) (v := .slice at' ts.length ct) 95 rfl rfl (by kernel_rfl) (by kernel_rfl) (by kernel_rfl) rfl (fun w' hw' => by obtain ⟨t1, t2, t3, t4, t5⟩ := hw'; go_simp) hS0 ?_
                simp only [Act.put, List.setIfInBounds_toArray, List.set_cons_zero, List.set_cons_succ]
                refine held_take (i := 18) (v := .int .i64 ts.length) 96 rfl rfl (by kernel_rfl) (by kernel_rfl) (by kernel_rfl) rfl (fun w' hw' => by obtain ⟨t1, t2, t3, t4, t5⟩ := hw'; go_simp) hS0 ?_
                simp only [Act.put, List.setIfInBounds_toArray, List.set_cons_zero, List.set_cons_succ]
                refine held_take (i := 19) (v := .bool false) 97 rfl rfl (by kernel_rfl) (by kernel_rfl) (by kernel_rfl) rfl (fun w' hw' => by obtain ⟨t1, t2, t3, t4, t5⟩ := hw'; go_simp) hS0 ?_
                simp only [Act.put, List.setIfInBounds_toArray, List.set_cons_zero, List.set_cons_succ]
                refine held_take (i := 20) (v := .bool false) 98 rfl rfl (by kernel_rfl) (by kernel_rfl) (by kernel_rfl) rfl (fun w' hw' => by obtain ⟨t1, t2, t3, t4, t5⟩ := hw'; go_simp) hS0 ?_
                simp only [Act.put, List.setIfInBounds_toArray, List.set_cons_zero, List.set_cons_succ]
                refine held_skip (i := 21) 99 rfl rfl (by kernel_rfl) (by kernel_rfl) (by kernel_rfl) rfl hS0 ?_
                simp only [Act.put, List.setIfInBounds_toArray, List.set_cons_zero, List.set_cons_succ]
                refine held_skip (i := 22) 100 rfl rfl (by kernel_rfl) (by kernel_rfl) (by kernel_rfl) rfl hS0 ?_
                simp only [Act.put, List.setIfInBounds_toArray, List.set_cons_zero, List.set_cons_succ]
                refine held_skip (i := 23) 101 rfl rfl (by kernel_rfl) (by kernel_rfl) (by kernel_rfl) rfl hS0 ?_
                simp only [Act.put, List.setIfInBounds_toArray, List.set_cons_zero, List.set_cons_succ]
                refine held_skip (i := 24) 102 rfl rfl (by kernel_rfl) (by kernel_rfl) (by kernel_rfl) rfl hS0 ?_
                simp only [Act.put, List.setIfInBounds_toArray, List.set_cons_zero, List.set_cons_succ]
                refine held_skip (i := 25) 103 rfl rfl (by kernel_rfl) (by kernel_rfl) (by kernel_rfl) rfl hS0 ?_
                simp only [Act.put, List.setIfInBounds_toArray, List.set_cons_zero, List.set_cons_succ]
                refine held_skip (i := 26) 104 rfl rfl (by kernel_rfl) (by kernel_rfl) (by kernel_rfl) rfl hS0 ?_
                simp only [Act.put, List.setIfInBounds_toArray, List.set_cons_zero, List.set_cons_succ]
                refine held_skip (i := 27) 105 rfl rfl (by kernel_rfl) (by kernel_rfl) (by kernel_rfl) rfl hS0 ?_
                simp only [Act.put, List.setIfInBounds_toArray, List.set_cons_zero, List.set_cons_succ]
                refine held_skip (i := 28) 106 rfl rfl (by kernel_rfl) (by kernel_rfl) (by kernel_rfl) rfl hS0 ?_
                simp only [Act.put, List.setIfInBounds_toArray, List.set_cons_zero, List.set_cons_succ]
                refine held_skip (i := 29) 107 rfl rfl (by kernel_rfl) (by kernel_rfl) (by kernel_rfl) rfl hS0 ?_
                simp only [Act.put, List.setIfInBounds_toArray, List.set_cons_zero, List.set_cons_succ]
                refine held_take (i := 30) (v := .bool false) 108 rfl rfl (by kernel_rfl) (by kernel_rfl) (by kernel_rfl) rfl (fun w' hw' => by obtain ⟨t1, t2, t3, t4, t5⟩ := hw'; go_simp) hS0 ?_
                simp only [Act.put, List.setIfInBounds_toArray, List.set_cons_zero, List.set_cons_succ]
                refine held_take (i := 31) (v := .bool false) 109 rfl rfl (by kernel_rfl) (by kernel_rfl) (by kernel_rfl) rfl (fun w' hw' => by obtain ⟨t1, t2, t3, t4, t5⟩ := hw'; go_simp) hS0 ?_
                simp only [Act.put, List.setIfInBounds_toArray, List.set_cons_zero, List.set_cons_succ]
                refine held_end (by kernel_rfl) ?_ _
                obtain ⟨hM5, hSt5⟩ := Amid.count (hM2d.mono (Z' := O.length + (m + 1)) (by omega)) (by omega) (by omega) (by omega) (by omega) ((m : Int) + 1) W5.heap.size
                have y1 := cell_of_block hM2d.bx.n 0
                have y2 := frozen_of_block hM2d.bx.n 0
                have hSt6 := hSt2d.trans hSt5
                clear hsee hS0 hM2d hSt2d
                gi_wp2_with fail
                exact ⟨hSt6.1, hSt6.2, by rw [List.length_append, HM.out]; exact hM5, tellsL_snoc HP.out HM.out hlen HK.out HU.out⟩
          · have hne : (u != uf k) = true := by simpa using hu
            have HF : Hid (∀ j, pre ++ [(k, u)] ≠ (tellsL O uf).take j) := fun j e => by
              have := tellsL_last (by rw [HM.out]; exact hlen) e
              rw [HM.out, HK.out] at this
              exact hu (Prod.mk.inj this).2
            generalize uf k = U at hget hne hu
            gi_wp2_with fail
            refine ⟨trivial, (CallsIn.inRound l (callsIn_wide.2 hget)).mono ?_⟩
            rintro e X1 ⟨rfl, nq, hX1⟩
            have hl1 : Like X1 X := hX1 ▸ like_drewN X nq
            have hM1 := hM.like hl1
            have hSt1 : Still W5.heap.size X X1 := Still.like hl1
            have hlenq : ∀ j, Calls Tryd.prog 21 #[.pointer (some ⟨bw, 0, none⟩)] (X1.drewN j) fun e w' => e = .returned (.int .i64 O.length) ∧ w' = X1.drewN j := fun j => (hM1.like (like_drewN X1 j)).len
            obtain ⟨g, off, hav, z1, z2, z3, z4, z5, z6⟩ := hfacts X1 hM1
            clear hX1 hl1 hM hget hfacts x10
            subst hav
            gi_wp2_with fail
            refine wpIn_round_quiet (by kernel_rfl) (by kernel_rfl) (by kernel_rfl) ?_
            repeat (go_big_quiet_step ((go_at_call 21; exact (hlenq _).mono (fun _ _ ⟨h1, h2⟩ => ⟨h1, _, h2⟩))))
            refine wpQuiet_nil ?_
            rintro _ ⟨nq2, rfl⟩
            obtain ⟨g1, g2⟩ := goes_fail hM1.below (r := w.heap.size + 1 + 1) (by omega) (B := W5.heap.size) (by have := HZ.out; omega) nq2 (.bool false)
            gi_wp2_with fail
            exact ⟨hSt1.1.trans g1, HF.out, g2⟩
        · have hne : (k != oat O m) = true := by simpa using hk
          have HF : Hid (∀ j, pre ++ [(k, u)] ≠ (tellsL O uf).take j) := fun j e => by
            have := tellsL_last (by rw [HM.out]; exact hlen) e
            rw [HM.out] at this
            exact hk (Prod.mk.inj this).1
          clear hmo
          generalize (if k ∈ O then uf k else 0) = V at hget
          generalize decide (k ∈ O) = d at hget
          generalize oat O m = y at *
          gi_wp2_with fail
          refine ⟨trivial, (CallsIn.inRound l (callsIn_wide.2 hget)).mono ?_⟩
          rintro e X1 ⟨rfl, nq, hX1⟩
          have hl1 : Like X1 X := hX1 ▸ like_drewN X nq
          have hM1 := hM.like hl1
          have hSt1 : Still W5.heap.size X X1 := Still.like hl1
          have hlenq : ∀ j, Calls Tryd.prog 21 #[.pointer (some ⟨bw, 0, none⟩)] (X1.drewN j) fun e w' => e = .returned (.int .i64 O.length) ∧ w' = X1.drewN j := fun j => (hM1.like (like_drewN X1 j)).len
          obtain ⟨g, off, hav, z1, z2, z3, z4, z5, z6⟩ := hfacts X1 hM1
          clear hX1 hl1 hM hget hfacts x10
          subst hav
          gi_wp2_with fail
          refine wpIn_round_quiet (by kernel_rfl) (by kernel_rfl) (by kernel_rfl) ?_
          repeat (go_big_quiet_step ((go_at_call 21; exact (hlenq _).mono (fun _ _ ⟨h1, h2⟩ => ⟨h1, _, h2⟩))))
          refine wpQuiet_nil ?_
          rintro _ ⟨nq2, rfl⟩
          obtain ⟨g1, g2⟩ := goes_fail hM1.below (r := w.heap.size + 1 + 1) (by omega) (B := W5.heap.size) (by have := HZ.out; omega) nq2 (.bool false)
          gi_wp2_with fail
          exact ⟨hSt1.1.trans g1, HF.out, g2⟩
      case done =>
        rintro ys X hys ⟨hM, _⟩ hK
        rw [show ys.length = O.length by rw [hys]; simp] at hM
        obtain ⟨D, hD⟩ : ∃ D, W5.heap.size = D := ⟨_, rfl⟩
        rw [hD] at hK hz5 ⊢
        have HD : Hid (D = B10 + 3) := hz5
        clear hz5 HZ hD hI0 hys hG e11 hwb
        have hXw := hM.below.size
        have hseen : ∀ W, (By w.heap.size B7 B8 B10 (B10 + 1 + 1) bt br bw (.slice am ms.length cm) (.slice at' ts.length ct) O.length W ∧ Below w.heap.size w W ∧ W.heap[D]? = some (.deferred (some []))) → W.cell? ⟨B10 + 1 + 1, 0, none⟩ = some (.int .i64 O.length) ∧ W.cell? ⟨B10, 0, none⟩ = some (.pointer (some ⟨bw, 0, none⟩)) ∧ W.cell? ⟨B7, 0, none⟩ = some (.pointer (some ⟨bt, 0, none⟩)) ∧ W.cell? ⟨B8, 0, none⟩ = some (.pointer (some ⟨br, 0, none⟩)) := fun W h => ⟨cell_of_block h.1.n 0, cell_of_block h.1.was 0, cell_of_block h.1.bx.t 0, cell_of_block h.1.bx.r 0⟩
        have hbel : ∀ A B : World, (By w.heap.size B7 B8 B10 (B10 + 1 + 1) bt br bw (.slice am ms.length cm) (.slice at' ts.length ct) O.length A ∧ Below w.heap.size w A ∧ A.heap[D]? = some (.deferred (some []))) → Below A.heap.size A B → (By w.heap.size B7 B8 B10 (B10 + 1 + 1) bt br bw (.slice am ms.length cm) (.slice at' ts.length ct) O.length B ∧ Below w.heap.size w B ∧ B.heap[D]? = some (.deferred (some []))) := fun A B h hb =>
          ⟨h.1.turn (fun q c t hq _ => (hb.block q (lt_of_block hq)).trans hq), h.2.1.trans (hb.mono h.2.1.size), (hb.block D (lt_of_block h.2.2)).trans h.2.2⟩
        have hMd := hM.like (Y := X.drew) ⟨rfl, rfl, rfl, rfl⟩
        have hT0 : (By w.heap.size B7 B8 B10 (B10 + 1 + 1) bt br bw (.slice am ms.length cm) (.slice at' ts.length ct) O.length X.drew ∧ Below w.heap.size w X.drew ∧ X.drew.heap[D]? = some (.deferred (some []))) := ⟨hMd.bx, hMd.below, hK⟩
        have hS0 := hseen _ hT0
        have hlen := hMd.len
        have htl : Calls Tryd.prog 15 #[.pointer (some ⟨bt, 0, none⟩), .pointer (some ⟨br, 0, none⟩), .int .u64 0] X.drew fun e W7 => e = .returned (.bool true) ∧ (W7.cell? ⟨B10 + 1 + 1, 0, none⟩ = some (.int .i64 O.length) ∧ W7.cell? ⟨B10, 0, none⟩ = some (.pointer (some ⟨bw, 0, none⟩)) ∧ W7.cell? ⟨B7, 0, none⟩ = some (.pointer (some ⟨bt, 0, none⟩)) ∧ W7.cell? ⟨B8, 0, none⟩ = some (.pointer (some ⟨br, 0, none⟩))) ∧ Hid (By w.heap.size B7 B8 B10 (B10 + 1 + 1) bt br bw (.slice am ms.length cm) (.slice at' ts.length ct) O.length W7 ∧ Below w.heap.size w W7 ∧ W7.heap[D]? = some (.deferred (some []))) :=
          (hMd.tells hw (by omega) 0).mono fun e W7 ⟨h1, h2⟩ => ⟨h1, hseen _ (hbel _ _ hT0 h2), hbel _ _ hT0 h2⟩
        have hkn : ∀ W7, Hid (By w.heap.size B7 B8 B10 (B10 + 1 + 1) bt br bw (.slice am ms.length cm) (.slice at' ts.length ct) O.length W7 ∧ Below w.heap.size w W7 ∧ W7.heap[D]? = some (.deferred (some []))) → Calls Tryd.prog 16 #[] W7 fun e W8 => e = .returned (.bool true) ∧ (W8.cell? ⟨B10 + 1 + 1, 0, none⟩ = some (.int .i64 O.length) ∧ W8.cell? ⟨B10, 0, none⟩ = some (.pointer (some ⟨bw, 0, none⟩)) ∧ W8.cell? ⟨B7, 0, none⟩ = some (.pointer (some ⟨bt, 0, none⟩)) ∧ W8.cell? ⟨B8, 0, none⟩ = some (.pointer (some ⟨br, 0, none⟩))) ∧ ((W8.setCell ⟨w.heap.size + 1 + 1, 0, none⟩ (.bool true)).cell? ⟨B10 + 1 + 1, 0, none⟩ = some (.int .i64 O.length) ∧ (W8.setCell ⟨w.heap.size + 1 + 1, 0, none⟩ (.bool true)).cell? ⟨B10, 0, none⟩ = some (.pointer (some ⟨bw, 0, none⟩)) ∧ (W8.setCell ⟨w.heap.size + 1 + 1, 0, none⟩ (.bool true)).cell? ⟨B7, 0, none⟩ = some (.pointer (some ⟨bt, 0, none⟩)) ∧ (W8.setCell ⟨w.heap.size + 1 + 1, 0, none⟩ (.bool true)).cell? ⟨B8, 0, none⟩ = some (.pointer (some ⟨br, 0, none⟩))) ∧ W8.cell? ⟨w.heap.size + 1 + 1, 0, none⟩ = some (.bool false) ∧ W8.frozen? ⟨w.heap.size + 1 + 1, 0, none⟩ = false ∧ Hid (By w.heap.size B7 B8 B10 (B10 + 1 + 1) bt br bw (.slice am ms.length cm) (.slice at' ts.length ct) O.length W8 ∧ Below w.heap.size w W8 ∧ W8.heap[D]? = some (.deferred (some []))) :=
          fun W7 h7 => (known_any W7 (hw.below h7.out.2.1)).mono fun e W8 ⟨h1, h2⟩ => by
            have h8 := hbel _ _ h7.out (h2.below _ (Nat.le_refl _) (fun _ f => f.elim))
            have ho : ∀ q, q ≠ w.heap.size + 1 + 1 → (W8.setCell ⟨w.heap.size + 1 + 1, 0, none⟩ (.bool true)).heap[q]? = W8.heap[q]? := fun q hq => Below.heap_setCell W8 ⟨w.heap.size + 1 + 1, 0, none⟩ _ q hq
            exact ⟨h1, hseen _ h8, ⟨cell_of_block ((ho _ (by omega)).trans h8.1.n) 0, cell_of_block ((ho _ (by omega)).trans h8.1.was) 0, cell_of_block ((ho _ (by omega)).trans h8.1.bx.t) 0, cell_of_block ((ho _ (by omega)).trans h8.1.bx.r) 0⟩, cell_of_block h8.1.bx.res 0, frozen_of_block h8.1.bx.res 0, h8⟩
        clear hM hMd hseen hbel
        gi_wp2_with fail
        refine wpIn_wide.2 ?_
        go_region_held3 (fun W => W.cell? ⟨B10 + 1 + 1, 0, none⟩ = some (.int .i64 O.length) ∧ W.cell? ⟨B10, 0, none⟩ = some (.pointer (some ⟨bw, 0, none⟩)) ∧ W.cell? ⟨B7, 0, none⟩ = some (.pointer (some ⟨bt, 0, none⟩)) ∧ W.cell? ⟨B8, 0, none⟩ = some (.pointer (some ⟨br, 0, none⟩))) (assumption)
          (first
          | (go_at_call 21; refine hlen.mono ?_; rintro e w6 ⟨rfl, rfl⟩)
          | (go_at_call 15; refine htl.mono ?_; rintro e w7 ⟨rfl, hS7, hT7⟩)
          | (go_at_call 16; refine (hkn _ (by assumption)).mono ?_; rintro e w8 ⟨rfl, hS8, hS9, hc8, hf8, hT8⟩))
        obtain ⟨t1, t2, t3⟩ := hT8.out
        have k5 := (KeepsOthers.setCell w8 ⟨w.heap.size + 1 + 1, 0, none⟩ (.bool true)).same D _ t3 rfl
        have r6 := block_set t1.bx.res 0 (.bool true)
        have r7 := block_kept r6 (grownBy_putObj' _ D (.deferred none)) (fun r e => by cases e; exact ⟨_, k5, rfl⟩)
        have r9 := cell_of_block r7 0
        have hb6 := t2.setCell (p := ⟨w.heap.size + 1 + 1, 0, none⟩) (by show w.heap.size ≤ w.heap.size + 1 + 1; omega) (.bool true)
        clear hS7 hS8 hS9 hkn htl hlen
        gi_wp2_with fail
        refine ⟨by simp, .inl ⟨_, _, rfl, run_takeDeferred k5, ?_⟩⟩
        refine ⟨.bool true, ?_, rfl, hb6.trans (belowK_b (w := w) (Nat.le_refl _) _ D _ _ (by have := HD.out; omega) k5 rfl rfl)⟩
        simp [results, Tryd.f5, go_sem, r9]
end Go.Proofs.YtbhocajmcfdffaaDoor
