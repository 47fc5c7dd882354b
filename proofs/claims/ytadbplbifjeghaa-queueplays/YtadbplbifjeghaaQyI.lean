
/- The law QueuePlays walked (layer 23). No statement of the seat is proved here. -/
import Derived.Test.YtadbplbifjeghaaQyH
import Derived.Test.YtadbplbifjeghaaQuOpen
import Derived.Test.YtadbplbifjeghaaArM
namespace Go.Proofs.Ytadbplbifjeghaa
open Go.RowKit

theorem wp_held_end {P : Program} {ops : Array Oper} {Q : Exit → Act → World → Prop} {id : Nat} {a : Act} {w : World} {S : World → Prop} (N : Nat) (hN : ops.size = N) (hm : P.follows .mixedOrders = true)
    (h : wpAnyH P .any ops (atEnd (Q .normal)) S N (Array.replicate N false) a w.drew) : (Code.region id ops true).wp P Q a w := by
  subst hN
  exact Code.wp_mono (fun e a w h => by cases e <;> first | exact h | exact h.elim) (wp_region_held hm h)
theorem hmxp : Try.prog.follows .mixedOrders = true := by kernel_rfl
theorem StepsAt.keeps {w w' : World} {a : Option Addr} {n : Nat} (h : StepsAt w a n) (k : Keeps (fun _ => False) w w') : StepsAt w' a n := fun j hj => by
  obtain ⟨g, off, e, kd, on, x, hx, c0, c1, c2⟩ := h j hj
  have hb := World.block_lt_of_cell? _ _ c0
  have hc : ∀ i, w'.cell? ⟨g, i, none⟩ = w.cell? ⟨g, i, none⟩ := fun i => World.cell?_of_block (k.block _ hb (fun f => f))
  exact ⟨g, off, e, kd, on, x, hx, (hc _).trans c0, (hc _).trans c1, (hc _).trans c2⟩
/-- Whole of a queue that is. -/
theorem whole_wh (vw : Value) (W ns : List Int) (hW : ∀ i, isW (oat W i)) (hWl : W.length ≤ 17592186044416) (q : Int) (hq : isW q) (hwh : Wh W q ns) (w : World) (h : Lies w vw W) :
    Calls Try.prog 8 #[vw, .int .u64 q] w fun e w' => ∃ v, e = .returned (.tuple #[v, .bool true]) ∧ Keeps (fun _ => False) w w' ∧ Wr w' w.heap.size v ns :=
  (whole_any vw W hW hWl q hq w h).mono fun e w' ⟨v, ok, e1, k, q1⟩ => by
    rcases q1 with ⟨ns', h1, rfl, h3⟩ | ⟨h1, _⟩
    · obtain rfl := lk_det h1.2.2.2.2.1 hwh.2.2.2.2.1
      exact ⟨v, e1, k, h3⟩
    · exact absurd ⟨_, hwh⟩ h1
set_option maxRecDepth 100000 in
set_option maxHeartbeats 8000000 in
theorem plays_walk (cells : Int) (a : Option Addr) (n c : Nat) (w : World) (ho : StepsAt w a n) (hn : n * 24 ≤ 140737488351232) :
    Calls Try.prog 3 #[.int .i64 cells, .slice a n c] w fun e w' => e = .returned (.bool true) ∧ Keeps (fun _ => False) w w' := by
  obtain ⟨L, hL, eL⟩ := cyc cells 400 (by omega) (by omega)
  have hwc : IntKind.i64.wrap (18 + (L : Int)) = 18 + L := by rw [IntKind.wrap_i64]; omega
  have HO := hid ho
  clear ho
  go_enter Try.func3, Try.ntmps3
  go_wp2_with fail
  refine (laid_any (18 + L) (by omega) _).mono ?_
  rintro e_ w1 ⟨b, g, c1, rfl, h1, k1, hb, hg⟩
  have H1 := hid (And.intro h1 (And.intro k1 (And.intro hb hg)))
  clear h1 k1 hb hg
  go_wp2_with fail
  refine (laid_any (18 + L) (by omega) _).mono ?_
  rintro e_ w2 ⟨b2, g2, c2, rfl, h2, k2, hb2, hg2⟩
  have HS := hid (Wo.start H1.out.1 H1.out.2.1 H1.out.2.2.1 H1.out.2.2.2 h2 k2 (by simpa using hb2) (by simpa using hg2))
  obtain ⟨t, ht⟩ : ∃ t, w1.heap.size = t := ⟨_, rfl⟩
  obtain ⟨x, hx⟩ : ∃ x, w2.heap.size = x := ⟨_, rfl⟩
  rw [ht, hx] at HS
  clear H1 h2 k2 hb2 hg2
  have HI := hid (laidW_iv (18 + L) (by omega) (by omega)).1
  obtain ⟨N, hN⟩ : ∃ N : Int, ((18 + L : Nat) : Int) = N := ⟨_, rfl⟩
  rw [hN] at HI
  go_wp2_with fail
  go_loopw [6] (fun iv wr => ∃ k : Nat, k ≤ n ∧ iv = .int .i64 (k : Int) ∧ Hid (∃ lv E s r, Wo w wr x t b g c1 b2 g2 c2 lv E s r ∧ Iv s r N E (20 + 400000 * k))) (fun iv _ => n - (intOf iv).toNat)
  case atStart => exact ⟨0, by omega, rfl, hid ⟨_, _, _, _, HS.out, HI.out⟩⟩
  case round =>
    obtain ⟨k, hkn, rfl, hr⟩ := hrel
    generalize wr = Wi at *
    clear HS HI
    by_cases hlt : k < n
    · have hlt' : (k : Int) < (n : Int) := by omega
      obtain ⟨lv0, E0, s0, r0, hW0, hI0⟩ := hr.out
      obtain ⟨gs, off, rfl, kd, on, wd, hwd, d0, d1, d2⟩ := (HO.out.keeps hW0.kp) k hlt
      have HS := hid (step_any hW0 hI0 (by omega) kd on wd hwd)
      clear hr hW0 hI0 hwd
      go_wp2_with fail
      refine HS.out.mono ?_
      rintro e_ w3 ⟨rfl, lv, E, s, r, hW3, hI3⟩
      have HI := hid hI3
      have HW := hid hW3
      clear HS d0 d1 d2 hI3 hW3
      go_wp2_with fail
      obtain ⟨m, hm⟩ : ∃ m, E.length = m := ⟨_, rfl⟩
      obtain ⟨al, kl, hlv⟩ := HW.out.form
      rw [hm] at hlv
      subst hlv
      have HM := hid hm
      have hm1k : m ≤ 1000 := by rw [← hm]; exact HI.out.many
      clear hm
      go_loopw [7] (fun jv wr' => ∃ j : Nat, j ≤ m ∧ jv = .int .i64 (j : Int) ∧ Hid (Wo w wr' x t b g c1 b2 g2 c2 (.slice al m kl) E s r)) (fun jv _ => m - (intOf jv).toNat)
      case atStart => exact ⟨0, by omega, rfl, HW⟩
      case round =>
        obtain ⟨j, hjm, rfl, hrj⟩ := hrel
        clear HW
        generalize wr = Wj at *
        have y2 := hrj.out.x2
        by_cases hlj : j < m
        · have hlj' : (j : Int) < (m : Int) := by omega
          obtain ⟨e, he⟩ : ∃ e, E[j]? = some e := ⟨_, List.getElem?_eq_getElem (by rw [HM.out]; exact hlj)⟩
          have hmem : e ∈ E := List.mem_of_getElem? he
          obtain ⟨ga, kk, hq1, cq⟩ := hrj.out.ptr he
          injection hq1 with hq1 hq2 hq3
          subst hq1
          have hE := hrj.out.es e hmem
          have hwh := HI.out.wh e hmem
          obtain ⟨an, cn, hvn⟩ := hE.rn.form
          obtain ⟨aw, cw, hvw⟩ := hE.rw.form
          have y0 := hrj.out.x0
          have yt := hrj.out.tw.tx.cell
          have yb := hrj.out.tw.wd.cell0
          have z0 := hE.c0
          have HB : Hid (∀ X, Keeps (fun _ => False) Wj X → Wo w X x t b g c1 b2 g2 c2 (.slice (some ⟨ga, 0, none⟩) m kl) E s r ∧ X.cell? ⟨ga, j, none⟩ = some (.pointer (some ⟨e.p, 0, none⟩))) := hid (fun X kX => ⟨hrj.out.new kX, (World.cell?_of_block (kX.block _ (World.block_lt_of_cell? _ _ cq) (fun f => f))).trans cq⟩)
          obtain ⟨A, B, hAB⟩ := List.append_of_mem hmem
          have HSM := hid (And.intro (Iv.small (A := A) (B := B) (e := e) (by rw [← hAB]; exact HI.out)) hwh)
          have HOK := hid hrj.out.tw.wd.ok
          have HL0 := hid (fun q => (hrj.out.drewN q).tw.wd.lies)
          clear hAB he hq2 hq3 hE hwh hrj A B
          go_wp2_with fail
          refine wp_region_segs [(true, 20), (false, 1), (true, 5)] (by kernel_rfl) (by kernel_rfl) ?_
          intro q0
          simp only [wpSeg, List.take_succ_cons, List.take_zero, List.drop_succ_cons, List.drop_zero]
          repeat (go_big_quiet_step (fail))
          refine wpQuiet_nil ?_
          intro _ hw'
          obtain ⟨q1, hw''⟩ := hw'
          subst hw''
          try simp only [World.drewN_drewN]
          intro K2 hK'
          go_wp2_with fail
          refine (whole_wh _ s.W e.ns (oat_isW HOK.out.1) HOK.out.2 e.a HSM.out.1.2.2.1 HSM.out.2.1 _ (HL0.out _)).mono ?_
          rintro e_ w4 ⟨vN, rfl, k4, hN4⟩
          obtain ⟨a4, c4, hv4⟩ := hN4.lies.form
          subst hv4
          have HB4 : Hid (∀ X, Keeps (fun _ => False) w4 X → Wo w X x t b g c1 b2 g2 c2 (.slice (some ⟨ga, 0, none⟩) m kl) E s r ∧ X.cell? ⟨ga, j, none⟩ = some (.pointer (some ⟨e.p, 0, none⟩))) := hid (fun X kX => HB.out X (((Keeps.refl _ _).drewN _).trans (k4.trans kX)))
          have HN4 : Hid (∀ X, Keeps (fun _ => False) w4 X → Lies X (.slice a4 e.ns.length c4) e.ns) := hid (fun X kX => hN4.lies.keeps kX (fun _ _ _ _ f => f))
          clear k4 hN4 y0 y2 yt yb z0 cq HB HL0
          go_wp2_with fail
          repeat (go_big_quiet_step (fail))
          refine wpQuiet_nil ?_
          intro _ hw'
          obtain ⟨q2, hw''⟩ := hw'
          subst hw''
          try simp only [World.drewN_drewN]
          go_wp2_with fail
          have HME := hid hmem
          have HVN := hid hvn
          have HVW := hid hvw
          have HS4 : Hid (∀ W, Keeps (fun _ => False) w4 W → W.cell? ⟨x, 0, none⟩ = some (.pointer (some ⟨t, 0, none⟩)) ∧ W.cell? ⟨x, 2, none⟩ = some (.slice (some ⟨ga, 0, none⟩) m kl) ∧ W.cell? ⟨t, 0, none⟩ = some (.pointer (some ⟨b, 0, none⟩)) ∧ W.cell? ⟨b, 0, none⟩ = some (.slice (some ⟨g, 0, none⟩) s.W.length c1) ∧ W.cell? ⟨ga, j, none⟩ = some (.pointer (some ⟨e.p, 0, none⟩)) ∧ W.cell? ⟨e.p, 1, none⟩ = some (.slice an e.ns.length cn) ∧ W.cell? ⟨e.p, 2, none⟩ = some (.slice aw e.ws.length cw)) := hid (fun W kW => by
            obtain ⟨hX, hq⟩ := HB4.out W kW
            exact ⟨hX.x0, hX.x2, hX.tw.tx.cell, hX.tw.wd.cell0, hq, by rw [← HVN.out]; exact (hX.es e HME.out).c1, by rw [← HVW.out]; exact (hX.es e HME.out).c2⟩)
          have KD : Hid (Keeps (fun _ => False) w4 (w4.drewN q2).drew) := hid ((Keeps.refl _ _).drewN _).drew
          have hS4 := HS4.out _ KD.out
          refine wp_held_end (S := fun W : World => W.cell? ⟨x, 0, none⟩ = some (.pointer (some ⟨t, 0, none⟩)) ∧ W.cell? ⟨x, 2, none⟩ = some (.slice (some ⟨ga, 0, none⟩) m kl) ∧ W.cell? ⟨t, 0, none⟩ = some (.pointer (some ⟨b, 0, none⟩)) ∧ W.cell? ⟨b, 0, none⟩ = some (.slice (some ⟨g, 0, none⟩) s.W.length c1) ∧ W.cell? ⟨ga, j, none⟩ = some (.pointer (some ⟨e.p, 0, none⟩)) ∧ W.cell? ⟨e.p, 1, none⟩ = some (.slice an e.ns.length cn) ∧ W.cell? ⟨e.p, 2, none⟩ = some (.slice aw e.ws.length cw)) 43 rfl hmxp ?_
          simp only [Array.replicate_succ, Array.replicate_zero, List.push_toArray, List.nil_append, List.cons_append]
          refine held_take (i := 0) (v := (.bool true)) 74 rfl rfl (by kernel_rfl) (by kernel_rfl) (by kernel_rfl) rfl (fun w' hw' => by obtain ⟨q0, q1, q2, q3, q4, q5, q6⟩ := hw'; go_simp) hS4 ?_
          simp only [Act.put, List.setIfInBounds_toArray, List.set_cons_zero, List.set_cons_succ]
          refine held_take (i := 1) (v := (.bool false)) 75 rfl rfl (by kernel_rfl) (by kernel_rfl) (by kernel_rfl) rfl (fun w' hw' => by obtain ⟨q0, q1, q2, q3, q4, q5, q6⟩ := hw'; go_simp) hS4 ?_
          simp only [Act.put, List.setIfInBounds_toArray, List.set_cons_zero, List.set_cons_succ]
          refine held_take (i := 2) (v := (.bool false)) 76 rfl rfl (by kernel_rfl) (by kernel_rfl) (by kernel_rfl) rfl (fun w' hw' => by obtain ⟨q0, q1, q2, q3, q4, q5, q6⟩ := hw'; go_simp) hS4 ?_
          simp only [Act.put, List.setIfInBounds_toArray, List.set_cons_zero, List.set_cons_succ]
          refine held_take (i := 3) (v := (.slice a4 e.ns.length c4)) 77 rfl rfl (by kernel_rfl) (by kernel_rfl) (by kernel_rfl) rfl (fun w' hw' => by obtain ⟨q0, q1, q2, q3, q4, q5, q6⟩ := hw'; go_simp) hS4 ?_
          simp only [Act.put, List.setIfInBounds_toArray, List.set_cons_zero, List.set_cons_succ]
          refine held_take (i := 4) (v := (.pointer (some ⟨x, 0, none⟩))) 78 rfl rfl (by kernel_rfl) (by kernel_rfl) (by kernel_rfl) rfl (fun w' hw' => by obtain ⟨q0, q1, q2, q3, q4, q5, q6⟩ := hw'; go_simp) hS4 ?_
          simp only [Act.put, List.setIfInBounds_toArray, List.set_cons_zero, List.set_cons_succ]
          refine held_take (i := 5) (v := (.pointer (some ⟨x, 0, none⟩))) 79 rfl rfl (by kernel_rfl) (by kernel_rfl) (by kernel_rfl) rfl (fun w' hw' => by obtain ⟨q0, q1, q2, q3, q4, q5, q6⟩ := hw'; go_simp) hS4 ?_
          simp only [Act.put, List.setIfInBounds_toArray, List.set_cons_zero, List.set_cons_succ]
          refine held_take (i := 6) (v := (.pointer (some ⟨x, 2, none⟩))) 80 rfl rfl (by kernel_rfl) (by kernel_rfl) (by kernel_rfl) rfl (fun w' hw' => by obtain ⟨q0, q1, q2, q3, q4, q5, q6⟩ := hw'; go_simp) hS4 ?_
          simp only [Act.put, List.setIfInBounds_toArray, List.set_cons_zero, List.set_cons_succ]
          refine held_take (i := 7) (v := (.slice (some ⟨ga, 0, none⟩) m kl)) 81 rfl rfl (by kernel_rfl) (by kernel_rfl) (by kernel_rfl) rfl (fun w' hw' => by obtain ⟨q0, q1, q2, q3, q4, q5, q6⟩ := hw'; go_simp) hS4 ?_
          simp only [Act.put, List.setIfInBounds_toArray, List.set_cons_zero, List.set_cons_succ]
          refine held_take (i := 8) (v := (.int .i64 (j : Int))) 82 rfl rfl (by kernel_rfl) (by kernel_rfl) (by kernel_rfl) rfl (fun w' hw' => by obtain ⟨q0, q1, q2, q3, q4, q5, q6⟩ := hw'; go_simp) hS4 ?_
          simp only [Act.put, List.setIfInBounds_toArray, List.set_cons_zero, List.set_cons_succ]
          refine held_take (i := 9) (v := (.pointer (some ⟨ga, j, none⟩))) 83 rfl rfl (by kernel_rfl) (by kernel_rfl) (by kernel_rfl) rfl (fun w' hw' => by obtain ⟨q0, q1, q2, q3, q4, q5, q6⟩ := hw'; go_simp) hS4 ?_
          simp only [Act.put, List.setIfInBounds_toArray, List.set_cons_zero, List.set_cons_succ]
          refine held_take (i := 10) (v := (.pointer (some ⟨e.p, 0, none⟩))) 84 rfl rfl (by kernel_rfl) (by kernel_rfl) (by kernel_rfl) rfl (fun w' hw' => by obtain ⟨q0, q1, q2, q3, q4, q5, q6⟩ := hw'; go_simp) hS4 ?_
          simp only [Act.put, List.setIfInBounds_toArray, List.set_cons_zero, List.set_cons_succ]
          refine held_take (i := 11) (v := (.pointer (some ⟨e.p, 0, none⟩))) 85 rfl rfl (by kernel_rfl) (by kernel_rfl) (by kernel_rfl) rfl (fun w' hw' => by obtain ⟨q0, q1, q2, q3, q4, q5, q6⟩ := hw'; go_simp) hS4 ?_
          simp only [Act.put, List.setIfInBounds_toArray, List.set_cons_zero, List.set_cons_succ]
          refine held_take (i := 12) (v := (.pointer (some ⟨e.p, 1, none⟩))) 86 rfl rfl (by kernel_rfl) (by kernel_rfl) (by kernel_rfl) rfl (fun w' hw' => by obtain ⟨q0, q1, q2, q3, q4, q5, q6⟩ := hw'; go_simp) hS4 ?_
          simp only [Act.put, List.setIfInBounds_toArray, List.set_cons_zero, List.set_cons_succ]
          refine held_take (i := 13) (v := (.slice an e.ns.length cn)) 87 rfl rfl (by kernel_rfl) (by kernel_rfl) (by kernel_rfl) rfl (fun w' hw' => by obtain ⟨q0, q1, q2, q3, q4, q5, q6⟩ := hw'; go_simp) hS4 ?_
          simp only [Act.put, List.setIfInBounds_toArray, List.set_cons_zero, List.set_cons_succ]
          refine held_call (i := 14) (f := 9) (args := #[.slice a4 e.ns.length c4, .slice an e.ns.length cn]) 88 (by kernel_rfl) rfl rfl rfl (by go_simp) ?_
          refine (words_same _ _ e.ns (by have := HSM.out.1.1; omega) _ (HN4.out _ KD.out) (by rw [← HVN.out]; exact ((HB4.out _ KD.out).1.es e HME.out).rn.lies)).mono ?_
          rintro e_ w5 ⟨rfl, m5, hw5⟩
          have K5 : Hid (Keeps (fun _ => False) w4 w5) := hid (by rw [hw5]; exact KD.out.drewN _)
          have hS5 := HS4.out _ K5.out
          clear hw5 KD hS4
          refine ⟨_, rfl, hS5, ?_⟩
          simp only [Act.put, List.setIfInBounds_toArray, List.set_cons_zero, List.set_cons_succ]
          refine held_take (i := 15) (v := (.bool false)) 89 rfl rfl (by kernel_rfl) (by kernel_rfl) (by kernel_rfl) rfl (fun w' hw' => by obtain ⟨q0, q1, q2, q3, q4, q5, q6⟩ := hw'; go_simp) hS5 ?_
          simp only [Act.put, List.setIfInBounds_toArray, List.set_cons_zero, List.set_cons_succ]
          refine held_take (i := 16) (v := (.bool false)) 90 rfl rfl (by kernel_rfl) (by kernel_rfl) (by kernel_rfl) rfl (fun w' hw' => by obtain ⟨q0, q1, q2, q3, q4, q5, q6⟩ := hw'; go_simp) hS5 ?_
          simp only [Act.put, List.setIfInBounds_toArray, List.set_cons_zero, List.set_cons_succ]
          refine held_take (i := 17) (v := (.bool false)) 91 rfl rfl (by kernel_rfl) (by kernel_rfl) (by kernel_rfl) rfl (fun w' hw' => by obtain ⟨q0, q1, q2, q3, q4, q5, q6⟩ := hw'; go_simp) hS5 ?_
          simp only [Act.put, List.setIfInBounds_toArray, List.set_cons_zero, List.set_cons_succ]
          refine held_take (i := 18) (v := (.pointer (some ⟨x, 0, none⟩))) 92 rfl rfl (by kernel_rfl) (by kernel_rfl) (by kernel_rfl) rfl (fun w' hw' => by obtain ⟨q0, q1, q2, q3, q4, q5, q6⟩ := hw'; go_simp) hS5 ?_
          simp only [Act.put, List.setIfInBounds_toArray, List.set_cons_zero, List.set_cons_succ]
          refine held_take (i := 19) (v := (.pointer (some ⟨x, 0, none⟩))) 93 rfl rfl (by kernel_rfl) (by kernel_rfl) (by kernel_rfl) rfl (fun w' hw' => by obtain ⟨q0, q1, q2, q3, q4, q5, q6⟩ := hw'; go_simp) hS5 ?_
          simp only [Act.put, List.setIfInBounds_toArray, List.set_cons_zero, List.set_cons_succ]
          refine held_take (i := 20) (v := (.pointer (some ⟨x, 0, none⟩))) 94 rfl rfl (by kernel_rfl) (by kernel_rfl) (by kernel_rfl) rfl (fun w' hw' => by obtain ⟨q0, q1, q2, q3, q4, q5, q6⟩ := hw'; go_simp) hS5 ?_
          simp only [Act.put, List.setIfInBounds_toArray, List.set_cons_zero, List.set_cons_succ]
          refine held_take (i := 21) (v := (.pointer (some ⟨t, 0, none⟩))) 95 rfl rfl (by kernel_rfl) (by kernel_rfl) (by kernel_rfl) rfl (fun w' hw' => by obtain ⟨q0, q1, q2, q3, q4, q5, q6⟩ := hw'; go_simp) hS5 ?_
          simp only [Act.put, List.setIfInBounds_toArray, List.set_cons_zero, List.set_cons_succ]
          refine held_take (i := 22) (v := (.pointer (some ⟨t, 0, none⟩))) 96 rfl rfl (by kernel_rfl) (by kernel_rfl) (by kernel_rfl) rfl (fun w' hw' => by obtain ⟨q0, q1, q2, q3, q4, q5, q6⟩ := hw'; go_simp) hS5 ?_
          simp only [Act.put, List.setIfInBounds_toArray, List.set_cons_zero, List.set_cons_succ]
          refine held_take (i := 23) (v := (.pointer (some ⟨t, 0, none⟩))) 97 rfl rfl (by kernel_rfl) (by kernel_rfl) (by kernel_rfl) rfl (fun w' hw' => by obtain ⟨q0, q1, q2, q3, q4, q5, q6⟩ := hw'; go_simp) hS5 ?_
          simp only [Act.put, List.setIfInBounds_toArray, List.set_cons_zero, List.set_cons_succ]
          refine held_take (i := 24) (v := (.pointer (some ⟨b, 0, none⟩))) 98 rfl rfl (by kernel_rfl) (by kernel_rfl) (by kernel_rfl) rfl (fun w' hw' => by obtain ⟨q0, q1, q2, q3, q4, q5, q6⟩ := hw'; go_simp) hS5 ?_
          simp only [Act.put, List.setIfInBounds_toArray, List.set_cons_zero, List.set_cons_succ]
          refine held_take (i := 25) (v := (.pointer (some ⟨b, 0, none⟩))) 99 rfl rfl (by kernel_rfl) (by kernel_rfl) (by kernel_rfl) rfl (fun w' hw' => by obtain ⟨q0, q1, q2, q3, q4, q5, q6⟩ := hw'; go_simp) hS5 ?_
          simp only [Act.put, List.setIfInBounds_toArray, List.set_cons_zero, List.set_cons_succ]
          refine held_take (i := 26) (v := (.pointer (some ⟨b, 0, none⟩))) 100 rfl rfl (by kernel_rfl) (by kernel_rfl) (by kernel_rfl) rfl (fun w' hw' => by obtain ⟨q0, q1, q2, q3, q4, q5, q6⟩ := hw'; go_simp) hS5 ?_
          simp only [Act.put, List.setIfInBounds_toArray, List.set_cons_zero, List.set_cons_succ]
          refine held_take (i := 27) (v := (.slice (some ⟨g, 0, none⟩) s.W.length c1)) 101 rfl rfl (by kernel_rfl) (by kernel_rfl) (by kernel_rfl) rfl (fun w' hw' => by obtain ⟨q0, q1, q2, q3, q4, q5, q6⟩ := hw'; go_simp) hS5 ?_
          simp only [Act.put, List.setIfInBounds_toArray, List.set_cons_zero, List.set_cons_succ]
          refine held_take (i := 28) (v := (.slice a4 e.ns.length c4)) 102 rfl rfl (by kernel_rfl) (by kernel_rfl) (by kernel_rfl) rfl (fun w' hw' => by obtain ⟨q0, q1, q2, q3, q4, q5, q6⟩ := hw'; go_simp) hS5 ?_
          simp only [Act.put, List.setIfInBounds_toArray, List.set_cons_zero, List.set_cons_succ]
          refine held_take (i := 30) (v := (.pointer (some ⟨x, 0, none⟩))) 104 rfl rfl (by kernel_rfl) (by kernel_rfl) (by kernel_rfl) rfl (fun w' hw' => by obtain ⟨q0, q1, q2, q3, q4, q5, q6⟩ := hw'; go_simp) hS5 ?_
          simp only [Act.put, List.setIfInBounds_toArray, List.set_cons_zero, List.set_cons_succ]
          refine held_take (i := 31) (v := (.pointer (some ⟨x, 0, none⟩))) 105 rfl rfl (by kernel_rfl) (by kernel_rfl) (by kernel_rfl) rfl (fun w' hw' => by obtain ⟨q0, q1, q2, q3, q4, q5, q6⟩ := hw'; go_simp) hS5 ?_
          simp only [Act.put, List.setIfInBounds_toArray, List.set_cons_zero, List.set_cons_succ]
          refine held_take (i := 32) (v := (.pointer (some ⟨x, 2, none⟩))) 106 rfl rfl (by kernel_rfl) (by kernel_rfl) (by kernel_rfl) rfl (fun w' hw' => by obtain ⟨q0, q1, q2, q3, q4, q5, q6⟩ := hw'; go_simp) hS5 ?_
          simp only [Act.put, List.setIfInBounds_toArray, List.set_cons_zero, List.set_cons_succ]
          refine held_take (i := 33) (v := (.slice (some ⟨ga, 0, none⟩) m kl)) 107 rfl rfl (by kernel_rfl) (by kernel_rfl) (by kernel_rfl) rfl (fun w' hw' => by obtain ⟨q0, q1, q2, q3, q4, q5, q6⟩ := hw'; go_simp) hS5 ?_
          simp only [Act.put, List.setIfInBounds_toArray, List.set_cons_zero, List.set_cons_succ]
          refine held_take (i := 34) (v := (.int .i64 (j : Int))) 108 rfl rfl (by kernel_rfl) (by kernel_rfl) (by kernel_rfl) rfl (fun w' hw' => by obtain ⟨q0, q1, q2, q3, q4, q5, q6⟩ := hw'; go_simp) hS5 ?_
          simp only [Act.put, List.setIfInBounds_toArray, List.set_cons_zero, List.set_cons_succ]
          refine held_take (i := 35) (v := (.pointer (some ⟨ga, j, none⟩))) 109 rfl rfl (by kernel_rfl) (by kernel_rfl) (by kernel_rfl) rfl (fun w' hw' => by obtain ⟨q0, q1, q2, q3, q4, q5, q6⟩ := hw'; go_simp) hS5 ?_
          simp only [Act.put, List.setIfInBounds_toArray, List.set_cons_zero, List.set_cons_succ]
          refine held_take (i := 36) (v := (.pointer (some ⟨e.p, 0, none⟩))) 110 rfl rfl (by kernel_rfl) (by kernel_rfl) (by kernel_rfl) rfl (fun w' hw' => by obtain ⟨q0, q1, q2, q3, q4, q5, q6⟩ := hw'; go_simp) hS5 ?_
          simp only [Act.put, List.setIfInBounds_toArray, List.set_cons_zero, List.set_cons_succ]
          refine held_take (i := 37) (v := (.pointer (some ⟨e.p, 0, none⟩))) 111 rfl rfl (by kernel_rfl) (by kernel_rfl) (by kernel_rfl) rfl (fun w' hw' => by obtain ⟨q0, q1, q2, q3, q4, q5, q6⟩ := hw'; go_simp) hS5 ?_
          simp only [Act.put, List.setIfInBounds_toArray, List.set_cons_zero, List.set_cons_succ]
          refine held_take (i := 38) (v := (.pointer (some ⟨e.p, 2, none⟩))) 112 rfl rfl (by kernel_rfl) (by kernel_rfl) (by kernel_rfl) rfl (fun w' hw' => by obtain ⟨q0, q1, q2, q3, q4, q5, q6⟩ := hw'; go_simp) hS5 ?_
          simp only [Act.put, List.setIfInBounds_toArray, List.set_cons_zero, List.set_cons_succ]
          refine held_take (i := 39) (v := (.slice aw e.ws.length cw)) 113 rfl rfl (by kernel_rfl) (by kernel_rfl) (by kernel_rfl) rfl (fun w' hw' => by obtain ⟨q0, q1, q2, q3, q4, q5, q6⟩ := hw'; go_simp) hS5 ?_
          simp only [Act.put, List.setIfInBounds_toArray, List.set_cons_zero, List.set_cons_succ]
          refine held_call (i := 29) (f := 10) (args := #[.slice (some ⟨g, 0, none⟩) s.W.length c1, .slice a4 e.ns.length c4]) 103 (by kernel_rfl) rfl rfl rfl (by go_simp) ?_
          refine (rwords_any _ _ s.W e.ns HOK.out.2 (wh_in HSM.out.2.1.2.2.2.2.1) (by have := HSM.out.1.1; omega) w5 (HB4.out _ K5.out).1.tw.wd.lies (HN4.out _ K5.out)).mono ?_
          rintro e_ w6 ⟨v6, rfl, hv6, k6⟩
          have K6 := hid (K5.out.trans k6)
          have hS6 := HS4.out _ K6.out
          have hv6 : Wr w6 w5.heap.size v6 e.ws := by rw [HSM.out.2.2]; exact hv6
          obtain ⟨a6, c6, hf6⟩ := hv6.lies.form
          subst hf6
          have HV6 := hid hv6.lies
          clear hS5 k6 hv6 K5
          refine ⟨_, rfl, hS6, ?_⟩
          simp only [Act.put, List.setIfInBounds_toArray, List.set_cons_zero, List.set_cons_succ]
          refine held_call (i := 40) (f := 9) (args := #[.slice a6 e.ws.length c6, .slice aw e.ws.length cw]) 114 (by kernel_rfl) rfl rfl rfl (by go_simp) ?_
          refine (words_same _ _ e.ws (by have := HSM.out.1; omega) _ HV6.out (by rw [← HVW.out]; exact ((HB4.out _ K6.out).1.es e HME.out).rw.lies)).mono ?_
          rintro e_ w7 ⟨rfl, m7, hw7⟩
          have K7 : Hid (Keeps (fun _ => False) w4 w7) := hid (by rw [hw7]; exact K6.out.drewN _)
          have hS7 := HS4.out _ K7.out
          clear hS6 hw7 K6 HV6
          refine ⟨_, rfl, hS7, ?_⟩
          simp only [Act.put, List.setIfInBounds_toArray, List.set_cons_zero, List.set_cons_succ]
          refine held_take (i := 41) (v := (.bool false)) 115 rfl rfl (by kernel_rfl) (by kernel_rfl) (by kernel_rfl) rfl (fun w' hw' => by obtain ⟨q0, q1, q2, q3, q4, q5, q6⟩ := hw'; go_simp) hS7 ?_
          simp only [Act.put, List.setIfInBounds_toArray, List.set_cons_zero, List.set_cons_succ]
          refine held_take (i := 42) (v := (.bool false)) 116 rfl rfl (by kernel_rfl) (by kernel_rfl) (by kernel_rfl) rfl (fun w' hw' => by obtain ⟨q0, q1, q2, q3, q4, q5, q6⟩ := hw'; go_simp) hS7 ?_
          simp only [Act.put, List.setIfInBounds_toArray, List.set_cons_zero, List.set_cons_succ]
          refine held_end (by kernel_rfl) ?_ _
          have HF : Hid (Wo w w7 x t b g c1 b2 g2 c2 (.slice (some ⟨ga, 0, none⟩) m kl) E s r) := hid (HB4.out _ K7.out).1
          clear hS7 HS4 HB4 HN4 HSM HOK K7 HME HVN HVW
          go_wp2_with fail
          go_roundw
          case rel => exact ⟨j + 1, by omega, by go_num, HF⟩
          case measure => simp [intOf]; omega
        · have hlj' : ¬ (j : Int) < (m : Int) := by omega
          have HF : Hid (∃ lv E s r, Wo w Wj x t b g c1 b2 g2 c2 lv E s r ∧ Iv s r N E (20 + 400000 * ((k + 1 : Nat) : Int))) := hid ⟨_, _, _, _, hrj.out, by rw [show 20 + 400000 * ((k + 1 : Nat) : Int) = 20 + 400000 * (k : Int) + 400000 by omega]; exact HI.out⟩
          clear hrj HI
          go_wp2_with fail
          go_roundw
          case rel => exact ⟨k + 1, by omega, by go_num, HF⟩
          case measure => simp [intOf]; omega
    · have hkn' : ¬ (k : Int) < (n : Int) := by omega
      clear hlt
      obtain ⟨lv, E, s, r, hW0, hI0⟩ := hr.out
      obtain ⟨K0, hK0⟩ : ∃ K0 : Int, 20 + 400000 * (k : Int) = K0 := ⟨_, rfl⟩
      have hK1 : K0 < 2400000000000000000 := by omega
      rw [hK0] at hI0
      have HH := hid (And.intro hW0 hI0)
      clear hr hW0 hI0 hK0 hkn HO
      go_wp2_with fail
      go_loopw [10] (fun nv wr' => ∃ j : Nat, j ≤ 16 ∧ nv = .int .u64 ((j : Int) + 1) ∧ Hid (∃ s r, Wo w wr' x t b g c1 b2 g2 c2 lv E s r ∧ Iv s r N E (K0 + 1001 * j))) (fun nv _ => 17 - (intOf nv).toNat)
      case atStart => exact ⟨0, by omega, rfl, hid ⟨s, r, HH.out.1, by simpa using HH.out.2⟩⟩
      case round =>
        obtain ⟨j, hj, rfl, hrj⟩ := hrel
        clear HH
        obtain ⟨s, r, hW, hI⟩ := hrj.out
        generalize wr = Wj at *
        have y0 := hW.x0
        have y1 := hW.x1
        have yt := hW.tw.tx.cell
        by_cases hj16 : j < 16
        · have hj1 : (j : Int) + 1 ≤ 16 := by omega
          obtain ⟨l, s', r', hll, hs, hr, hsW, hI'⟩ := hI.given (n := j + 1) (by omega) (by omega)
          have hs' : s.given 0 ((j : Int) + 1) = ((l, 0), s') := hs
          have hr' : r.given 0 ((j : Int) + 1) = ((l, 0), r') := hr
          have HG := hid (rgiven_any b g c1 s 0 ((j : Int) + 1) Wj hW.tw.wd)
          have HW := hid hW
          have HI := hid (And.intro hI' (And.intro hs' hr'))
          clear hrj hW hI hI' hs hr hs' hr' hsW
          go_wp2_with fail
          refine HG.out.mono ?_
          rintro e_ w8 ⟨v8, rfl, hv8, hd8, k8⟩
          rw [HI.out.2.1] at hv8 hd8 ⊢
          have hW8 := HW.out.tx k8 (HW.out.tw.on k8 hd8)
          have z1 := hW8.x1
          have HW8 := hid hW8
          obtain ⟨a8, c8, hf8⟩ := hv8.lies.form
          subst hf8
          have HV8 := hid (And.intro hv8 HW.out)
          clear HG hv8 hd8 k8 hW8 y0 y1 yt HW
          dsimp only
          go_wp2_with fail
          refine (rgiven_any b2 g2 c2 r 0 ((j : Int) + 1) w8 HW8.out.rw).mono ?_
          rintro e_ w9 ⟨v9, rfl, hv9, hd9, k9⟩
          rw [HI.out.2.2] at hv9 hd9 ⊢
          have hW9 := HW8.out.rf k9 hd9
          have HW9 := hid hW9
          obtain ⟨a9, c9, hf9⟩ := hv9.lies.form
          subst hf9
          have HV9 := hid hv9.lies
          have HV8' : Hid (Lies w9 (.slice a8 l.length c8) l) := hid (HV8.out.1.keeps k9 (fun i hi => by
            have q1 := HV8.out.2.lt b2 in_b2
            have q2 := HV8.out.2.lt g2 in_g2
            rcases hi with hi | hi <;> omega)).lies
          clear hv9 hd9 k9 hW9 HV8 HW8
          dsimp only
          go_wp2_with fail
          refine (words_same _ _ l (by omega) _ HV8'.out HV9.out).mono ?_
          rintro e_ w10 ⟨rfl, m10, hw10⟩
          have HF : Hid (∃ s r, Wo w w10 x t b g c1 b2 g2 c2 lv E s r ∧ Iv s r N E (K0 + 1001 * ((j + 1 : Nat) : Int))) := hid ⟨s', r', by rw [hw10]; exact HW9.out.drewN _, by
            rw [show K0 + 1001 * ((j + 1 : Nat) : Int) = K0 + 1001 * (j : Int) + 1001 by omega]
            exact HI.out.1 HW9.out.tw.wd.ok HW9.out.rw.ok (by omega)⟩
          clear HI HW9 HV9 HV8' hw10
          go_wp2_with fail
          go_roundw
          case rel => exact ⟨j + 1, by omega, by go_num, HF⟩
          case measure => simp [intOf]; omega
        · have hj1 : ¬ (j : Int) + 1 ≤ 16 := by omega
          have yb := hW.tw.wd.cell0
          have yb2 := hW.rw.cell0
          have hsl : 18 ≤ s.W.length := by obtain ⟨bk, h1, _⟩ := hI.ex; have := h1.len; have := h1.to18; omega
          have hrl : 18 ≤ r.W.length := by obtain ⟨bk, _, h1⟩ := hI.ex; have := h1.len; have := h1.to18; omega
          have yg := hW.tw.wd.wcell 0 (by omega)
          have yg2 := hW.rw.wcell 0 (by omega)
          have hnx : oat s.W 0 = oat r.W 0 := hI.nxe
          rw [hnx] at yg
          have hsl' : (0 : Int) < (s.W.length : Int) := by omega
          have hrl' : (0 : Int) < (r.W.length : Int) := by omega
          have HF := hid hW.kp
          clear hrj hW hI hsl hrl hnx hj16 hj
          go_wp2_with fail
          refine wp_region_segs [(true, 23), (false, 6)] (by kernel_rfl) (by kernel_rfl) ?_
          intro q0
          simp only [wpSeg, List.take_succ_cons, List.take_zero, List.drop_succ_cons, List.drop_zero]
          repeat (go_big_quiet_step (fail))
          refine wpQuiet_nil ?_
          intro _ hw'
          obtain ⟨q1, hw''⟩ := hw'
          subst hw''
          try simp only [World.drewN_drewN]
          intro K2 hK'
          go_wp2_with fail
          refine (nothing_any _).mono ?_
          rintro e_ w_ ⟨rfl, hw_⟩
          subst w_
          go_wp2_with fail
          refine (works_any _).mono ?_
          rintro e_ w11 ⟨rfl, k11⟩
          have HE := hid ((HF.out.drewN _).trans k11)
          clear k11 HF y0 y1 yt yb yb2 yg yg2
          go_wp2_with fail
          go_ret
          exact ⟨rfl, HE.out⟩
end Go.Proofs.Ytadbplbifjeghaa
