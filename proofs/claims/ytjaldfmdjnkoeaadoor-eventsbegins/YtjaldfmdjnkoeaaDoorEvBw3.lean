
/- EventsBegins: the law's walk (package parleylaw13), way 3 of four. No statement of the seat is proved here. -/
import Derived.Test.YtjaldfmdjnkoeaaDoorEvBv
namespace Go.Proofs.YtjaldfmdjnkoeaaDoor
open Go.RowKit Go.Shelf

set_option maxRecDepth 100000 in
set_option maxHeartbeats 16000000 in
theorem begins3 (v : Value) (L : List Ev) (cut : Int) (_h0 : -9223372036854775808 ≤ cut) (_h1 : cut < 9223372036854775808) (w : World) (hv : EvsAt w v L) (hg : Gv w) (h8 : 8 ≤ w.heap.size) (G : Nat) (hG : G ≤ L.length) (hGn : ∀ n, n ≤ G → (checkL (L.take n)).2 = 0) (hGl : G < L.length) (hc1 : (checkL L).1 = (G : Int)) (hc2 : (checkL L).2 ≠ 0) (hc3 : checkL (L.take (G + 1)) = checkL L) (hsg : cut.tmod ((G : Int) + 1) < 0) :
    Calls Tryd.prog 7 #[v, .int .i64 cut] w fun ex w' => ex = .returned (.bool true) ∧ Keeps (fun _ => False) w w' := by
  have NN := num_any
  have NN2 : ∀ (n : Int) (W : World), Calls Tryd.prog 29 #[.int .i64 n] W fun e w' => e = .returned (.int .i64 n) ∧ W = w' := fun n W => (num_any n W).mono (fun e w' h => ⟨h.1, h.2.symm⟩)
  have hbg0 : Hid (L.length * 48 ≤ 140737488351232) := hv.big
  have HG : Hid (∀ X, Keeps (fun _ => False) w X → Gv X ∧ 8 ≤ X.heap.size) := fun X k => ⟨hg.keeps k, Nat.le_trans h8 k.size⟩
  have HE : Hid (∀ X, Keeps (fun _ => False) w X → EvsAt X v L) := fun X k => hv.keeps k
  have hlen : L.length ≤ 4611686018427387 := by have := hv.big; omega
  obtain ⟨a, cap, rfl, hcap, _⟩ := hv.els.form
  have K0 := known_any w hg h8
  clear hg h8 hv
  have hz1 : -9223372036854775808 ≤ (checkL L).2 ∧ (checkL L).2 < 1000 := by
    have := chk_bound L st0 0
    unfold checkL
    omega
  generalize hze : (checkL L).2 = z at *
  have hcz : checkL L = ((G : Int), z) := by rw [← hze, ← hc1]
  rw [hcz] at hc3
  have hGi : (0 : Int) ≤ G := by omega
  have wr1 : IntKind.i64.wrap ((G : Int) + 1) = (G : Int) + 1 := by simp [IntKind.wrap, IntKind.signed, IntKind.bits]; omega
  have tn1 : ((G : Int) + 1).toNat = G + 1 := by omega
  have g1 : (0 : Int) ≤ (G : Int) + 1 := by omega
  have g2 : (G : Int) + 1 ≤ (cap : Int) := by omega
  have hd0 : decide ((G : Int) < 0) = false := decide_eq_false (by omega)
  have hd1 : decide ((L.length : Int) < (G : Int)) = false := decide_eq_false (by omega)
  have hd2 : (z == 0) = false := by simpa using hc2
  have hd3 : decide ((0 : Int) ≤ (G : Int)) = true := decide_eq_true hGi
  go_enter Tryd.func7, Tryd.ntmps7
  go_wp2_with fail
  refine K0.mono ?_
  rintro ex w1 ⟨rfl, k1⟩
  clear K0
  go_wp2_with fail
  refine (check_any _ L w1 (HE.out _ k1) (HG.out _ k1).1 (HG.out _ k1).2).mono ?_
  rintro ex w2 ⟨rfl, k2⟩
  rw [hcz]
  dsimp only [odV]
  have K2 := (k1.trans k2).alloc (.cells #[.int .i64 (G : Int), .int .i64 z] 27)
  have b2 := (MapKept.heap_alloc w2 (.cells #[.int .i64 (G : Int), .int .i64 z] 27)).1
  obtain ⟨hr0, hr1⟩ := tmod_in2 (a := cut) (m := (G : Int) + 1) (by omega)
  generalize hr : cut.tmod ((G : Int) + 1) = r at hr0 hr1 hsg
  have c0 : (w2.alloc (.cells #[.int .i64 (G : Int), .int .i64 z] 27)).cell? ⟨w2.heap.size, 0, none⟩ = some (.int .i64 (G : Int)) := by rw [cell_of_block b2]; rfl
  have c1 : (w2.alloc (.cells #[.int .i64 (G : Int), .int .i64 z] 27)).cell? ⟨w2.heap.size, 1, none⟩ = some (.int .i64 z) := by rw [cell_of_block b2]; rfl
  go_wp2_with fail
  generalize w2.alloc (.cells #[.int .i64 (G : Int), .int .i64 z] 27) = X at *
  go_quiet ((go_at_call 29; exact Calls.quiet_of_same (NN _ _)))
  go_wp2_with fail
  obtain ⟨N, hN⟩ := Int.eq_ofNat_of_zero_le (a := r + (G : Int) + 1) (by omega)
  have hNG : N ≤ G := by omega
  simp only [hN]
  clear hN
  have hN0 : (0 : Int) ≤ N := by omega
  have hNL : N ≤ L.length := by omega
  have hNi : (N : Int) ≤ L.length := by omega
  have hNc : (N : Int) ≤ cap := by omega
  have hNC : N ≤ cap := by omega
  have hcn : checkL (L.take N) = (-1, 0) := chk_yes _ st0 0 (hGn N hNG)
  have hcg : checkL (L.take G) = (-1, 0) := chk_yes _ st0 0 (hGn _ (Nat.le_refl _))
  have KX := K2.drewN nq
  have hS : (X.drewN nq).heap[w2.heap.size]? = some (.cells #[.int .i64 (G : Int), .int .i64 z] 27 (0, 0)) := by simpa using b2
  generalize X.drewN nq = Y at *
  clear c0 c1 b2 K2 k1 k2 hr hr0 hr1
  have CK : Hid (∀ W, Keeps (fun _ => False) Y W → Calls Tryd.prog 16 #[.slice a N cap] W fun ex w' => ex = .returned (.agg #[.int .i64 (-1), .int .i64 0]) ∧ w'.heap[w2.heap.size]? = some (.cells #[.int .i64 (G : Int), .int .i64 z] 27 (0, 0)) ∧ Hid (Keeps (fun _ => False) Y w')) := fun W k => by
    have := check_any _ _ W ((HE.out W (KX.trans k)).cut N hNL) (HG.out W (KX.trans k)).1 (HG.out W (KX.trans k)).2
    rw [hcn] at this
    exact this.mono fun ex w' h => ⟨h.1, ((k.trans h.2).block _ (lt_of_block hS) (fun f => f)).trans hS, k.trans h.2⟩
  have CK2 : Hid (∀ W, Keeps (fun _ => False) Y W → Calls Tryd.prog 16 #[.slice a (G + 1) cap] W fun ex w' => ex = .returned (.agg #[.int .i64 (G : Int), .int .i64 z]) ∧ w'.heap[w2.heap.size]? = some (.cells #[.int .i64 (G : Int), .int .i64 z] 27 (0, 0)) ∧ Hid (Keeps (fun _ => False) Y w')) := fun W k => by
    have := check_any _ _ W ((HE.out W (KX.trans k)).cut (G + 1) (by omega)) (HG.out W (KX.trans k)).1 (HG.out W (KX.trans k)).2
    rw [hc3] at this
    exact this.mono fun ex w' h => ⟨h.1, ((k.trans h.2).block _ (lt_of_block hS) (fun f => f)).trans hS, k.trans h.2⟩
  replace hS : Y.drew.heap[w2.heap.size]? = some (.cells #[.int .i64 (G : Int), .int .i64 z] 27 (0, 0)) := hS
  refine wp_held_end (S := fun W => W.heap[w2.heap.size]? = some (.cells #[.int .i64 (G : Int), .int .i64 z] 27 (0, 0))) 20 rfl hmx2 ?_
  simp only [Array.replicate_succ, Array.replicate_zero, List.push_toArray, List.nil_append, List.cons_append]
  refine held_take (i := 0) (v := .slice a L.length cap) 48 rfl rfl (by kernel_rfl) (by kernel_rfl) (by kernel_rfl) rfl (fun w' hw' => by
    go_simp) hS ?_
  simp only [Act.put, List.setIfInBounds_toArray, List.set_cons_zero, List.set_cons_succ]
  refine held_take (i := 1) (v := .int .i64 (N : Int)) 49 rfl rfl (by kernel_rfl) (by kernel_rfl) (by kernel_rfl) rfl (fun w' hw' => by
    go_simp) hS ?_
  simp only [Act.put, List.setIfInBounds_toArray, List.set_cons_zero, List.set_cons_succ]
  refine held_take (i := 2) (v := .slice a N cap) 50 rfl rfl (by kernel_rfl) (by kernel_rfl) (by kernel_rfl) rfl (fun w' hw' => by
    go_simp) hS ?_
  simp only [Act.put, List.setIfInBounds_toArray, List.set_cons_zero, List.set_cons_succ]
  refine held_take (i := 4) (v := .agg #[.int .i64 (-1), .int .i64 0]) 52 rfl rfl (by kernel_rfl) (by kernel_rfl) (by kernel_rfl) rfl (fun w' hw' => by
    go_simp) hS ?_
  simp only [Act.put, List.setIfInBounds_toArray, List.set_cons_zero, List.set_cons_succ]
  refine held_call (i := 3) 51 (by kernel_rfl) rfl rfl rfl (by go_simp) ((CK.out _ (Keeps.refl _ _).drew).mono ?_)
  rintro ex Y1 ⟨rfl, hS, k5⟩
  refine ⟨_, rfl, hS, ?_⟩
  simp only [Act.put, List.setIfInBounds_toArray, List.set_cons_zero, List.set_cons_succ]
  refine held_take (i := 5) (v := .bool false) 53 rfl rfl (by kernel_rfl) (by kernel_rfl) (by kernel_rfl) rfl (fun w' hw' => by
    go_simp) hS ?_
  simp only [Act.put, List.setIfInBounds_toArray, List.set_cons_zero, List.set_cons_succ]
  refine held_take (i := 6) (v := .bool false) 54 rfl rfl (by kernel_rfl) (by kernel_rfl) (by kernel_rfl) rfl (fun w' hw' => by
    go_simp) hS ?_
  simp only [Act.put, List.setIfInBounds_toArray, List.set_cons_zero, List.set_cons_succ]
  refine held_take (i := 7) (v := .pointer (some ⟨w2.heap.size, 0, none⟩)) 55 rfl rfl (by kernel_rfl) (by kernel_rfl) (by kernel_rfl) rfl (fun w' hw' => by
    go_simp) hS ?_
  simp only [Act.put, List.setIfInBounds_toArray, List.set_cons_zero, List.set_cons_succ]
  refine held_take (i := 8) (v := .int .i64 (G : Int)) 56 rfl rfl (by kernel_rfl) (by kernel_rfl) (by kernel_rfl) rfl (fun w' hw' => by
    have q0 : w'.cell? ⟨w2.heap.size, 0, none⟩ = some (.int .i64 (G : Int)) := by rw [cell_of_block hw']; rfl
    have q1 : w'.cell? ⟨w2.heap.size, 1, none⟩ = some (.int .i64 z) := by rw [cell_of_block hw']; rfl
    go_simp) hS ?_
  simp only [Act.put, List.setIfInBounds_toArray, List.set_cons_zero, List.set_cons_succ]
  refine held_take (i := 9) (v := .bool true) 57 rfl rfl (by kernel_rfl) (by kernel_rfl) (by kernel_rfl) rfl (fun w' hw' => by
    go_simp) hS ?_
  simp only [Act.put, List.setIfInBounds_toArray, List.set_cons_zero, List.set_cons_succ]
  refine held_take (i := 10) (v := .bool true) 58 rfl rfl (by kernel_rfl) (by kernel_rfl) (by kernel_rfl) rfl (fun w' hw' => by
    go_simp) hS ?_
  simp only [Act.put, List.setIfInBounds_toArray, List.set_cons_zero, List.set_cons_succ]
  refine held_take (i := 11) (v := .slice a L.length cap) 59 rfl rfl (by kernel_rfl) (by kernel_rfl) (by kernel_rfl) rfl (fun w' hw' => by
    go_simp) hS ?_
  simp only [Act.put, List.setIfInBounds_toArray, List.set_cons_zero, List.set_cons_succ]
  refine held_take (i := 12) (v := .int .i64 (G : Int)) 60 rfl rfl (by kernel_rfl) (by kernel_rfl) (by kernel_rfl) rfl (fun w' hw' => by
    go_simp) hS ?_
  simp only [Act.put, List.setIfInBounds_toArray, List.set_cons_zero, List.set_cons_succ]
  refine held_take (i := 13) (v := .int .i64 ((G : Int) + 1)) 61 rfl rfl (by kernel_rfl) (by kernel_rfl) (by kernel_rfl) rfl (fun w' hw' => by
    go_simp) hS ?_
  simp only [Act.put, List.setIfInBounds_toArray, List.set_cons_zero, List.set_cons_succ]
  refine held_take (i := 14) (v := .slice a (G + 1) cap) 62 rfl rfl (by kernel_rfl) (by kernel_rfl) (by kernel_rfl) rfl (fun w' hw' => by
    go_simp) hS ?_
  simp only [Act.put, List.setIfInBounds_toArray, List.set_cons_zero, List.set_cons_succ]
  refine held_take (i := 16) (v := .agg #[.int .i64 (G : Int), .int .i64 z]) 64 rfl rfl (by kernel_rfl) (by kernel_rfl) (by kernel_rfl) rfl (fun w' hw' => by
    have q0 : w'.cell? ⟨w2.heap.size, 0, none⟩ = some (.int .i64 (G : Int)) := by rw [cell_of_block hw']; rfl
    have q1 : w'.cell? ⟨w2.heap.size, 1, none⟩ = some (.int .i64 z) := by rw [cell_of_block hw']; rfl
    go_simp) hS ?_
  simp only [Act.put, List.setIfInBounds_toArray, List.set_cons_zero, List.set_cons_succ]
  refine held_call (i := 15) 63 (by kernel_rfl) rfl rfl rfl (by go_simp) ((CK2.out _ k5.out).mono ?_)
  rintro ex Y2 ⟨rfl, hS, k6⟩
  refine ⟨_, rfl, hS, ?_⟩
  simp only [Act.put, List.setIfInBounds_toArray, List.set_cons_zero, List.set_cons_succ]
  refine held_take (i := 17) (v := .bool false) 65 rfl rfl (by kernel_rfl) (by kernel_rfl) (by kernel_rfl) rfl (fun w' hw' => by
    go_simp) hS ?_
  simp only [Act.put, List.setIfInBounds_toArray, List.set_cons_zero, List.set_cons_succ]
  refine held_take (i := 18) (v := .bool false) 66 rfl rfl (by kernel_rfl) (by kernel_rfl) (by kernel_rfl) rfl (fun w' hw' => by
    go_simp) hS ?_
  simp only [Act.put, List.setIfInBounds_toArray, List.set_cons_zero, List.set_cons_succ]
  refine held_take (i := 19) (v := .bool false) 67 rfl rfl (by kernel_rfl) (by kernel_rfl) (by kernel_rfl) rfl (fun w' hw' => by
    go_simp) hS ?_
  simp only [Act.put, List.setIfInBounds_toArray, List.set_cons_zero, List.set_cons_succ]
  refine held_end (by kernel_rfl) ?_ _
  have KY := KX.trans k6.out
  have T1 := tries_good _ _ Y2 ((HE.out _ KY).cut N hNL) (HG.out _ KY).1 (HG.out _ KY).2 hcn
  have T2 : Hid (∀ W, Keeps (fun _ => False) w W → Calls Tryd.prog 10 #[.slice a G cap] W fun ex w' => ∃ tv, ex = .returned (.tuple #[tv, .agg #[.int .i64 (-1), .int .i64 0]]) ∧ OwnR Ty.cl 7 42 w' W.heap.size tv (triesL (L.take G)) ∧ Keeps (fun _ => False) W w') := fun W k => tries_good _ _ W ((HE.out _ k).cut G hG) (HG.out _ k).1 (HG.out _ k).2 hcg
  have RL := tries_begins L N G hNG
  have hle := RL.len
  have hAl : (triesL (L.take N)).length ≤ 4611686018427387 := by
    have h := tries_few (hGn N hNG) (L.take N).length (Nat.le_refl _)
    rw [List.take_length] at h
    have h2 : (L.take N).length ≤ N := by rw [List.length_take]; omega
    unfold triesL
    omega
  generalize triesL (L.take N) = A at *
  generalize triesL (L.take G) = B at *
  have HR : Hid (TRel A B) := RL
  have hGc : (G : Int) ≤ cap := by omega
  have hGC : G ≤ cap := by omega
  have hG0 : (0 : Int) ≤ (G : Int) := by omega
  have hlb : decide ((B.length : Int) < (A.length : Int)) = false := decide_eq_false (by omega)
  clear CK hS hcn hcg RL
  go_wp2_with fail
  refine T1.mono ?_
  rintro ex Z1 ⟨pv, rfl, o1, k7⟩
  obtain ⟨pb, pc, hpv⟩ := o1.form
  subst hpv
  have KZ1 := (KY.trans k7).alloc (.cells #[.int .i64 (-1), .int .i64 0] 27)
  have bp := (MapKept.heap_alloc Z1 (.cells #[.int .i64 (-1), .int .i64 0] 27)).1
  have HO1 : Hid (ElsAt Ty.cl 7 (Z1.alloc (.cells #[.int .i64 (-1), .int .i64 0] 27)) (.slice pb A.length pc) A) := (o1.els ty_len).keeps ty_ne ((Keeps.refl _ _).alloc _)
  clear T1 o1 k7
  go_wp2_with fail
  refine (T2.out _ KZ1).mono ?_
  rintro ex Z2 ⟨qv, rfl, o2, k8⟩
  obtain ⟨qb, qc, hqv⟩ := o2.form
  subst hqv
  have k9 := k8.alloc (.cells #[.int .i64 (-1), .int .i64 0] 27)
  have KZ2 := KZ1.trans k9
  have bq := (MapKept.heap_alloc Z2 (.cells #[.int .i64 (-1), .int .i64 0] 27)).1
  have bp2 := (k9.block _ (lt_of_block bp) (fun f => f)).trans bp
  have HB : Hid (ElsAt Ty.cl 7 (Z2.alloc (.cells #[.int .i64 (-1), .int .i64 0] 27)) (.slice qb B.length qc) B) := (o2.els ty_len).keeps ty_ne ((Keeps.refl _ _).alloc _)
  have HA : Hid (ElsAt Ty.cl 7 (Z2.alloc (.cells #[.int .i64 (-1), .int .i64 0] 27)) (.slice pb A.length pc) A) := HO1.out.keeps ty_ne k9
  clear T2 o2 k8 k9 KZ1 bp HO1
  have cp : (Z2.alloc (.cells #[.int .i64 (-1), .int .i64 0] 27)).cell? ⟨Z1.heap.size, 1, none⟩ = some (.int .i64 0) := by rw [cell_of_block bp2]; rfl
  have cq : (Z2.alloc (.cells #[.int .i64 (-1), .int .i64 0] 27)).cell? ⟨Z2.heap.size, 1, none⟩ = some (.int .i64 0) := by rw [cell_of_block bq]; rfl
  clear bp2 bq
  go_wp2_with (go_at_call 29; refine (NN2 _ _).mono ?_; rintro ex w' ⟨rfl, rfl⟩)
  generalize Z2.alloc (.cells #[.int .i64 (-1), .int .i64 0] 27) = Z at *
  simp only [show decide (B.length < A.length) = false from decide_eq_false (by omega)]
  clear hlb
  go_loopw [12] (fun u wr => ∃ (k : Nat), u = .int .i64 k ∧ k ≤ A.length ∧ Keeps (fun _ => False) Z wr) (fun u _ => A.length - (intOf u).toNat)
  case atStart => exact ⟨0, rfl, Nat.zero_le _, Keeps.refl _ _⟩
  case round =>
    clear cp cq
    obtain ⟨k, rfl, hk, kr⟩ := hrel
    by_cases hlt : k < A.length
    · obtain ⟨ga, off, rfl, x⟩ := (HA.out.keeps ty_ne kr).at k hlt
      have hltb : k < B.length := by omega
      obtain ⟨gb, offb, rfl, y⟩ := (HB.out.keeps ty_ne kr).at k hltb
      obtain ⟨t', ht', r1, r2, r3, r4, r5⟩ := HR.out k (A[k]'hlt) (List.getElem?_eq_getElem hlt)
      rw [List.getElem?_eq_getElem hltb] at ht'
      have ht2 := Option.some.inj ht'
      rw [ht2] at y
      generalize A[k]'hlt = t at *
      obtain ⟨th, fi, la, sn, how, rd, wr'⟩ := t
      obtain ⟨th', fi', la', sn', how', rd', wr''⟩ := t'
      dsimp only at r1 r2 r3 r4 r5
      subst r1 r2
      have hki : (k : Int) < A.length := by omega
      have hkb : (k : Int) < B.length := by omega
      have hk0 : (0 : Int) ≤ k := by omega
      have hd3 : decide (rd' < rd) = false := decide_eq_false (by omega)
      have hd4 : decide (la' < la) = false := decide_eq_false (by omega)
      have x0 := x 0 _ rfl
      have x1 := x 1 _ rfl
      have x2 := x 2 _ rfl
      have x3 := x 3 _ rfl
      have x4 := x 4 _ rfl
      have x5 := x 5 _ rfl
      have x6 := x 6 _ rfl
      have y0 := y 0 _ rfl
      have y1 := y 1 _ rfl
      have y2 := y 2 _ rfl
      have y3 := y 3 _ rfl
      have y4 := y 4 _ rfl
      have y5 := y 5 _ rfl
      have y6 := y 6 _ rfl
      simp only [Nat.add_zero] at x0 y0
      dsimp only at x0 x1 x2 x3 x4 x5 x6 y0 y1 y2 y3 y4 y5 y6
      clear x y ht' ht2
      by_cases hw0 : how = 0
      · subst hw0
        go_wp2_with fail
        try simp only [List.append_eq, List.cons_append, List.nil_append]
        go_big_quiet (fail)
        go_wp2_with fail
        go_roundw
        · exact ⟨k + 1, by simp, by omega, kr.drewN _⟩
        · simp [intOf]; omega
      · have := r5 hw0
        simp only [Ty.mk.injEq, true_and] at this
        obtain ⟨rfl, rfl, rfl, rfl, rfl⟩ := this
        have hd5 : (how == 0) = false := by simpa using hw0
        have hd6 : (how != 0) = true := by simpa using hw0
        have hd7 : decide (how = 0) = false := decide_eq_false hw0
        have hd8 : decide (how ≠ 0) = true := decide_eq_true hw0
        have Q1 := eq_ty_self th fi la sn how rd wr'
        go_wp2_with fail
        try simp only [List.append_eq, List.cons_append, List.nil_append]
        go_big_quiet (fail)
        go_wp2_with fail
        go_roundw
        · exact ⟨k + 1, by simp, by omega, kr.drewN _⟩
        · simp [intOf]; omega
    · obtain rfl : k = A.length := by omega
      go_wp2_with fail
      go_ret
      exact ⟨rfl, KZ2.trans kr⟩
end Go.Proofs.YtjaldfmdjnkoeaaDoor
