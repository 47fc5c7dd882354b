/-
  No statement of the seat is proved here. (Several texts in one: OrK.)
-/
import Derived.Test.YthmiainhaebjiaaGreatDoorM28OrI
import Derived.Test.YthmiainhaebjiaaGreatDoorM30OpW
import Derived.Test.YthmiainhaebjiaaGreatDoorM24OpU
import Derived.Test.YthmiainhaebjiaaGreatDoorM31OpY
import Derived.Test.YthmiainhaebjiaaGreatDoorM33OqL

/- The law OpaqueMeans (layer 16). No statement of the seat is proved here. -/
namespace Go.Proofs.YthmiainhaebjiaaGreatDoor
open Go.RowKit Go.Shelf

set_option maxRecDepth 100000 in
theorem num_any (x : Int) (w : World) : Calls Tryz.prog 18 #[.int .i64 x] w fun ex w' => ex = .returned (.int .i64 x) ∧ w' = w := by
  go_enter Tryz.func18, Tryz.ntmps18
  go_wp2
  go_ret
  exact ⟨rfl, rfl⟩
set_option maxRecDepth 100000 in
set_option maxHeartbeats 8000000 in
theorem means_no (va : Option Addr) (vc n : Nat) (v : Value) (hvs : ∃ a m c, v = .slice a m c) (a e : Int) (he : e ≠ 0) (w : World) (hg : Gv w) (h8 : 2 ≤ w.heap.size)
    (PS : ∀ X, Keeps (fun _ => False) w X → Calls Tryz.prog 17 #[.slice va n vc, v] X fun ex w' => ex = .returned (.tuple #[.slice none 0 0, .agg (odV a e)]) ∧ Keeps (fun _ => False) X w') :
    Calls Tryz.prog 4 #[.slice va n vc, v] w fun ex w' => ex = .returned (.bool true) ∧ Keeps (fun _ => False) w w' := by
  have KN := known_any w hg h8
  have NM := fun X => num_any e X
  obtain ⟨a1, m1, cap1, rfl⟩ := hvs
  have hzb : (e == 0) = false := by rw [beq_eq_false_iff_ne]; exact he
  have hzn : (e != 0) = true := by rw [bne_iff_ne]; exact he
  unfold odV at PS
  go_enter Tryz.func4, Tryz.ntmps4
  go_wp2_with fail
  refine KN.mono ?_
  rintro ex w1 ⟨rfl, k1⟩
  clear KN
  have S1 := PS w1 k1
  clear PS
  go_wp2_with fail
  refine S1.mono ?_
  rintro ex w2 ⟨rfl, k2⟩
  clear S1
  have kO := (Keeps.refl (fun _ => False) w2).alloc (.cells #[.int .i64 a, .int .i64 e] 31)
  have KE := (k1.trans k2).trans kO
  go_wp2_with fail
  refine (NM _).mono ?_
  rintro ex w3 ⟨rfl, rfl⟩
  go_wp2_with fail
  go_ret
  exact ⟨rfl, KE⟩
/-- What the calls answer, where nothing is wrong. -/
structure MeC (F : List Int) (L : List Ev) (W : List Pt) (G : List Sg) (vF v : Value) (X : World) : Prop where
  gv : Gv X ∧ 2 ≤ X.heap.size
  ws : WsAt X vF F
  si : Calls Tryz.prog 17 #[vF, v] X fun ex w' => ∃ sv, ex = .returned (.tuple #[sv, .agg #[.int .i64 (-1), .int .i64 0]]) ∧ SR w' X.heap.size sv G ∧ Keeps (fun _ => False) X w'
  nv : Calls Tryz.prog 10 #[vF, v] X fun ex w' => ∃ (sv : Value) (N Ys : List (Int × Int)), ex = .returned (.tuple #[sv, .agg #[.int .i64 (-1), .int .i64 0]]) ∧ NevOf F W (partsL L) N Ys ∧ OwnR clC 2 28 w' X.heap.size sv (ddP Ys Ys.length) ∧ Keeps (fun _ => False) X w'
  ck : Calls Tryz.prog 19 #[vF, v] X fun ex w' => ex = .returned (.tuple #[.int .i64 (idxF atN G 0), .agg #[.int .i64 (-1), .int .i64 0]]) ∧ Keeps (fun _ => False) X w'
  bh : Calls Tryz.prog 6 #[vF, v, .int .i64 0] X fun ex w' => ∃ u, ex = .returned (.tuple #[u, .agg #[.int .i64 (-1), .int .i64 0]]) ∧ WR w' X.heap.size u F ∧ Keeps (fun _ => False) X w'
  rd : ∀ k (h1 : k < (triesL L).length) (h2 : k < (partsL L).length), Calls Tryz.prog 20 #[v, .agg (Ty.cl ((triesL L)[k])).toArray] X fun ex w' => ∃ u, ex = .returned u ∧ CR w' X.heap.size u ((partsL L)[k]).rs ∧ Keeps (fun _ => False) X w'
  tg : ∀ k (h2 : k < (partsL L).length) vs, ElsAt clC 2 X vs ((partsL L)[k]).rs → Calls Tryz.prog 8 #[vF, v, vs] X fun ex w' => ∃ u, ex = .returned (.tuple #[u, .agg #[.int .i64 (-1), .int .i64 0]]) ∧ NR w' X.heap.size u (togL F W 0 W.length ((partsL L)[k]).rs) ∧ Keeps (fun _ => False) X w'
/-- What is known of the sights. -/
structure MeP (F : List Int) (L : List Ev) (W : List Pt) (G : List Sg) : Prop where
  gl : G.length = (triesL L).length
  pl : (triesL L).length = (partsL L).length
  g6 : G.length ≤ 1050000
  f6 : F.length ≤ 65536
  w6 : W.length ≤ 1050000
  at_ : ∀ k (h0 : k < G.length) (h1 : k < (triesL L).length) (h2 : k < (partsL L).length), (G[k]).t = (triesL L)[k] ∧ SgF F W ((partsL L)[k]).rs (G[k]) ∧ ((partsL L)[k]).rs.length ≤ 1050000
  nev : ∀ N Ys, NevOf F W (partsL L) N Ys → 0 < (ddP Ys Ys.length).length → 0 ≤ idxF atN G 0
set_option maxRecDepth 100000 in
set_option maxHeartbeats 8000000 in
theorem means_ok (va : Option Addr) (vc : Nat) (F : List Int) (v : Value) (L : List Ev) (W : List Pt) (G : List Sg) (hvs : ∃ a m c, v = .slice a m c) (w : World) (HC0 : ∀ X, Keeps (fun _ => False) w X → MeC F L W G (.slice va F.length vc) v X) (hP : MeP F L W G) :
    Calls Tryz.prog 4 #[.slice va F.length vc, v] w fun ex w' => ex = .returned (.bool true) ∧ Keeps (fun _ => False) w w' := by
  have HC : Hid (∀ X, Keeps (fun _ => False) w X → MeC F L W G (.slice va F.length vc) v X) := HC0
  have HP : Hid (MeP F L W G) := hP
  have h6 := hP.g6
  have NM := fun X => num_any 0 X
  have m0 := HC.out w (Keeps.refl _ _)
  have KN := known_any w m0.gv.1 m0.gv.2
  obtain ⟨a1, m1, cap1, rfl⟩ := hvs
  clear HC0 hP m0
  go_enter Tryz.func4, Tryz.ntmps4
  go_wp2_with fail
  refine KN.mono ?_
  rintro ex w1 ⟨rfl, k1⟩
  clear KN
  have S1 := (HC.out w1 k1).si
  go_wp2_with fail
  refine S1.mono ?_
  rintro ex w2 ⟨sv, rfl, hG, k2⟩
  clear S1
  obtain ⟨ga_, gc, rfl⟩ := hG.form
  obtain ⟨n0, hn0⟩ : ∃ n, n = G.length := ⟨_, rfl⟩
  rw [← hn0] at hG h6 ⊢
  have HN0 : Hid (n0 = G.length) := hn0
  have K2 := k1.trans k2
  have kO2 := (Keeps.refl (fun _ => False) w2).alloc (.cells #[.int .i64 (-1), .int .i64 0] 31)
  have K2' := K2.trans kO2
  have HG2 : Hid (∀ X, Keeps (fun _ => False) w2 X → ElsAt Sg.cl 10 X (.slice ga_ n0 gc) G) := fun X k => (hG.els sg_len).keeps sg_ne k
  have S2 := (HC.out _ K2').nv
  obtain ⟨A2, hA2⟩ : ∃ A, A = w2.alloc (.cells #[.int .i64 (-1), .int .i64 0] 31) := ⟨_, rfl⟩
  rw [← hA2] at kO2 K2' S2
  have HA2 : Hid (A2 = _) := hA2
  clear hG hn0 hA2
  go_wp2_with fail
  refine (NM _).mono ?_
  rintro ex w2' ⟨rfl, hw2⟩
  rw [← HA2.out] at hw2
  subst hw2
  go_wp2_with fail
  clear HA2
  refine S2.mono ?_
  rintro ex w3 ⟨nv, N, Ys, rfl, hNv, hNo, k3⟩
  clear S2
  obtain ⟨na, nc, rfl⟩ := hNo.form
  have hnev := HP.out.nev N Ys hNv
  obtain ⟨nl, hnl⟩ : ∃ n, n = (ddP Ys Ys.length).length := ⟨_, rfl⟩
  rw [← hnl] at hnev ⊢
  have K3 := K2'.trans k3
  have kO3 := (Keeps.refl (fun _ => False) w3).alloc (.cells #[.int .i64 (-1), .int .i64 0] 31)
  have K3' := K3.trans kO3
  have k23 := (kO2.trans k3).trans kO3
  have S3 := (HC.out _ K3').ck
  generalize idxF atN G 0 = ix at *
  obtain ⟨A3, hA3⟩ : ∃ A, A = w3.alloc (.cells #[.int .i64 (-1), .int .i64 0] 31) := ⟨_, rfl⟩
  rw [← hA3] at kO3 K3' S3 k23
  have HA3 : Hid (A3 = _) := hA3
  clear hA3 hNo hNv hnl K2 K2' K3 k3 kO2 k2
  go_wp2_with fail
  rw [← HA3.out]
  clear HA3
  refine S3.mono ?_
  rintro ex w4 ⟨rfl, k4⟩
  clear S3
  have K4 := K3'.trans k4
  have kO4 := (Keeps.refl (fun _ => False) w4).alloc (.cells #[.int .i64 (-1), .int .i64 0] 31)
  have K4' := K4.trans kO4
  have k24 := (k23.trans k4).trans kO4
  have S4 := (HC.out _ K4').bh
  obtain ⟨A4, hA4⟩ : ∃ A, A = w4.alloc (.cells #[.int .i64 (-1), .int .i64 0] 31) := ⟨_, rfl⟩
  rw [← hA4] at kO4 K4' S4 k24
  have HA4 : Hid (A4 = _) := hA4
  clear hA4 K3' K4 k4 kO4 k23 kO3
  go_wp2_with fail
  rw [← HA4.out]
  clear HA4
  refine S4.mono ?_
  rintro ex w5 ⟨bv, rfl, hB, k5⟩
  clear S4
  obtain ⟨ba, bc, rfl⟩ := hB.form
  have K5 := K4'.trans k5
  have kO5 := (Keeps.refl (fun _ => False) w5).alloc (.cells #[.int .i64 (-1), .int .i64 0] 31)
  have K5' := K5.trans kO5
  have k25 := (k24.trans k5).trans kO5
  have SW := rsamew_any (.slice ba F.length bc) (.slice va F.length vc) F (by have := HP.out.f6; omega) _ ((hB.els wC_len).keeps wC_ne kO5) (HC.out _ K5').ws
  obtain ⟨A5, hA5⟩ : ∃ A, A = w5.alloc (.cells #[.int .i64 (-1), .int .i64 0] 31) := ⟨_, rfl⟩
  rw [← hA5] at kO5 K5' SW k25
  have HA5 : Hid (A5 = _) := hA5
  clear hA5 K4' K5 k5 kO5 k24 hB
  go_wp2_with fail
  refine (NM _).mono ?_
  rintro ex w5' ⟨rfl, hw5⟩
  rw [← HA5.out] at hw5
  subst hw5
  clear HA5
  go_wp2_with fail
  refine SW.mono ?_
  rintro ex w6 ⟨rfl, k6⟩
  clear SW
  have K6 := K5'.trans k6
  have k26 := k25.trans k6
  have HG6 : Hid (∀ X, Keeps (fun _ => False) w6 X → ElsAt Sg.cl 10 X (.slice ga_ n0 gc) G) := fun X k => HG2.out X (k26.trans k)
  have HK6 : Hid (Keeps (fun _ => False) w w6) := K6
  have hnl2 : (nl : Int) > 0 ∧ ¬ (ix < 0) ∨ ¬ (nl : Int) > 0 := by
    by_cases h : 0 < nl
    · have := hnev h
      exact .inl ⟨by omega, by omega⟩
    · exact .inr (by omega)
  clear hnev K5' k6 k25 k26 HG2 k1 K6
  rcases hnl2 with ⟨hq1, hq2⟩ | hq1
  all_goals
    go_wp2_with fail
    go_loopw [13] (fun u wr => ∃ i : Nat, u = .int .i64 i ∧ i ≤ n0 ∧ Keeps (fun _ => False) w6 wr) (fun u _ => n0 - (intOf u).toNat)
    case atStart => exact ⟨0, rfl, Nat.zero_le _, Keeps.refl _ _⟩
    case round =>
      obtain ⟨i, rfl, hi, kr⟩ := hrel
      generalize wr = Wo at *
      have hwi : IntKind.i64.wrap ((i : Int) + 1) = (i : Int) + 1 := by rw [IntKind.wrap_i64]; omega
      by_cases hlt : i < n0
      · have hii : (i : Int) < n0 := by omega
        have hi0 : (0 : Int) ≤ i := by omega
        have hiG : i < G.length := by rw [← HN0.out]; exact hlt
        have hiT : i < (triesL L).length := by rw [← HP.out.gl]; exact hiG
        have hiP : i < (partsL L).length := by rw [← HP.out.pl]; exact hiT
        obtain ⟨g, off, e1, hc⟩ := (HG6.out Wo kr).at i hiG
        subst e1
        obtain ⟨hat, hsf, hrl⟩ := HP.out.at_ i hiG hiT hiP
        have HRD : Hid (∀ X, Keeps (fun _ => False) w6 X → Calls Tryz.prog 20 #[.slice a1 m1 cap1, .agg (Ty.cl ((triesL L)[i]'hiT)).toArray] X fun ex w' => ∃ u, ex = .returned u ∧ CR w' X.heap.size u ((partsL L)[i]'hiP).rs ∧ Keeps (fun _ => False) X w') := fun X k => (HC.out X (HK6.out.trans k)).rd i hiT hiP
        have HTG : Hid (∀ X, Keeps (fun _ => False) w6 X → ∀ vs, ElsAt clC 2 X vs ((partsL L)[i]'hiP).rs → Calls Tryz.prog 8 #[.slice va F.length vc, .slice a1 m1 cap1, vs] X fun ex w' => ∃ u, ex = .returned (.tuple #[u, .agg #[.int .i64 (-1), .int .i64 0]]) ∧ NR w' X.heap.size u (togL F W 0 W.length ((partsL L)[i]'hiP).rs) ∧ Keeps (fun _ => False) X w') := fun X k vs h => (HC.out X (HK6.out.trans k)).tg i hiP vs h
        rw [← hat] at HRD
        have htl : (togL F W 0 W.length ((partsL L)[i]'hiP).rs).length ≤ 1050001 := by
          have := HP.out.w6
          unfold togL
          rw [List.length_map]
          exact Nat.le_trans (List.length_filter_le _ _) (by rw [List.length_range]; omega)
        generalize G[i]'hiG = s at *
        generalize ((partsL L)[i]'hiP).rs = rs at *
        have hfu := hsf.fu
        have hau := hsf.au
        have haf := hsf.af
        have hno := hsf.no
        generalize togL F W 0 W.length rs = tg at *
        obtain ⟨⟨tth, a, b, tsn, thow, trd, twr⟩, sfr, sup, sat⟩ := s
        dsimp only at hfu hau haf hno hat
        change Hid (∀ X, Keeps (fun _ => False) w6 X → Calls Tryz.prog 20 #[.slice a1 m1 cap1, .agg #[.int .i64 tth, .int .i64 a, .int .i64 b, .int .u64 tsn, .int .i64 thow, .int .i64 trd, .int .i64 twr]] X _) at HRD
        have y0 := hc 0 _ rfl
        have y1 := hc 1 _ rfl
        have y2 := hc 2 _ rfl
        have y3 := hc 3 _ rfl
        have y4 := hc 4 _ rfl
        have y5 := hc 5 _ rfl
        have y6 := hc 6 _ rfl
        have y7 := hc 7 _ rfl
        have y8 := hc 8 _ rfl
        have y9 := hc 9 _ rfl
        dsimp only at y0 y1 y2 y3 y4 y5 y6 y7 y8 y9
        simp only [Nat.add_zero] at y0
        have kB := (Keeps.refl (fun _ => False) Wo).alloc (.cells #[.int .i64 tth, .int .i64 a, .int .i64 b, .int .u64 tsn, .int .i64 thow, .int .i64 trd, .int .i64 twr, .int .i64 sfr, .int .i64 sup, .int .i64 sat] 56)
        have bB := (MapKept.heap_alloc Wo (.cells #[.int .i64 tth, .int .i64 a, .int .i64 b, .int .u64 tsn, .int .i64 thow, .int .i64 trd, .int .i64 twr, .int .i64 sfr, .int .i64 sup, .int .i64 sat] 56)).1
        have RD := HRD.out _ (kr.trans kB)
        obtain ⟨bx, hbx⟩ : ∃ b, b = Wo.heap.size := ⟨_, rfl⟩
        rw [← hbx] at bB
        obtain ⟨A, hA⟩ : ∃ A, A = Wo.alloc (.cells #[.int .i64 tth, .int .i64 a, .int .i64 b, .int .u64 tsn, .int .i64 thow, .int .i64 trd, .int .i64 twr, .int .i64 sfr, .int .i64 sup, .int .i64 sat] 56) := ⟨_, rfl⟩
        rw [← hA] at kB bB RD
        have HAA : Hid (A = _) := hA
        have HBX : Hid (bx = Wo.heap.size) := hbx
        have KA := kr.trans kB
        have HSF : Hid ((0 ≤ sat → sfr ≤ sat ∧ sat ∈ tg) ∧ (rs = [] → sat = sup)) := ⟨haf, hno⟩
        clear hA hbx hc hat hsf haf hno HRD kr kB
        go_wp2_with fail
        rw [← HAA.out]
        try rw [← HBX.out]
        clear HAA HBX y0 y1 y2 y3 y4 y5 y6 y7 y8 y9
        refine RD.mono ?_
        rintro ex w7 ⟨uw, rfl, hUW, k7⟩
        clear RD
        have K7 := KA.trans k7
        have TG := HTG.out w7 K7 uw (hUW.els cl_len)
        obtain ⟨ua, uc, rfl⟩ := hUW.form
        obtain ⟨rl, hrlen⟩ : ∃ n, n = rs.length := ⟨_, rfl⟩
        rw [← hrlen] at TG hrl ⊢
        have HRL : Hid (rl = rs.length) := hrlen
        clear hrlen hUW HTG
        go_wp2_with fail
        refine TG.mono ?_
        rintro ex w8 ⟨tv, rfl, hT, k8⟩
        clear TG
        have K8 := K7.trans k8
        have kO8 := (Keeps.refl (fun _ => False) w8).alloc (.cells #[.int .i64 (-1), .int .i64 0] 31)
        have bO8 := (MapKept.heap_alloc w8 (.cells #[.int .i64 (-1), .int .i64 0] 31)).1
        obtain ⟨p8, hp8⟩ : ∃ p, p = w8.heap.size := ⟨_, rfl⟩
        rw [← hp8] at bO8
        have bB8 := (((k7.trans k8).trans kO8).block _ (lt_of_block bB) (fun f => f)).trans bB
        have hT8 := hT.keeps kO8 (fun _ _ f => f)
        obtain ⟨ta, tc, rfl⟩ := hT.form
        obtain ⟨tl, htlen⟩ : ∃ n, n = tg.length := ⟨_, rfl⟩
        rw [← htlen] at hT8 htl ⊢
        have HTL : Hid (tl = tg.length) := htlen
        obtain ⟨V, hV⟩ : ∃ V, V = w8.alloc (.cells #[.int .i64 (-1), .int .i64 0] 31) := ⟨_, rfl⟩
        rw [← hV] at kO8 bO8 bB8 hT8
        have HVV : Hid (V = _) := hV
        have HP8 : Hid (p8 = _) := hp8
        have KV := K8.trans kO8
        have HBK : Hid (∀ X, Keeps (fun _ => False) V X → X.heap[bx]? = some (.cells #[.int .i64 tth, .int .i64 a, .int .i64 b, .int .u64 tsn, .int .i64 thow, .int .i64 trd, .int .i64 twr, .int .i64 sfr, .int .i64 sup, .int .i64 sat] 56 (0, 0)) ∧ X.heap[p8]? = some (.cells #[.int .i64 (-1), .int .i64 0] 31 (0, 0))) := fun X k => ⟨(k.block _ (lt_of_block bB8) (fun f => f)).trans bB8, (k.block _ (lt_of_block bO8) (fun f => f)).trans bO8⟩
        have HTT : Hid (∀ X, Keeps (fun _ => False) V X → NR X w7.heap.size (.slice ta tl tc) tg) := fun X k => hT8.keeps k (fun _ _ f => f)
        clear hV hp8 hT hT8 htlen bO8 bB8 bB kO8 K8 k8 K7 k7 KA
        go_wp2_with fail
        rw [← HVV.out]
        try rw [← HP8.out]
        clear HVV HP8
        go_loopw [18, 19] (fun u18 u19 wr => ∃ (k : Nat) (f : Bool), u18 = .bool f ∧ u19 = .int .i64 k ∧ k ≤ tl ∧ Hid (f = decide (sat ∈ tg.take k)) ∧ Keeps (fun _ => False) V wr) (fun _ u19 _ => tl - (intOf u19).toNat)
        case atStart => exact ⟨0, false, rfl, rfl, Nat.zero_le _, by unfold Hid; simp, Keeps.refl _ _⟩
        case round =>
          obtain ⟨k, f, rfl, rfl, hk, hf, kq⟩ := hrel
          have hkw : IntKind.i64.wrap ((k : Int) + 1) = (k : Int) + 1 := by rw [IntKind.wrap_i64]; omega
          obtain ⟨bX, bQ⟩ := HBK.out wr kq
          by_cases hlk : k < tl
          · have hki : (k : Int) < tl := by omega
            have hk0 : (0 : Int) ≤ k := by omega
            have hkt : k < tg.length := by rw [← HTL.out]; exact hlk
            obtain ⟨ga, tc', hga, -, -, hcl⟩ := own_cellN (HTT.out wr kq) HTL.out.symm (by omega)
            simp only [Value.slice.injEq] at hga
            obtain ⟨rfl, -, rfl⟩ := hga
            have x0 := hcl wr (Keeps.refl _ _) k hkt
            have htk : tg.take (k + 1) = tg.take k ++ [tg[k]'hkt] := List.take_succ_eq_append_getElem hkt
            generalize tg[k]'hkt = x at *
            have x9 : wr.cell? ⟨bx, 9, none⟩ = some (.int .i64 sat) := by rw [cell_of_block bX]; rfl
            have hS0 : wr.cell? ⟨ga, k, none⟩ = some (.int .i64 x) ∧ wr.cell? ⟨bx, 9, none⟩ = some (.int .i64 sat) := ⟨x0, x9⟩
            have hS1 : wr.drew.cell? ⟨ga, k, none⟩ = some (.int .i64 x) ∧ wr.drew.cell? ⟨bx, 9, none⟩ = some (.int .i64 sat) := ⟨x0, x9⟩
            have kd := kq.drew
            clear hcl bX bQ
            cases f with
            | true =>
              have HF : Hid (true = decide (sat ∈ tg.take (k + 1))) := by
                unfold Hid
                have h1 := hf.out
                rw [eq_comm, decide_eq_true_eq] at h1 ⊢
                rw [htk]
                exact List.mem_append.2 (.inl h1)
              clear hf htk
              go_wp2_with fail
              refine wp_held_end (S := fun W : World => W.cell? ⟨ga, k, none⟩ = some (.int .i64 x) ∧ W.cell? ⟨bx, 9, none⟩ = some (.int .i64 sat)) 11 rfl hmxp ?_
              simp only [Array.replicate_succ, Array.replicate_zero, List.push_toArray, List.nil_append, List.cons_append]
              refine held_take (i := 0) (v := (.bool true)) 99 rfl rfl (by kernel_rfl) (by kernel_rfl) (by kernel_rfl) rfl (fun w' hw' => by obtain ⟨q0, q1⟩ := hw'; go_simp) hS1 ?_
              simp only [Act.put, List.setIfInBounds_toArray, List.set_cons_zero, List.set_cons_succ]
              refine held_take (i := 1) (v := (.bool true)) 100 rfl rfl (by kernel_rfl) (by kernel_rfl) (by kernel_rfl) rfl (fun w' hw' => by obtain ⟨q0, q1⟩ := hw'; go_simp) hS1 ?_
              simp only [Act.put, List.setIfInBounds_toArray, List.set_cons_zero, List.set_cons_succ]
              refine held_skipO (i := 2) 101 rfl rfl (by kernel_rfl) (by kernel_rfl) (by kernel_rfl) rfl hS1 ?_
              simp only [Act.put, List.setIfInBounds_toArray, List.set_cons_zero, List.set_cons_succ]
              refine held_skipO (i := 3) 102 rfl rfl (by kernel_rfl) (by kernel_rfl) (by kernel_rfl) rfl hS1 ?_
              simp only [Act.put, List.setIfInBounds_toArray, List.set_cons_zero, List.set_cons_succ]
              refine held_skipO (i := 4) 103 rfl rfl (by kernel_rfl) (by kernel_rfl) (by kernel_rfl) rfl hS1 ?_
              simp only [Act.put, List.setIfInBounds_toArray, List.set_cons_zero, List.set_cons_succ]
              refine held_skipO (i := 5) 104 rfl rfl (by kernel_rfl) (by kernel_rfl) (by kernel_rfl) rfl hS1 ?_
              simp only [Act.put, List.setIfInBounds_toArray, List.set_cons_zero, List.set_cons_succ]
              refine held_skipO (i := 6) 105 rfl rfl (by kernel_rfl) (by kernel_rfl) (by kernel_rfl) rfl hS1 ?_
              simp only [Act.put, List.setIfInBounds_toArray, List.set_cons_zero, List.set_cons_succ]
              refine held_skipO (i := 7) 106 rfl rfl (by kernel_rfl) (by kernel_rfl) (by kernel_rfl) rfl hS1 ?_
              simp only [Act.put, List.setIfInBounds_toArray, List.set_cons_zero, List.set_cons_succ]
              refine held_skipO (i := 8) 107 rfl rfl (by kernel_rfl) (by kernel_rfl) (by kernel_rfl) rfl hS1 ?_
              simp only [Act.put, List.setIfInBounds_toArray, List.set_cons_zero, List.set_cons_succ]
              refine held_take (i := 9) (v := (.bool true)) 108 rfl rfl (by kernel_rfl) (by kernel_rfl) (by kernel_rfl) rfl (fun w' hw' => by obtain ⟨q0, q1⟩ := hw'; go_simp) hS1 ?_
              simp only [Act.put, List.setIfInBounds_toArray, List.set_cons_zero, List.set_cons_succ]
              refine held_take (i := 10) (v := (.bool true)) 18 rfl rfl (by kernel_rfl) (by kernel_rfl) (by kernel_rfl) rfl (fun w' hw' => by obtain ⟨q0, q1⟩ := hw'; go_simp) hS1 ?_
              simp only [Act.put, List.setIfInBounds_toArray, List.set_cons_zero, List.set_cons_succ]
              refine held_end (by kernel_rfl) ?_ _
              go_wp2_with fail
              go_roundw
              · exact ⟨k + 1, true, rfl, by simp, by omega, HF, kd⟩
              · simp [intOf]; omega
            | false =>
              have h1 : ¬ sat ∈ tg.take k := by
                have := hf.out
                rw [eq_comm, decide_eq_false_iff_not] at this
                exact this
              by_cases hxs : x = sat
              · have hxb : (x == sat) = true := by rw [beq_iff_eq]; exact hxs
                have HF : Hid (true = decide (sat ∈ tg.take (k + 1))) := by
                  unfold Hid
                  rw [eq_comm, decide_eq_true_eq, htk, hxs]
                  exact List.mem_append.2 (.inr (by simp))
                clear hf htk h1 hxs
                go_wp2_with fail
                go_region_held3 (fun W : World => W.cell? ⟨ga, k, none⟩ = some (.int .i64 x) ∧ W.cell? ⟨bx, 9, none⟩ = some (.int .i64 sat)) (first | assumption | (exact hS0) | go_keep) (fail)
                go_wp2_with fail
                go_roundw
                · exact ⟨k + 1, true, rfl, by simp, by omega, HF, kd⟩
                · simp [intOf]; omega
              · have hxb : (x == sat) = false := by rw [beq_eq_false_iff_ne]; exact hxs
                have HF : Hid (false = decide (sat ∈ tg.take (k + 1))) := by
                  unfold Hid
                  rw [eq_comm, decide_eq_false_iff_not, htk]
                  intro c
                  rcases List.mem_append.1 c with c | c
                  · exact h1 c
                  · simp only [List.mem_singleton] at c
                    exact hxs c.symm
                clear hf htk h1 hxs
                go_wp2_with fail
                go_region_held3 (fun W : World => W.cell? ⟨ga, k, none⟩ = some (.int .i64 x) ∧ W.cell? ⟨bx, 9, none⟩ = some (.int .i64 sat)) (first | assumption | (exact hS0) | go_keep) (fail)
                go_wp2_with fail
                go_roundw
                · exact ⟨k + 1, false, rfl, by simp, by omega, HF, kd⟩
                · simp [intOf]; omega
          · have hki : ¬ ((k : Int) < (tl : Int)) := by omega
            have hf2 : f = decide (sat ∈ tg) := by
              have h1 := hf.out
              rw [show k = tg.length by rw [← HTL.out]; omega, List.take_length] at h1
              exact h1
            have x7 : wr.cell? ⟨bx, 7, none⟩ = some (.int .i64 sfr) := by rw [cell_of_block bX]; rfl
            have x8 : wr.cell? ⟨bx, 8, none⟩ = some (.int .i64 sup) := by rw [cell_of_block bX]; rfl
            have x9 : wr.cell? ⟨bx, 9, none⟩ = some (.int .i64 sat) := by rw [cell_of_block bX]; rfl
            have q1 : wr.cell? ⟨p8, 1, none⟩ = some (.int .i64 0) := by rw [cell_of_block bQ]; rfl
            have n1 : ¬ sfr > sup := by omega
            have n2 : ¬ sat > sup := by omega
            have KE := KV.trans kq
            have hrs : rl = 0 ∧ sat = sup ∨ ¬ rl = 0 := by
              by_cases h : rl = 0
              · exact .inl ⟨h, HSF.out.2 (List.length_eq_zero_iff.1 (by rw [← HRL.out]; exact h))⟩
              · exact .inr h
            have hsa : (sat ≥ 0 ∧ ¬ sat < sfr ∧ f = true) ∨ ¬ sat ≥ 0 := by
              by_cases h : 0 ≤ sat
              · obtain ⟨h1, h2⟩ := HSF.out.1 h
                exact .inl ⟨h, by omega, by rw [hf2]; simp [h2]⟩
              · exact .inr (by omega)
            clear hf hf2 bX bQ HSF HTT HBK HTL HRL KV kq
            rcases hsa with ⟨s1, s2, rfl⟩ | s1
            all_goals
              rcases hrs with ⟨t1, t2⟩ | t1
            · subst t1 t2
              go_wp2_with fail
              refine (NM _).mono ?_
              rintro ex wz ⟨rfl, rfl⟩
              go_wp2_with fail
              go_roundw
              · exact ⟨i + 1, by simp, by omega, KE⟩
              · simp [intOf]; omega
            · have t2 : ¬ (rl : Int) = 0 := by omega
              have t3 : ((rl : Int) == 0) = false := by rw [beq_eq_false_iff_ne]; exact t2
              go_wp2_with fail
              refine (NM _).mono ?_
              rintro ex wz ⟨rfl, rfl⟩
              go_wp2_with fail
              go_roundw
              · exact ⟨i + 1, by simp, by omega, KE⟩
              · simp [intOf]; omega
            · subst t1 t2
              go_wp2_with fail
              refine (NM _).mono ?_
              rintro ex wz ⟨rfl, rfl⟩
              go_wp2_with fail
              go_roundw
              · exact ⟨i + 1, by simp, by omega, KE⟩
              · simp [intOf]; omega
            · have t2 : ¬ (rl : Int) = 0 := by omega
              have t3 : ((rl : Int) == 0) = false := by rw [beq_eq_false_iff_ne]; exact t2
              go_wp2_with fail
              refine (NM _).mono ?_
              rintro ex wz ⟨rfl, rfl⟩
              go_wp2_with fail
              go_roundw
              · exact ⟨i + 1, by simp, by omega, KE⟩
              · simp [intOf]; omega
      · have hii : ¬ ((i : Int) < (n0 : Int)) := by omega
        have KF := HK6.out.trans kr
        go_wp2_with fail
        go_ret
        exact ⟨rfl, KF⟩
end Go.Proofs.YthmiainhaebjiaaGreatDoor
