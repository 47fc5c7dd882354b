
/- The document's Stands, walked (layer 24). No statement of the seat is proved here. -/
import Derived.Test.YtalopkllldnipaaRpG
import Derived.Test.YtalopkllldnipaaRqM
import Derived.OwnWalk
namespace Go.Proofs.Ytalopkllldnipaa
open Go.RowKit

def lnV : Value → Nat
  | .slice _ n _ => n
  | _ => 0
/-- What the rounds of Stands keep: R is what they come to. -/
structure St (w : World) (W : List Int) (n : Int) (R : Option (List (Int × Int))) (O : List (Int × Int)) (M : List Int) (Wt : List (Int × Int)) (vo vm vw va : Value) (X : World) : Prop where
  rw : Rw X w.heap.size vo vm vw va O M (Wt.map Prod.fst) (Wt.map Prod.snd)
  k : Keeps (fun _ => False) w X
  wd : ∀ p ∈ Wt, isW p.1 ∧ isW p.2
  ol : O.length = M.length
  ml : M.length ≤ 1001
  wl : Wt.length ≤ M.length + 1
  uk : ∀ p ∈ Wt, p.2 = 0 ∨ okN W p.2 = true
  r : stS W n (1002 - M.length) M Wt O = R
theorem Wr.cellAt {w : World} {base : Nat} {a : Option Addr} {c n : Nat} {ws : List Int} (h : Wr w base (.slice a n c) ws) {i : Nat} (hi : i < ws.length) : ∃ g, a = some ⟨g, 0, none⟩ ∧ w.cell? ⟨g, i, none⟩ = some (.int .u64 (oat ws i)) := by
  rcases id h.2 with ⟨h1, h2⟩ | ⟨g, cap, cur, hv, h1, h2, h3, h4, h5, h6⟩
  · omega
  · injection hv with e1 e2 e3
    subst e1 e3
    refine ⟨g, rfl, ?_⟩
    have e : Value.slice (some ⟨g, 0, none⟩) n c = .slice (some ⟨g, 0, none⟩) ws.length c := by rw [e2]
    rw [e] at h
    have q := World.ownsRow.cellAt h i (by omega)
    rw [q]
    simp [wordsV, oat, hi]
theorem wr_len {w : World} {base : Nat} {a : Option Addr} {c n : Nat} {ws : List Int} (h : Wr w base (.slice a n c) ws) : n = ws.length ∧ n ≤ c := by
  rcases id h.2 with ⟨h1, h2⟩ | ⟨g, cap, cur, hv, h1, h2, h3, h4, h5, h6⟩
  · injection h1 with e1 e2 e3
    omega
  · injection hv with e1 e2 e3
    omega
theorem Wr.as {w : World} {base : Nat} {v : Value} {ws : List Int} (h : Wr w base v ws) {m : Nat} (hm : ws.length = m) : ∃ a c, v = .slice a m c := by
  obtain ⟨a, c, e, _⟩ := h.form'
  exact ⟨a, c, by rw [e, hm]⟩
theorem kd1_few (y : Int) : (kd1 y).length ≤ 1 := by unfold kd1; split <;> simp
theorem wr_base {w : World} {base : Nat} {v : Value} {ws : List Int} (h : Wr w base v ws) {i : Nat} (hi : v.ownBlock = some i) : base ≤ i := by
  rcases id h.2 with ⟨h1, _⟩ | ⟨g, cap, cur, rfl, h1, _⟩
  · rw [h1] at hi; cases hi
  · have e : g = i := by simpa [Value.ownBlock] using hi
    omega
theorem stS_none {W : List Int} {n : Int} {k : Nat} {M : List Int} {Wt O : List (Int × Int)} (h : Wt.getLast? = none) : stS W n (k + 1) M Wt O = some O := by
  unfold stS
  rw [h]
theorem stS_some {W : List Int} {n : Int} {k : Nat} {M : List Int} {Wt O : List (Int × Int)} {p : Int × Int} (h : Wt.getLast? = some p) (ho : stO W n M O.length p.1 p.2) : stS W n (k + 1) M Wt O = stS W n k (M ++ [p.1]) (Wt.dropLast ++ (kdN W p.1).map (fun y => (y, p.1))) (insE (enN W p.1) O) := by
  conv => lhs; unfold stS
  rw [h]
  exact if_pos ho
theorem stS_not {W : List Int} {n : Int} {k : Nat} {M : List Int} {Wt O : List (Int × Int)} {p : Int × Int} (h : Wt.getLast? = some p) (ho : ¬ stO W n M O.length p.1 p.2) : stS W n (k + 1) M Wt O = none := by
  conv => lhs; unfold stS
  rw [h]
  exact if_neg ho
set_option maxRecDepth 100000 in
set_option maxHeartbeats 8000000 in
theorem dstands_any (xs : List Int) (v : Value) (h : Int) (hh : isW h) (hW : ∀ x ∈ xs, isW x) (hl : xs.length ≤ 1000000) (hc : inH xs h → cnH xs h ≤ 1000) (w : World) (hr : Lies w v xs) :
    Calls Try.prog 17 #[v, .int .u64 h] w fun e w' => ∃ vo b, e = .returned (.tuple #[vo, .bool b]) ∧ Keeps (fun _ => False) w w' ∧ (b = true → ∃ O, Fnd xs h 1002 O ∧ LiesE w' vo O) ∧ (b = false → ¬ ∃ O, Fnd xs h 1002 O) := by
  have HL : Hid (∀ X, Keeps (fun _ => False) w X → Lies X v xs) := hid fun X k => hr.keeps k (fun _ _ _ _ f => f)
  have hu0 : uw (h + (0 : Nat)) = h := by rw [show h + ((0 : Nat) : Int) = h by omega]; exact uw_id hh
  have HW0 := hid (fun X (q : Lies X v xs) => dword_any xs v h hh hl X q)
  have HW1 : Hid (∀ X, Lies X v xs → Calls Try.prog 39 #[v, .int .u64 (IntKind.u64.wrap (h + 1))] X fun e w' => e = .returned (.tuple #[.int .u64 (rtH xs h), .bool (decide (uw (h + (1 : Nat)) < (xs.length : Int)))]) ∧ w' = X) := hid fun X q => dword_any xs v (uw (h + 1)) (uw_isW _) hl X q
  have hcn : oat xs h.toNat = cnH xs h := by unfold cnH; rw [hu0]
  rw [hcn] at HW0
  have HIN : Hid (inH xs h ↔ h < (xs.length : Int) ∧ uw (h + (1 : Nat)) < (xs.length : Int)) := by unfold inH; rw [hu0]; exact hid Iff.rfl
  have hcw : isW (cnH xs h) := oat_isW hW _
  have hrw : isW (rtH xs h) := oat_isW hW _
  have HWW := hid hW
  have HCC := hid hc
  clear hr hu0 hcn hW hc
  generalize hcn : cnH xs h = cn at *
  generalize hrt : rtH xs h = rt at *
  have HFN : Hid (∀ O, Fnd xs h 1002 O ↔ inH xs h ∧ stS xs cn 1002 [] ((kd1 rt).map (fun y => (y, 0))) [] = some O ∧ (O.length : Int) = cn) := by
    unfold Fnd
    rw [hcn, hrt]
    exact hid fun O => Iff.rfl
  clear hcn hrt
  go_enter Try.func17, Try.ntmps17
  go_wp2_with fail
  refine (HW0.out _ (HL.out _ (Keeps.refl _ _))).mono ?_
  rintro e_ w_ ⟨rfl, hw_⟩
  subst w_
  go_wp2_with fail
  refine (HW1.out _ (HL.out _ (Keeps.refl _ _))).mono ?_
  rintro e_ w_ ⟨rfl, hw_⟩
  subst w_
  clear HW0 HW1
  by_cases h0 : h < (xs.length : Int)
  rotate_left
  · have hd : decide (h < (xs.length : Int)) = false := decide_eq_false h0
    have HN : Hid (¬ inH xs h) := hid fun q => h0 (HIN.out.1 q).1
    clear h0
    go_wp2_with fail
    go_ret2
    exact ⟨.slice none 0 0, false, rfl, Keeps.refl _ _, fun f => by (cases f), fun _ ⟨O, hO⟩ => HN.out hO.1⟩
  have hd0 : decide (h < (xs.length : Int)) = true := decide_eq_true h0
  by_cases h1 : uw (h + (1 : Nat)) < (xs.length : Int)
  rotate_left
  · have hd : decide (uw (h + (1 : Nat)) < (xs.length : Int)) = false := decide_eq_false h1
    have HN : Hid (¬ inH xs h) := hid fun q => h1 (HIN.out.1 q).2
    clear h1
    rw [hd]
    go_wp2_with fail
    go_ret2
    exact ⟨.slice none 0 0, false, rfl, Keeps.refl _ _, fun f => by (cases f), fun _ ⟨O, hO⟩ => HN.out hO.1⟩
  have hd1 : decide (uw (h + (1 : Nat)) < (xs.length : Int)) = true := decide_eq_true h1
  have HIN2 : Hid (inH xs h) := hid (HIN.out.2 ⟨h0, h1⟩)
  have hcs : cn ≤ 1000 := HCC.out HIN2.out
  rw [hd1]
  clear HIN HCC h0 h1 hd1
  -- the start
  obtain ⟨R, hR⟩ : ∃ R, stS xs cn 1002 [] ((kd1 rt).map (fun y => (y, 0))) [] = R := ⟨_, rfl⟩
  rw [hR] at HFN
  by_cases hz : rt = 0
  · skip
    subst hz
    have hR0 : R = some [] := by rw [← hR]; rfl
    by_cases hc0 : cn = 0
    · subst hc0
      go_wp2_with fail
      refine wp_loop_rounds 1 ?_
      rw [rounds_succ]
      go_wp2_with fail
      go_ret2
      exact ⟨.slice none 0 0, true, rfl, Keeps.refl _ _, fun _ => ⟨[], (HFN.out []).2 ⟨HIN2.out, hR0, rfl⟩, ⟨none, 0, rfl, Nat.le_refl _, fun i hi => absurd hi (by simp)⟩⟩, fun f => by cases f⟩
    · have hc1 : ((0 : Int) == cn) = false := by simpa using fun e => hc0 e.symm
      go_wp2_with fail
      refine wp_loop_rounds 1 ?_
      rw [rounds_succ]
      go_wp2_with fail
      go_ret2
      refine ⟨.slice none 0 0, false, rfl, Keeps.refl _ _, fun f => by (cases f), fun _ ⟨O, hO⟩ => ?_⟩
      have q := (HFN.out O).1 hO
      rw [hR0] at q
      have e := Option.some.inj q.2.1
      subst e
      exact hc0 q.2.2.symm
  · skip
    have hz1 : (rt == 0) = false := by simpa using hz
    obtain ⟨vw, w1, r1, o1, k1, q1⟩ := (Wr.nil w w.heap.size).more (Nat.le_refl _) (by simp) rt
    obtain ⟨va, w2, r2, o2, k2, q2⟩ := (Wr.nil w1 w.heap.size).more k1.size (by simp) 0
    have HS : Hid (St w xs cn R [] [] [(rt, 0)] (.slice none 0 0) (.slice none 0 0) vw va w2) := by
      have kd : kd1 rt = [rt] := if_neg hz
      rw [kd] at hR
      have k0 : ∀ {x y : World}, Keeps (fun g => (Value.slice none 0 0).ownBlock = some g) x y → Keeps (fun _ => False) x y := fun k => k.mono (fun i _ e => by cases e)
      exact hid ⟨((Rw.start w w.heap.size).setW o1 k1 q1).setA o2 k2 q2, (k0 k1).trans (k0 k2), fun p hp => by simp at hp; subst hp; exact ⟨hrw, zero_isW⟩, rfl, by simp, by simp, fun p hp => by simp at hp; subst hp; exact .inl rfl, hR⟩
    obtain ⟨aw, cw, rfl, _⟩ := o1.form'
    obtain ⟨aa, ca, rfl, _⟩ := o2.form'
    have R1 := hid r1
    have R2 := hid r2
    clear r1 r2 o1 o2 k1 k2 q1 q2 hR hz
    go_wp2_with (at_builtin; first | (refine wpList_append_run rfl _ _ 34 rfl rfl rfl R1.out ?_; clear R1) | (refine wpList_append_run rfl _ _ 34 rfl rfl rfl R2.out ?_; clear R2))
    go_loopw [10, 11, 12, 13] (fun uo um uw' ua wr => ∃ O M Wt ao co am cm aw cw aa ca nW, uo = .slice ao O.length co ∧ um = .slice am M.length cm ∧ uw' = .slice aw nW cw ∧ ua = .slice aa nW ca ∧ nW = Wt.length ∧ Hid (St w xs cn R O M Wt (.slice ao O.length co) (.slice am M.length cm) (.slice aw nW cw) (.slice aa nW ca) wr)) (fun _ um _ _ _ => 1002 - lnV um)
    case atStart => exact ⟨[], [], [(rt, 0)], none, 0, none, 0, aw, cw, aa, ca, 1, rfl, rfl, rfl, rfl, rfl, HS⟩
    case round =>
      obtain ⟨O, M, Wt, ao, co, am, cm, aw, cw, aa, ca, nW, rfl, rfl, rfl, rfl, hnW, hS⟩ := hrel
      clear HS
      cases hlast : Wt.getLast? with
      | none =>
        have e0 : Wt = [] := List.getLast?_eq_none_iff.1 hlast
        subst e0
        obtain rfl : nW = 0 := hnW
        have hRO : R = some O := by
          have q := hS.out.r
          have ml := hS.out.ml
          obtain ⟨k, hk⟩ : ∃ k, 1002 - M.length = k + 1 := ⟨1001 - M.length, by omega⟩
          rw [hk, stS_none rfl] at q
          exact q.symm
        have hol : O.length ≤ 1001 := by have := hS.out.ol; have := hS.out.ml; omega
        have hwo : IntKind.u64.wrap (O.length : Int) = (O.length : Int) := by rw [IntKind.wrap_u64]; omega
        by_cases hc0 : (O.length : Int) = cn
        · have hc1 : ((O.length : Int) == cn) = true := by simpa using hc0
          clear hc0
          go_wp2_with fail
          go_ret2
          exact ⟨_, true, rfl, hS.out.k, fun _ => ⟨O, (HFN.out O).2 ⟨HIN2.out, hRO, by simpa using hc1⟩, hS.out.rw.o.lies⟩, fun f => by cases f⟩
        · have hc1 : ((O.length : Int) == cn) = false := by simpa using hc0
          have HC0 := hid hc0
          clear hc0
          go_wp2_with fail
          go_ret2
          refine ⟨_, false, rfl, hS.out.k, fun f => by (cases f), fun _ ⟨O2, hO⟩ => ?_⟩
          have q := (HFN.out O2).1 hO
          rw [hRO] at q
          have e := Option.some.inj q.2.1
          subst e
          exact HC0.out q.2.2
      | some p =>
        obtain ⟨y, u⟩ := p
        have hs := last_split hlast
        obtain ⟨V, hV⟩ : ∃ V, Wt.dropLast = V := ⟨_, rfl⟩
        rw [hV] at hs
        obtain ⟨j, hj⟩ : ∃ j, V.length = j := ⟨_, rfl⟩
        have hnW2 : nW = j + 1 := by rw [hnW, hs, List.length_append, hj]; rfl
        have hjs : j ≤ 1002 := by have a := hS.out.wl; have b := hS.out.ml; omega
        subst hnW2
        have hyw : isW y ∧ isW u := hS.out.wd (y, u) (by rw [hs]; simp)
        have HUK := hid (hS.out.uk (y, u) (by rw [hs]; simp))
        have o1 : Wr wr w.heap.size (.slice aw (j + 1) cw) (V.map Prod.fst ++ [y]) := by have q := hS.out.rw.wt; rw [hs, List.map_append] at q; exact q
        have o2 : Wr wr w.heap.size (.slice aa (j + 1) ca) (V.map Prod.snd ++ [u]) := by have q := hS.out.rw.a; rw [hs, List.map_append] at q; exact q
        obtain ⟨gw, rfl, lw⟩ := o1.last
        obtain ⟨ga, rfl, la⟩ := o2.last
        have k1 := o1.cut.2
        have k2 := o2.cut.2
        have hcw2 := (wr_len o1).2
        have hca2 := (wr_len o2).2
        rw [List.length_map, hj] at lw la k1 k2
        have hHS : Hid (∀ X, Keeps (fun _ => False) wr X → Rw X w.heap.size (.slice ao O.length co) (.slice am M.length cm) (.slice (some ⟨gw, 0, none⟩) j cw) (.slice (some ⟨ga, 0, none⟩) j ca) O M (V.map Prod.fst) (V.map Prod.snd)) := by
          have q := hS.out.rw
          exact hid fun X k => (⟨q.o, q.m, k1, k2, q.om, q.ow, q.oa, q.mw, q.ma, q.wa⟩ : Rw wr w.heap.size _ _ _ _ O M _ _).keeps k
        have hj1 : ((j + 1 : Nat) : Int) > 0 := by omega
        have hwj : IntKind.i64.wrap (((j + 1 : Nat) : Int) - 1) = (j : Int) := by rw [IntKind.wrap_i64]; omega
        have hjc : j ≤ cw := by omega
        have hja : j ≤ ca := by omega
        have HVV := hid (And.intro hlast (And.intro hV (And.intro hj hyw)))
        clear o1 o2 k1 k2 hs hV hlast hnW hj hyw hcw2 hca2
        go_wp2_with fail
        go_quiet (fail)
        have HX1 : Hid (Keeps (fun _ => False) wr (wr.drewN nq)) := hid ((Keeps.refl _ _).drewN nq)
        generalize wr.drewN nq = X1 at HX1 ⊢
        clear lw la
        go_wp2_with fail
        go_quiet (fail)
        have HX : Hid (Keeps (fun _ => False) wr (X1.drewN nq)) := hid (HX1.out.drewN nq)
        generalize X1.drewN nq = X at HX ⊢
        clear HX1 hwj hjc hja
        go_wp2_with fail
        have hml := hS.out.ml
        go_loopw [17] (fun i wr2 => ∃ k : Nat, k ≤ M.length ∧ i = .int .i64 k ∧ wr2 = X ∧ Hid (∀ i, i < k → oat M i ≠ y)) (fun i _ => M.length - (intOf i).toNat)
        case atStart => exact ⟨0, by omega, rfl, rfl, hid fun i hi => absurd hi (by omega)⟩
        case round =>
          obtain ⟨k, hk, rfl, rfl, hne⟩ := hrel
          by_cases hkl : k < M.length
          · have hkl' : (k : Int) < (M.length : Int) := by omega
            have hwk1 : IntKind.i64.wrap ((k : Int) + 1) = ((k + 1 : Nat) : Int) := by rw [IntKind.wrap_i64]; omega
            obtain ⟨gm, rfl, lm⟩ := (hHS.out _ HX.out).m.cellAt hkl
            by_cases hey : oat M k = y
            · have hbe : (oat M k == y) = true := by simpa using hey
              have hRN : Hid (R = none) := by
                have q := hS.out.r
                obtain ⟨k', hk'⟩ : ∃ k', 1002 - M.length = k' + 1 := ⟨1001 - M.length, by omega⟩
                have hmem : y ∈ M := by
                  rw [← hey]
                  unfold oat
                  rw [List.getElem?_eq_getElem hkl]
                  exact List.getElem_mem hkl
                rw [hk', stS_not HVV.out.1 (fun q => q.1 hmem)] at q
                exact hid q.symm
              clear hey
              go_wp2_with fail
              go_ret2
              exact ⟨.slice none 0 0, false, rfl, hS.out.k.trans HX.out, fun f => by (cases f), fun _ ⟨O2, hO⟩ => by
                have q := (HFN.out O2).1 hO
                rw [hRN.out] at q
                cases q.2.1⟩
            · have hbe : (oat M k == y) = false := by simpa using hey
              have HN : Hid (∀ i, i < k + 1 → oat M i ≠ y) := hid fun i hi => by
                by_cases e : i = k
                · subst e; exact hey
                · exact hne.out i (by omega)
              clear hey hne
              go_wp2_with fail
              go_roundw
              case rel => exact ⟨k + 1, by omega, by simp, by simp, HN⟩
              case measure => simp [intOf]; omega
          · obtain rfl : k = M.length := by omega
            clear hkl hk
            have hrw := hHS.out _ HX.out
            have hK0 := hS.out.k.trans HX.out
            obtain ⟨vm2, w4, rm, om, km, qm⟩ := hrw.m.more hK0.size (by omega) y
            have HR4 := hid (hrw.setM om km qm)
            have HK4 : Hid (Keeps (fun _ => False) w w4) := hid (hK0.step km (fun i hi e => by have := wr_base hrw.m e; omega))
            obtain ⟨am2, cm2, rfl, _⟩ := om.form'
            have RM := hid rm
            have HNE := hid hne.out
            clear rm om km qm hrw hK0 HX hHS hne
            go_wp2_with (at_builtin; refine wpList_append_run rfl _ _ 34 rfl rfl rfl RM.out ?_; clear RM)
            refine (dnode_any xs v y hl _ (HL.out _ HK4.out)).mono ?_
            rintro e_ w5 ⟨⟨l5, hl5, hn5, rfl⟩, k5⟩
            obtain ⟨p0, p1, p2, p3, p4, rfl⟩ := five hl5
            have HK5 := hid ((HK4.out.trans k5).alloc (.cells #[.int .u64 p0, .int .u64 p1, .int .u64 p2, .int .u64 p3, .int .u64 p4] 87))
            have HR5 := hid ((HR4.out.keeps k5).keeps (keeps_new w5 (.cells #[.int .u64 p0, .int .u64 p1, .int .u64 p2, .int .u64 p3, .int .u64 p4] 87)))
            have HB5 := hid (blk_new w5 87 #[.int .u64 p0, .int .u64 p1, .int .u64 p2, .int .u64 p3, .int .u64 p4])
            have HN5 := hid hn5
            have HGG : Hid (gw ≠ w5.heap.size ∧ ga ≠ w5.heap.size) := by
              have z1 := HR4.out.wt.lt (i := gw) rfl
              have z2 := HR4.out.a.lt (i := ga) rfl
              have z3 := k5.size
              exact hid ⟨by omega, by omega⟩
            clear hl5 hn5 k5 HK4 HR4
            unfold arrV
            simp only [List.map_cons, List.map_nil]
            have hwo : IntKind.u64.wrap (O.length : Int) = (O.length : Int) := by have := hS.out.ol; rw [IntKind.wrap_u64]; omega
            cases hok : okN xs y with
            | false =>
              have hno : ¬ stO xs cn M O.length y u := fun q => by have e := q.2.1; rw [hok] at e; cases e
              have hRN : Hid (R = none) := by
                have q := hS.out.r
                obtain ⟨k', hk'⟩ : ∃ k', 1002 - M.length = k' + 1 := ⟨1001 - M.length, by omega⟩
                rw [hk', stS_not HVV.out.1 hno] at q
                exact hid q.symm
              go_wp2_with fail
              go_ret2
              exact ⟨.slice none 0 0, false, rfl, HK5.out, fun f => by (cases f), fun _ ⟨O2, hO⟩ => by
                have q := (HFN.out O2).1 hO
                rw [hRN.out] at q
                cases q.2.1⟩
            | true =>
              by_cases hlt : (O.length : Int) ≥ cn
              · have hno : ¬ stO xs cn M O.length y u := fun q => by have e := q.2.2.1; omega
                have hRN : Hid (R = none) := by
                  have q := hS.out.r
                  obtain ⟨k', hk'⟩ : ∃ k', 1002 - M.length = k' + 1 := ⟨1001 - M.length, by omega⟩
                  rw [hk', stS_not HVV.out.1 hno] at q
                  exact hid q.symm
                go_wp2_with fail
                go_ret2
                exact ⟨.slice none 0 0, false, rfl, HK5.out, fun f => by (cases f), fun _ ⟨O2, hO⟩ => by
                  have q := (HFN.out O2).1 hO
                  rw [hRN.out] at q
                  cases q.2.1⟩
              · have HLT := hid hlt
                have HND : Hid ([p0, p1, p2, p3, p4] = ndL xs y) := hid (HN5.out hok)
                have hwp : Hid (isW p0 ∧ isW p1 ∧ isW p2 ∧ isW p3 ∧ isW p4) := by
                  have q := fun i => oat_wd HWW.out y i
                  rw [← HND.out] at q
                  exact hid ⟨q 0, q 1, q 2, q 3, q 4⟩
                have kE := keeps_new (w5.alloc (.cells #[.int .u64 p0, .int .u64 p1, .int .u64 p2, .int .u64 p3, .int .u64 p4] 87)) (.cells #[.int .u64 p0, .int .u64 p1] 82)
                have HK6 : Hid (Keeps (fun _ => False) w ((w5.alloc (.cells #[.int .u64 p0, .int .u64 p1, .int .u64 p2, .int .u64 p3, .int .u64 p4] 87)).alloc (.cells #[.int .u64 p0, .int .u64 p1] 82))) := hid (HK5.out.trans kE)
                have HR6 := hid (HR5.out.keeps kE)
                have HB6 := hid (HB5.out.kept kE (fun f => f))
                have hsz : (w5.alloc (.cells #[.int .u64 p0, .int .u64 p1, .int .u64 p2, .int .u64 p3, .int .u64 p4] 87)).heap.size = w5.heap.size + 1 := by simp
                have HE6 : Hid (Blk ((w5.alloc (.cells #[.int .u64 p0, .int .u64 p1, .int .u64 p2, .int .u64 p3, .int .u64 p4] 87)).alloc (.cells #[.int .u64 p0, .int .u64 p1] 82)) (w5.heap.size + 1) 82 #[.int .u64 p0, .int .u64 p1]) := by
                  have q := blk_new (w5.alloc (.cells #[.int .u64 p0, .int .u64 p1, .int .u64 p2, .int .u64 p3, .int .u64 p4] 87)) 82 #[.int .u64 p0, .int .u64 p1]
                  rw [hsz] at q
                  exact hid q
                clear hlt kE hsz HK5 HR5 HB5 HN5
                go_wp2_with fail
                refine (dreal_any p0 hwp.out.1 _).mono ?_
                rintro e_ w_ ⟨rfl, hw_⟩
                subst w_
                have c0 : ((w5.alloc (.cells #[.int .u64 p0, .int .u64 p1, .int .u64 p2, .int .u64 p3, .int .u64 p4] 87)).alloc (.cells #[.int .u64 p0, .int .u64 p1] 82)).cell? ⟨w5.heap.size, 0, none⟩ = some (.int .u64 p0) := HB6.out.cell rfl
                have c1 : ((w5.alloc (.cells #[.int .u64 p0, .int .u64 p1, .int .u64 p2, .int .u64 p3, .int .u64 p4] 87)).alloc (.cells #[.int .u64 p0, .int .u64 p1] 82)).cell? ⟨w5.heap.size, 1, none⟩ = some (.int .u64 p1) := HB6.out.cell rfl
                have c2 : ((w5.alloc (.cells #[.int .u64 p0, .int .u64 p1, .int .u64 p2, .int .u64 p3, .int .u64 p4] 87)).alloc (.cells #[.int .u64 p0, .int .u64 p1] 82)).cell? ⟨w5.heap.size, 2, none⟩ = some (.int .u64 p2) := HB6.out.cell rfl
                have c3 : ((w5.alloc (.cells #[.int .u64 p0, .int .u64 p1, .int .u64 p2, .int .u64 p3, .int .u64 p4] 87)).alloc (.cells #[.int .u64 p0, .int .u64 p1] 82)).cell? ⟨w5.heap.size, 3, none⟩ = some (.int .u64 p3) := HB6.out.cell rfl
                have c4 : ((w5.alloc (.cells #[.int .u64 p0, .int .u64 p1, .int .u64 p2, .int .u64 p3, .int .u64 p4] 87)).alloc (.cells #[.int .u64 p0, .int .u64 p1] 82)).cell? ⟨w5.heap.size, 4, none⟩ = some (.int .u64 p4) := HB6.out.cell rfl
                go_wp2_with fail
                refine (dranks_any xs v p0 p1 p2 p3 p4 hl _ (HL.out _ HK6.out)).mono ?_
                rintro e_ w7 ⟨⟨lR, rR, hrk, rfl⟩, k7⟩
                have HRK := hid hrk
                have HK7 := hid (HK6.out.trans k7)
                have HR7 := hid (HR6.out.keeps k7)
                have HB7 := hid (HB6.out.kept k7 (fun f => f))
                have HE7 := hid (HE6.out.kept k7 (fun f => f))
                clear hrk k7 HK6 HR6 HB6 HE6 c0 c1 c2 c3 c4
                have c4 : w7.cell? ⟨w5.heap.size, 4, none⟩ = some (.int .u64 p4) := HB7.out.cell rfl
                have HLR : Hid (lfN xs y = p2 ∧ riN xs y = p3 ∧ oat (ndL xs y) 0 = p0 ∧ oat (ndL xs y) 4 = p4 ∧ enN xs y = (p0, p1)) := by
                  unfold lfN riN enN
                  rw [← HND.out]
                  exact hid ⟨rfl, rfl, rfl, rfl, rfl⟩
                cases hre : reK p0 with
                | false =>
                  have hno : ¬ stO xs cn M O.length y u := fun q => by
                    have e := q.2.2.2.1
                    rw [HLR.out.2.2.1, hre] at e
                    cases e
                  have hRN : Hid (R = none) := by
                    have q := hS.out.r
                    obtain ⟨k', hk'⟩ : ∃ k', 1002 - M.length = k' + 1 := ⟨1001 - M.length, by omega⟩
                    rw [hk', stS_not HVV.out.1 hno] at q
                    exact hid q.symm
                  go_wp2_with fail
                  go_ret2
                  exact ⟨.slice none 0 0, false, rfl, HK7.out, fun f => by (cases f), fun _ ⟨O2, hO⟩ => by
                    have q := (HFN.out O2).1 hO
                    rw [hRN.out] at q
                    cases q.2.1⟩
                | true =>
                  cases hin : (inN xs p2 && inN xs p3) with
                  | false =>
                    have hno : ¬ stO xs cn M O.length y u := fun q => by
                      have e := q.2.2.2.2.1
                      rw [HLR.out.1, HLR.out.2.1, hin] at e
                      cases e
                    have hRN : Hid (R = none) := by
                      have q := hS.out.r
                      obtain ⟨k', hk'⟩ : ∃ k', 1002 - M.length = k' + 1 := ⟨1001 - M.length, by omega⟩
                      rw [hk', stS_not HVV.out.1 hno] at q
                      exact hid q.symm
                    go_wp2_with fail
                    go_ret2
                    exact ⟨.slice none 0 0, false, rfl, HK7.out, fun f => by (cases f), fun _ ⟨O2, hO⟩ => by
                      have q := (HFN.out O2).1 hO
                      rw [hRN.out] at q
                      cases q.2.1⟩
                  | true =>
                    obtain ⟨e1, e2⟩ := HRK.out hin
                    have HRR := hid (And.intro e1 e2)
                    clear e1 e2 HRK
                    by_cases hgt : rR > lR
                    · have hno : ¬ stO xs cn M O.length y u := fun q => by
                        have e := q.2.2.2.2.2.1.1
                        rw [HLR.out.1, HLR.out.2.1, ← HRR.out.1, ← HRR.out.2] at e
                        omega
                      have hRN : Hid (R = none) := by
                        have q := hS.out.r
                        obtain ⟨k', hk'⟩ : ∃ k', 1002 - M.length = k' + 1 := ⟨1001 - M.length, by omega⟩
                        rw [hk', stS_not HVV.out.1 hno] at q
                        exact hid q.symm
                      go_wp2_with fail
                      go_ret2
                      exact ⟨.slice none 0 0, false, rfl, HK7.out, fun f => by (cases f), fun _ ⟨O2, hO⟩ => by
                        have q := (HFN.out O2).1 hO
                        rw [hRN.out] at q
                        cases q.2.1⟩
                    · by_cases heq : p4 = IntKind.u64.wrap (rR + 1)
                      · have hne4 : (p4 != IntKind.u64.wrap (rR + 1)) = false := by simpa using heq
                        have HRO : Hid (rkO xs y) := hid ⟨by rw [HLR.out.1, HLR.out.2.1, ← HRR.out.1, ← HRR.out.2]; omega, by rw [HLR.out.2.2.2.1, HLR.out.2.1, ← HRR.out.2]; exact heq⟩
                        clear heq
                        have hO1 : (u = 0 ∨ ¬ befE (enN xs y) (enN xs u)) → stO xs cn M O.length y u := fun q => ⟨fun hin => by
                            obtain ⟨i, hi, he⟩ := List.mem_iff_getElem.1 hin
                            exact HNE.out i hi (by unfold oat; rw [List.getElem?_eq_getElem hi]; exact he), hok, by have := HLT.out; omega, by rw [HLR.out.2.2.1]; exact hre, by rw [HLR.out.1, HLR.out.2.1]; exact hin, HRO.out, q⟩
                        have HO1 := hid hO1
                        clear hO1
                        by_cases hu : u = 0
                        · have HO := hid (HO1.out (.inl hu))
                          subst hu
                          have e0 : w7.cell? ⟨w5.heap.size + 1, 0, none⟩ = some (.int .u64 p0) := HE7.out.cell rfl
                          have e1 : w7.cell? ⟨w5.heap.size + 1, 1, none⟩ = some (.int .u64 p1) := HE7.out.cell rfl
                          go_wp2_with fail
                          refine (dpush_any O (p0, p1) _ (by have := hS.out.ol; omega) _ HR7.out.o.lies).mono ?_
                          rintro e_ w10 ⟨vo2, rfl, on, k10⟩
                          have HK10 := hid (HK7.out.trans k10)
                          have HR10 := hid (HR7.out.setO HK7.out.size on k10)
                          have HB10 := hid (HB7.out.kept k10 (fun f => f))
                          obtain ⟨ao2, co2, rfl⟩ := on.form'
                          clear e0 e1 on k10
                          go_wp2_with fail
                          go_loopw [12, 13, 29] (fun uw' ua i wr2 => ∃ k : Nat, k ≤ 2 ∧ ∃ iv, i = .int .i64 iv ∧ Hid (iv = (k : Int) + 2) ∧ ∃ K n aw' cw' aa' ca', uw' = .slice aw' n cw' ∧ ua = .slice aa' n ca' ∧ Hid (K = (if k = 0 then [] else if k = 1 then kd1 p2 else kd1 p2 ++ kd1 p3) ∧ n = V.length + K.length ∧ Rw wr2 w.heap.size (.slice ao2 (insE (p0, p1) O).length co2) (.slice am2 (M ++ [y]).length cm2) (.slice aw' n cw') (.slice aa' n ca') (insE (p0, p1) O) (M ++ [y]) (V.map Prod.fst ++ K) (V.map Prod.snd ++ K.map (fun _ => y)) ∧ Keeps (fun _ => False) w wr2 ∧ Blk wr2 w5.heap.size 87 #[.int .u64 p0, .int .u64 p1, .int .u64 p2, .int .u64 p3, .int .u64 p4] ∧ (∀ i, (Value.slice aw' n cw').ownBlock = some i → i ≠ w5.heap.size) ∧ (∀ i, (Value.slice aa' n ca').ownBlock = some i → i ≠ w5.heap.size))) (fun _ _ i _ => 4 - (intOf i).toNat)
                          case atStart => exact ⟨0, by omega, 2, rfl, hid rfl, [], j, _, _, _, _, rfl, rfl, hid ⟨rfl, by rw [HVV.out.2.2.1]; rfl, by simpa using HR10.out, HK10.out, HB10.out, fun i hi => by cases hi; exact HGG.out.1, fun i hi => by cases hi; exact HGG.out.2⟩⟩
                          case round =>
                            obtain ⟨k, hk2, iv, rfl, hiv, K, n, aw', cw', aa', ca', rfl, rfl, hq⟩ := hrel
                            clear HR10 HK10 HB10
                            by_cases hk0 : k = 0
                            · skip
                              subst hk0
                              obtain rfl : iv = 2 := hiv.out
                              clear hiv hk2
                              obtain ⟨hK, hn, hR, hk3, hB, hd1, hd2⟩ := hq.out
                              have hK : K = ([] : List Int) := hK
                              subst hK
                              have cx : wr.cell? ⟨w5.heap.size, 2, none⟩ = some (.int .u64 p2) := hB.cell rfl
                              by_cases hx : p2 = 0
                              · have hx1 : (p2 != 0) = false := by simp [hx]
                                have HX0 : Hid (kd1 p2 = []) := hid (if_pos hx)
                                have HQ := hid (And.intro hn (And.intro hR (And.intro hk3 (And.intro hB (And.intro hd1 hd2)))))
                                clear hx hn hR hk3 hB hd1 hd2 hq
                                go_wp2_with fail
                                go_roundw
                                case rel => exact ⟨1, by omega, _, rfl, hid (by rfl), ([] : List Int), n, _, _, _, _, rfl, rfl, hid ⟨by show [] = kd1 p2; rw [HX0.out], HQ.out⟩⟩
                                case measure => simp [intOf]
                              · have hx1 : (p2 != 0) = true := by simp [hx]
                                have HX0 : Hid (kd1 p2 = [p2]) := hid (if_neg hx)
                                have hnn : n ≤ 2000 := by
                                  have z := kd1_few p2
                                  have z2 : (([] : List Int)).length ≤ 1 := by simp
                                  have z3 := HVV.out.2.2.1
                                  omega
                                obtain ⟨vA, wA, rA, oA, kA, qA⟩ := hR.wt.more hk3.size (by have z := (wr_len hR.wt).1; omega) p2
                                have RA := hR.setW oA kA qA
                                have KA : Keeps (fun _ => False) w wA := hk3.step kA (fun i hi e => by have := wr_base hR.wt e; omega)
                                obtain ⟨vB, wB, rB, oB, kB, qB⟩ := RA.a.more KA.size (by have z := (wr_len hR.a).1; omega) y
                                have RB := RA.setA oB kB qB
                                have KB : Keeps (fun _ => False) w wB := KA.step kB (fun i hi e => by have := wr_base RA.a e; omega)
                                have hltB := hB.lt
                                have BB := (hB.kept kA (fun e => hd1 _ e rfl)).kept kB (fun e => hd2 _ e rfl)
                                have dA : ∀ i, vA.ownBlock = some i → i ≠ w5.heap.size := fun i hi => by
                                  rcases qA i hi with e | e
                                  · exact hd1 i e
                                  · omega
                                have hAB := kA.size
                                have dB : ∀ i, vB.ownBlock = some i → i ≠ w5.heap.size := fun i hi => by
                                  rcases qB i hi with e | e
                                  · exact hd2 i e
                                  · omega
                                obtain ⟨aA, cA, rfl⟩ := oA.as (m := n + 1) (by have z := (wr_len hR.wt).1; rw [List.length_append]; simp at z ⊢; omega)
                                obtain ⟨aB, cB, rfl⟩ := oB.as (m := n + 1) (by have z := (wr_len hR.a).1; rw [List.length_append]; simp at z ⊢; omega)
                                have R1 := hid rA
                                have R2 := hid rB
                                have HQ : Hid (n = V.length + (([] : List Int)).length ∧ Rw wB w.heap.size (.slice ao2 (insE (p0, p1) O).length co2) (.slice am2 (M ++ [y]).length cm2) (.slice aA (n + 1) cA) (.slice aB (n + 1) cB) (insE (p0, p1) O) (M ++ [y]) ((V.map Prod.fst ++ ([] : List Int)) ++ [p2]) ((V.map Prod.snd ++ (([] : List Int)).map (fun _ => y)) ++ [y]) ∧ Keeps (fun _ => False) w wB ∧ Blk wB w5.heap.size 87 #[.int .u64 p0, .int .u64 p1, .int .u64 p2, .int .u64 p3, .int .u64 p4] ∧ (∀ i, (Value.slice aA (n + 1) cA).ownBlock = some i → i ≠ w5.heap.size) ∧ (∀ i, (Value.slice aB (n + 1) cB).ownBlock = some i → i ≠ w5.heap.size)) := hid ⟨hn, RB, KB, BB, dA, dB⟩
                                clear hx hn hnn hR hk3 hB hd1 hd2 hq rA oA kA qA RA KA rB oB kB qB RB KB hltB BB dA hAB dB
                                go_wp2_with (at_builtin; first | (refine wpList_append_run rfl _ _ 34 rfl rfl rfl R1.out ?_; clear R1) | (refine wpList_append_run rfl _ _ 34 rfl rfl rfl R2.out ?_; clear R2))
                                go_roundw
                                case rel => exact ⟨1, by omega, _, rfl, hid (by rfl), ([] : List Int) ++ [p2], n + 1, _, _, _, _, rfl, rfl, hid ⟨by show [] ++ [p2] = kd1 p2; rw [HX0.out]; rfl, by have z := HQ.out.1; rw [List.length_append, z]; rfl, by have z := HQ.out.2; rw [List.map_append, ← List.append_assoc, ← List.append_assoc]; exact z⟩⟩
                                case measure => simp [intOf]
                            · by_cases hk1 : k = 1
                              · have hk0 := hk1
                                clear hk1
                                subst hk0
                                obtain rfl : iv = 3 := hiv.out
                                clear hiv hk2
                                obtain ⟨hK, hn, hR, hk3, hB, hd1, hd2⟩ := hq.out
                                have hK : K = kd1 p2 := hK
                                subst hK
                                have cx : wr.cell? ⟨w5.heap.size, 3, none⟩ = some (.int .u64 p3) := hB.cell rfl
                                by_cases hx : p3 = 0
                                · have hx1 : (p3 != 0) = false := by simp [hx]
                                  have HX0 : Hid (kd1 p3 = []) := hid (if_pos hx)
                                  have HQ := hid (And.intro hn (And.intro hR (And.intro hk3 (And.intro hB (And.intro hd1 hd2)))))
                                  clear hx hn hR hk3 hB hd1 hd2 hq
                                  go_wp2_with fail
                                  go_roundw
                                  case rel => exact ⟨2, by omega, _, rfl, hid (by rfl), kd1 p2, n, _, _, _, _, rfl, rfl, hid ⟨by show kd1 p2 = kd1 p2 ++ kd1 p3; rw [HX0.out, List.append_nil], HQ.out⟩⟩
                                  case measure => simp [intOf]
                                · have hx1 : (p3 != 0) = true := by simp [hx]
                                  have HX0 : Hid (kd1 p3 = [p3]) := hid (if_neg hx)
                                  have hnn : n ≤ 2000 := by
                                    have z := kd1_few p2
                                    have z2 : (kd1 p2).length ≤ 1 := by exact kd1_few p2
                                    have z3 := HVV.out.2.2.1
                                    omega
                                  obtain ⟨vA, wA, rA, oA, kA, qA⟩ := hR.wt.more hk3.size (by have z := (wr_len hR.wt).1; omega) p3
                                  have RA := hR.setW oA kA qA
                                  have KA : Keeps (fun _ => False) w wA := hk3.step kA (fun i hi e => by have := wr_base hR.wt e; omega)
                                  obtain ⟨vB, wB, rB, oB, kB, qB⟩ := RA.a.more KA.size (by have z := (wr_len hR.a).1; omega) y
                                  have RB := RA.setA oB kB qB
                                  have KB : Keeps (fun _ => False) w wB := KA.step kB (fun i hi e => by have := wr_base RA.a e; omega)
                                  have hltB := hB.lt
                                  have BB := (hB.kept kA (fun e => hd1 _ e rfl)).kept kB (fun e => hd2 _ e rfl)
                                  have dA : ∀ i, vA.ownBlock = some i → i ≠ w5.heap.size := fun i hi => by
                                    rcases qA i hi with e | e
                                    · exact hd1 i e
                                    · omega
                                  have hAB := kA.size
                                  have dB : ∀ i, vB.ownBlock = some i → i ≠ w5.heap.size := fun i hi => by
                                    rcases qB i hi with e | e
                                    · exact hd2 i e
                                    · omega
                                  obtain ⟨aA, cA, rfl⟩ := oA.as (m := n + 1) (by have z := (wr_len hR.wt).1; rw [List.length_append]; simp at z ⊢; omega)
                                  obtain ⟨aB, cB, rfl⟩ := oB.as (m := n + 1) (by have z := (wr_len hR.a).1; rw [List.length_append]; simp at z ⊢; omega)
                                  have R1 := hid rA
                                  have R2 := hid rB
                                  have HQ : Hid (n = V.length + (kd1 p2).length ∧ Rw wB w.heap.size (.slice ao2 (insE (p0, p1) O).length co2) (.slice am2 (M ++ [y]).length cm2) (.slice aA (n + 1) cA) (.slice aB (n + 1) cB) (insE (p0, p1) O) (M ++ [y]) ((V.map Prod.fst ++ kd1 p2) ++ [p3]) ((V.map Prod.snd ++ (kd1 p2).map (fun _ => y)) ++ [y]) ∧ Keeps (fun _ => False) w wB ∧ Blk wB w5.heap.size 87 #[.int .u64 p0, .int .u64 p1, .int .u64 p2, .int .u64 p3, .int .u64 p4] ∧ (∀ i, (Value.slice aA (n + 1) cA).ownBlock = some i → i ≠ w5.heap.size) ∧ (∀ i, (Value.slice aB (n + 1) cB).ownBlock = some i → i ≠ w5.heap.size)) := hid ⟨hn, RB, KB, BB, dA, dB⟩
                                  clear hx hn hnn hR hk3 hB hd1 hd2 hq rA oA kA qA RA KA rB oB kB qB RB KB hltB BB dA hAB dB
                                  go_wp2_with (at_builtin; first | (refine wpList_append_run rfl _ _ 34 rfl rfl rfl R1.out ?_; clear R1) | (refine wpList_append_run rfl _ _ 34 rfl rfl rfl R2.out ?_; clear R2))
                                  go_roundw
                                  case rel => exact ⟨2, by omega, _, rfl, hid (by rfl), kd1 p2 ++ [p3], n + 1, _, _, _, _, rfl, rfl, hid ⟨by show kd1 p2 ++ [p3] = kd1 p2 ++ kd1 p3; rw [HX0.out], by have z := HQ.out.1; rw [List.length_append, z]; rfl, by have z := HQ.out.2; rw [List.map_append, ← List.append_assoc, ← List.append_assoc]; exact z⟩⟩
                                  case measure => simp [intOf]
                              · skip
                                obtain rfl : k = 2 := by omega
                                obtain rfl : iv = 4 := hiv.out
                                clear hiv
                                obtain ⟨hK, hn, hR, hk3, _, _, _⟩ := hq.out
                                have hK : K = kd1 p2 ++ kd1 p3 := hK
                                have hKN : kdN xs y = K := by unfold kdN; rw [HLR.out.1, HLR.out.2.1, hK]
                                have hRl := hS.out.r
                                have hml2 : M.length < 1001 := by have := HLT.out; have := hS.out.ol; omega
                                obtain ⟨k', hk'⟩ : ∃ k', 1002 - M.length = k' + 1 := ⟨1001 - M.length, by omega⟩
                                rw [hk', stS_some HVV.out.1 HO.out, HVV.out.2.1, HLR.out.2.2.2.2] at hRl
                                have hWs := last_split HVV.out.1
                                rw [HVV.out.2.1] at hWs
                                have hin0 : ∀ p ∈ V, p ∈ Wt := fun p hp => by rw [hWs]; exact List.mem_append_left _ hp
                                have hWl : Wt.length = j + 1 := by rw [hWs, List.length_append, HVV.out.2.2.1]; rfl
                                have hKl : K.length ≤ 2 := by rw [hK, List.length_append]; have z1 := kd1_few p2; have z2 := kd1_few p3; omega
                                have hfst : ((kdN xs y).map (fun z => ((z, y) : Int × Int))).map Prod.fst = K := by rw [hKN, List.map_map]; exact List.map_id' _
                                have hsnd : ((kdN xs y).map (fun z => ((z, y) : Int × Int))).map Prod.snd = K.map (fun _ => y) := by rw [hKN, List.map_map]; rfl
                                have HN : Hid (n = (V ++ (kdN xs y).map (fun z => ((z, y) : Int × Int))).length ∧ St w xs cn R (insE (p0, p1) O) (M ++ [y]) (V ++ (kdN xs y).map (fun z => ((z, y) : Int × Int))) (.slice ao2 (insE (p0, p1) O).length co2) (.slice am2 (M ++ [y]).length cm2) (.slice aw' n cw') (.slice aa' n ca') wr) := by
                                  have hwl := hS.out.wl
                                  refine hid ⟨by rw [List.length_append, List.length_map, hKN, hn], ⟨by rw [List.map_append, List.map_append, hfst, hsnd]; exact hR, hk3, fun p hp => ?_, ?_, ?_, ?_, fun p hp => ?_, ?_⟩⟩
                                  · rcases List.mem_append.1 hp with e | e
                                    · exact hS.out.wd p (hin0 p e)
                                    · obtain ⟨z, hz, rfl⟩ := List.mem_map.1 e
                                      exact ⟨(kdN_wd HWW.out hz).1, HVV.out.2.2.2.1⟩
                                  · rw [insE_len, List.length_append, hS.out.ol]; rfl
                                  · rw [List.length_append]; simp; omega
                                  · rw [List.length_append, List.length_append, List.length_map, hKN, HVV.out.2.2.1]
                                    simp
                                    omega
                                  · rcases List.mem_append.1 hp with e | e
                                    · exact hS.out.uk p (hin0 p e)
                                    · obtain ⟨z, hz, rfl⟩ := List.mem_map.1 e
                                      exact .inr hok
                                  · rw [List.length_append, show 1002 - (M.length + [y].length) = k' by simp; omega]
                                    exact hRl
                                clear hK hn hR hk3 hKN hRl hk' hWs hin0 hWl hKl hfst hsnd hq hk2
                                go_wp2_with fail
                                go_roundw
                                case rel => exact ⟨insE (p0, p1) O, M ++ [y], V ++ (kdN xs y).map (fun z => ((z, y) : Int × Int)), ao2, co2, am2, cm2, aw', cw', aa', ca', n, by simp, by simp, by simp, by simp, HN.out.1, HN.out.2⟩
                                case measure => simp [lnV]; omega
                        · have hu1 : (u == 0) = false := by simpa using hu
                          have hku : okN xs u = true := by
                            rcases HUK.out with e | e
                            · exact absurd e hu
                            · exact e
                          clear hu
                          go_wp2_with fail
                          refine (dnode_any xs v u hl _ (HL.out _ HK7.out)).mono ?_
                          rintro e_ w8 ⟨⟨l8, hl8, hn8, rfl⟩, k8⟩
                          obtain ⟨r0, r1, r2, r3, r4, rfl⟩ := five hl8
                          have HN8 := hid (hn8 hku)
                          have kA := keeps_new w8 (.cells #[.int .u64 r0, .int .u64 r1, .int .u64 r2, .int .u64 r3, .int .u64 r4] 87)
                          have HK9 := hid ((HK7.out.trans k8).trans kA)
                          have HR9 := hid ((HR7.out.keeps k8).keeps kA)
                          have HB9 := hid ((HB7.out.kept k8 (fun f => f)).kept kA (fun f => f))
                          have HE9 := hid ((HE7.out.kept k8 (fun f => f)).kept kA (fun f => f))
                          have hbA := blk_new w8 87 #[.int .u64 r0, .int .u64 r1, .int .u64 r2, .int .u64 r3, .int .u64 r4]
                          have d0 : (w8.alloc (.cells #[.int .u64 r0, .int .u64 r1, .int .u64 r2, .int .u64 r3, .int .u64 r4] 87)).cell? ⟨w8.heap.size, 0, none⟩ = some (.int .u64 r0) := hbA.cell rfl
                          have d1 : (w8.alloc (.cells #[.int .u64 r0, .int .u64 r1, .int .u64 r2, .int .u64 r3, .int .u64 r4] 87)).cell? ⟨w8.heap.size, 1, none⟩ = some (.int .u64 r1) := hbA.cell rfl
                          have e0 : (w8.alloc (.cells #[.int .u64 r0, .int .u64 r1, .int .u64 r2, .int .u64 r3, .int .u64 r4] 87)).cell? ⟨w5.heap.size + 1, 0, none⟩ = some (.int .u64 p0) := HE9.out.cell rfl
                          have e1 : (w8.alloc (.cells #[.int .u64 r0, .int .u64 r1, .int .u64 r2, .int .u64 r3, .int .u64 r4] 87)).cell? ⟨w5.heap.size + 1, 1, none⟩ = some (.int .u64 p1) := HE9.out.cell rfl
                          have HEU : Hid (enN xs u = (r0, r1)) := by unfold enN; rw [← HN8.out]; exact hid rfl
                          clear hl8 hn8 k8 kA hbA c4 HK7 HR7 HB7 HE7
                          unfold arrV
                          simp only [List.map_cons, List.map_nil]
                          go_wp2_with fail
                          refine (before_any (p0, p1) (r0, r1) _).mono ?_
                          rintro e_ w9 ⟨rfl, k9⟩
                          have HKA := hid (HK9.out.trans k9)
                          have HRA := hid (HR9.out.keeps k9)
                          have HBA := hid (HB9.out.kept k9 (fun f => f))
                          have HEA := hid (HE9.out.kept k9 (fun f => f))
                          clear k9 d0 d1 e0 e1 HK9 HR9 HB9 HE9
                          by_cases hb : befE (p0, p1) (r0, r1)
                          · have hno : ¬ stO xs cn M O.length y u := fun q => by
                              rcases q.2.2.2.2.2.2 with e | e
                              · rw [e] at hu1; simp at hu1
                              · rw [HLR.out.2.2.2.2, HEU.out] at e
                                exact e hb
                            have hbd : decide (befE (p0, p1) (r0, r1)) = true := decide_eq_true hb
                            have hRN : Hid (R = none) := by
                              have q := hS.out.r
                              obtain ⟨k', hk'⟩ : ∃ k', 1002 - M.length = k' + 1 := ⟨1001 - M.length, by omega⟩
                              rw [hk', stS_not HVV.out.1 hno] at q
                              exact hid q.symm
                            go_wp2_with fail
                            go_ret2
                            exact ⟨.slice none 0 0, false, rfl, HKA.out, fun f => by (cases f), fun _ ⟨O2, hO⟩ => by
                              have q := (HFN.out O2).1 hO
                              rw [hRN.out] at q
                              cases q.2.1⟩
                          · have HO := hid (HO1.out (.inr (by rw [HLR.out.2.2.2.2, HEU.out]; exact hb)))
                            have hbd : decide (befE (p0, p1) (r0, r1)) = false := decide_eq_false hb
                            clear hb
                            have e0 : w9.cell? ⟨w5.heap.size + 1, 0, none⟩ = some (.int .u64 p0) := HEA.out.cell rfl
                            have e1 : w9.cell? ⟨w5.heap.size + 1, 1, none⟩ = some (.int .u64 p1) := HEA.out.cell rfl
                            go_wp2_with fail
                            refine (dpush_any O (p0, p1) _ (by have := hS.out.ol; omega) _ HRA.out.o.lies).mono ?_
                            rintro e_ w10 ⟨vo2, rfl, on, k10⟩
                            have HK10 := hid (HKA.out.trans k10)
                            have HR10 := hid (HRA.out.setO HKA.out.size on k10)
                            have HB10 := hid (HBA.out.kept k10 (fun f => f))
                            obtain ⟨ao2, co2, rfl⟩ := on.form'
                            clear e0 e1 on k10
                            go_wp2_with fail
                            go_loopw [12, 13, 29] (fun uw' ua i wr2 => ∃ k : Nat, k ≤ 2 ∧ ∃ iv, i = .int .i64 iv ∧ Hid (iv = (k : Int) + 2) ∧ ∃ K n aw' cw' aa' ca', uw' = .slice aw' n cw' ∧ ua = .slice aa' n ca' ∧ Hid (K = (if k = 0 then [] else if k = 1 then kd1 p2 else kd1 p2 ++ kd1 p3) ∧ n = V.length + K.length ∧ Rw wr2 w.heap.size (.slice ao2 (insE (p0, p1) O).length co2) (.slice am2 (M ++ [y]).length cm2) (.slice aw' n cw') (.slice aa' n ca') (insE (p0, p1) O) (M ++ [y]) (V.map Prod.fst ++ K) (V.map Prod.snd ++ K.map (fun _ => y)) ∧ Keeps (fun _ => False) w wr2 ∧ Blk wr2 w5.heap.size 87 #[.int .u64 p0, .int .u64 p1, .int .u64 p2, .int .u64 p3, .int .u64 p4] ∧ (∀ i, (Value.slice aw' n cw').ownBlock = some i → i ≠ w5.heap.size) ∧ (∀ i, (Value.slice aa' n ca').ownBlock = some i → i ≠ w5.heap.size))) (fun _ _ i _ => 4 - (intOf i).toNat)
                            case atStart => exact ⟨0, by omega, 2, rfl, hid rfl, [], j, _, _, _, _, rfl, rfl, hid ⟨rfl, by rw [HVV.out.2.2.1]; rfl, by simpa using HR10.out, HK10.out, HB10.out, fun i hi => by cases hi; exact HGG.out.1, fun i hi => by cases hi; exact HGG.out.2⟩⟩
                            case round =>
                              obtain ⟨k, hk2, iv, rfl, hiv, K, n, aw', cw', aa', ca', rfl, rfl, hq⟩ := hrel
                              clear HR10 HK10 HB10
                              by_cases hk0 : k = 0
                              · skip
                                subst hk0
                                obtain rfl : iv = 2 := hiv.out
                                clear hiv hk2
                                obtain ⟨hK, hn, hR, hk3, hB, hd1, hd2⟩ := hq.out
                                have hK : K = ([] : List Int) := hK
                                subst hK
                                have cx : wr.cell? ⟨w5.heap.size, 2, none⟩ = some (.int .u64 p2) := hB.cell rfl
                                by_cases hx : p2 = 0
                                · have hx1 : (p2 != 0) = false := by simp [hx]
                                  have HX0 : Hid (kd1 p2 = []) := hid (if_pos hx)
                                  have HQ := hid (And.intro hn (And.intro hR (And.intro hk3 (And.intro hB (And.intro hd1 hd2)))))
                                  clear hx hn hR hk3 hB hd1 hd2 hq
                                  go_wp2_with fail
                                  go_roundw
                                  case rel => exact ⟨1, by omega, _, rfl, hid (by rfl), ([] : List Int), n, _, _, _, _, rfl, rfl, hid ⟨by show [] = kd1 p2; rw [HX0.out], HQ.out⟩⟩
                                  case measure => simp [intOf]
                                · have hx1 : (p2 != 0) = true := by simp [hx]
                                  have HX0 : Hid (kd1 p2 = [p2]) := hid (if_neg hx)
                                  have hnn : n ≤ 2000 := by
                                    have z := kd1_few p2
                                    have z2 : (([] : List Int)).length ≤ 1 := by simp
                                    have z3 := HVV.out.2.2.1
                                    omega
                                  obtain ⟨vA, wA, rA, oA, kA, qA⟩ := hR.wt.more hk3.size (by have z := (wr_len hR.wt).1; omega) p2
                                  have RA := hR.setW oA kA qA
                                  have KA : Keeps (fun _ => False) w wA := hk3.step kA (fun i hi e => by have := wr_base hR.wt e; omega)
                                  obtain ⟨vB, wB, rB, oB, kB, qB⟩ := RA.a.more KA.size (by have z := (wr_len hR.a).1; omega) y
                                  have RB := RA.setA oB kB qB
                                  have KB : Keeps (fun _ => False) w wB := KA.step kB (fun i hi e => by have := wr_base RA.a e; omega)
                                  have hltB := hB.lt
                                  have BB := (hB.kept kA (fun e => hd1 _ e rfl)).kept kB (fun e => hd2 _ e rfl)
                                  have dA : ∀ i, vA.ownBlock = some i → i ≠ w5.heap.size := fun i hi => by
                                    rcases qA i hi with e | e
                                    · exact hd1 i e
                                    · omega
                                  have hAB := kA.size
                                  have dB : ∀ i, vB.ownBlock = some i → i ≠ w5.heap.size := fun i hi => by
                                    rcases qB i hi with e | e
                                    · exact hd2 i e
                                    · omega
                                  obtain ⟨aA, cA, rfl⟩ := oA.as (m := n + 1) (by have z := (wr_len hR.wt).1; rw [List.length_append]; simp at z ⊢; omega)
                                  obtain ⟨aB, cB, rfl⟩ := oB.as (m := n + 1) (by have z := (wr_len hR.a).1; rw [List.length_append]; simp at z ⊢; omega)
                                  have R1 := hid rA
                                  have R2 := hid rB
                                  have HQ : Hid (n = V.length + (([] : List Int)).length ∧ Rw wB w.heap.size (.slice ao2 (insE (p0, p1) O).length co2) (.slice am2 (M ++ [y]).length cm2) (.slice aA (n + 1) cA) (.slice aB (n + 1) cB) (insE (p0, p1) O) (M ++ [y]) ((V.map Prod.fst ++ ([] : List Int)) ++ [p2]) ((V.map Prod.snd ++ (([] : List Int)).map (fun _ => y)) ++ [y]) ∧ Keeps (fun _ => False) w wB ∧ Blk wB w5.heap.size 87 #[.int .u64 p0, .int .u64 p1, .int .u64 p2, .int .u64 p3, .int .u64 p4] ∧ (∀ i, (Value.slice aA (n + 1) cA).ownBlock = some i → i ≠ w5.heap.size) ∧ (∀ i, (Value.slice aB (n + 1) cB).ownBlock = some i → i ≠ w5.heap.size)) := hid ⟨hn, RB, KB, BB, dA, dB⟩
                                  clear hx hn hnn hR hk3 hB hd1 hd2 hq rA oA kA qA RA KA rB oB kB qB RB KB hltB BB dA hAB dB
                                  go_wp2_with (at_builtin; first | (refine wpList_append_run rfl _ _ 34 rfl rfl rfl R1.out ?_; clear R1) | (refine wpList_append_run rfl _ _ 34 rfl rfl rfl R2.out ?_; clear R2))
                                  go_roundw
                                  case rel => exact ⟨1, by omega, _, rfl, hid (by rfl), ([] : List Int) ++ [p2], n + 1, _, _, _, _, rfl, rfl, hid ⟨by show [] ++ [p2] = kd1 p2; rw [HX0.out]; rfl, by have z := HQ.out.1; rw [List.length_append, z]; rfl, by have z := HQ.out.2; rw [List.map_append, ← List.append_assoc, ← List.append_assoc]; exact z⟩⟩
                                  case measure => simp [intOf]
                              · by_cases hk1 : k = 1
                                · have hk0 := hk1
                                  clear hk1
                                  subst hk0
                                  obtain rfl : iv = 3 := hiv.out
                                  clear hiv hk2
                                  obtain ⟨hK, hn, hR, hk3, hB, hd1, hd2⟩ := hq.out
                                  have hK : K = kd1 p2 := hK
                                  subst hK
                                  have cx : wr.cell? ⟨w5.heap.size, 3, none⟩ = some (.int .u64 p3) := hB.cell rfl
                                  by_cases hx : p3 = 0
                                  · have hx1 : (p3 != 0) = false := by simp [hx]
                                    have HX0 : Hid (kd1 p3 = []) := hid (if_pos hx)
                                    have HQ := hid (And.intro hn (And.intro hR (And.intro hk3 (And.intro hB (And.intro hd1 hd2)))))
                                    clear hx hn hR hk3 hB hd1 hd2 hq
                                    go_wp2_with fail
                                    go_roundw
                                    case rel => exact ⟨2, by omega, _, rfl, hid (by rfl), kd1 p2, n, _, _, _, _, rfl, rfl, hid ⟨by show kd1 p2 = kd1 p2 ++ kd1 p3; rw [HX0.out, List.append_nil], HQ.out⟩⟩
                                    case measure => simp [intOf]
                                  · have hx1 : (p3 != 0) = true := by simp [hx]
                                    have HX0 : Hid (kd1 p3 = [p3]) := hid (if_neg hx)
                                    have hnn : n ≤ 2000 := by
                                      have z := kd1_few p2
                                      have z2 : (kd1 p2).length ≤ 1 := by exact kd1_few p2
                                      have z3 := HVV.out.2.2.1
                                      omega
                                    obtain ⟨vA, wA, rA, oA, kA, qA⟩ := hR.wt.more hk3.size (by have z := (wr_len hR.wt).1; omega) p3
                                    have RA := hR.setW oA kA qA
                                    have KA : Keeps (fun _ => False) w wA := hk3.step kA (fun i hi e => by have := wr_base hR.wt e; omega)
                                    obtain ⟨vB, wB, rB, oB, kB, qB⟩ := RA.a.more KA.size (by have z := (wr_len hR.a).1; omega) y
                                    have RB := RA.setA oB kB qB
                                    have KB : Keeps (fun _ => False) w wB := KA.step kB (fun i hi e => by have := wr_base RA.a e; omega)
                                    have hltB := hB.lt
                                    have BB := (hB.kept kA (fun e => hd1 _ e rfl)).kept kB (fun e => hd2 _ e rfl)
                                    have dA : ∀ i, vA.ownBlock = some i → i ≠ w5.heap.size := fun i hi => by
                                      rcases qA i hi with e | e
                                      · exact hd1 i e
                                      · omega
                                    have hAB := kA.size
                                    have dB : ∀ i, vB.ownBlock = some i → i ≠ w5.heap.size := fun i hi => by
                                      rcases qB i hi with e | e
                                      · exact hd2 i e
                                      · omega
                                    obtain ⟨aA, cA, rfl⟩ := oA.as (m := n + 1) (by have z := (wr_len hR.wt).1; rw [List.length_append]; simp at z ⊢; omega)
                                    obtain ⟨aB, cB, rfl⟩ := oB.as (m := n + 1) (by have z := (wr_len hR.a).1; rw [List.length_append]; simp at z ⊢; omega)
                                    have R1 := hid rA
                                    have R2 := hid rB
                                    have HQ : Hid (n = V.length + (kd1 p2).length ∧ Rw wB w.heap.size (.slice ao2 (insE (p0, p1) O).length co2) (.slice am2 (M ++ [y]).length cm2) (.slice aA (n + 1) cA) (.slice aB (n + 1) cB) (insE (p0, p1) O) (M ++ [y]) ((V.map Prod.fst ++ kd1 p2) ++ [p3]) ((V.map Prod.snd ++ (kd1 p2).map (fun _ => y)) ++ [y]) ∧ Keeps (fun _ => False) w wB ∧ Blk wB w5.heap.size 87 #[.int .u64 p0, .int .u64 p1, .int .u64 p2, .int .u64 p3, .int .u64 p4] ∧ (∀ i, (Value.slice aA (n + 1) cA).ownBlock = some i → i ≠ w5.heap.size) ∧ (∀ i, (Value.slice aB (n + 1) cB).ownBlock = some i → i ≠ w5.heap.size)) := hid ⟨hn, RB, KB, BB, dA, dB⟩
                                    clear hx hn hnn hR hk3 hB hd1 hd2 hq rA oA kA qA RA KA rB oB kB qB RB KB hltB BB dA hAB dB
                                    go_wp2_with (at_builtin; first | (refine wpList_append_run rfl _ _ 34 rfl rfl rfl R1.out ?_; clear R1) | (refine wpList_append_run rfl _ _ 34 rfl rfl rfl R2.out ?_; clear R2))
                                    go_roundw
                                    case rel => exact ⟨2, by omega, _, rfl, hid (by rfl), kd1 p2 ++ [p3], n + 1, _, _, _, _, rfl, rfl, hid ⟨by show kd1 p2 ++ [p3] = kd1 p2 ++ kd1 p3; rw [HX0.out], by have z := HQ.out.1; rw [List.length_append, z]; rfl, by have z := HQ.out.2; rw [List.map_append, ← List.append_assoc, ← List.append_assoc]; exact z⟩⟩
                                    case measure => simp [intOf]
                                · skip
                                  obtain rfl : k = 2 := by omega
                                  obtain rfl : iv = 4 := hiv.out
                                  clear hiv
                                  obtain ⟨hK, hn, hR, hk3, _, _, _⟩ := hq.out
                                  have hK : K = kd1 p2 ++ kd1 p3 := hK
                                  have hKN : kdN xs y = K := by unfold kdN; rw [HLR.out.1, HLR.out.2.1, hK]
                                  have hRl := hS.out.r
                                  have hml2 : M.length < 1001 := by have := HLT.out; have := hS.out.ol; omega
                                  obtain ⟨k', hk'⟩ : ∃ k', 1002 - M.length = k' + 1 := ⟨1001 - M.length, by omega⟩
                                  rw [hk', stS_some HVV.out.1 HO.out, HVV.out.2.1, HLR.out.2.2.2.2] at hRl
                                  have hWs := last_split HVV.out.1
                                  rw [HVV.out.2.1] at hWs
                                  have hin0 : ∀ p ∈ V, p ∈ Wt := fun p hp => by rw [hWs]; exact List.mem_append_left _ hp
                                  have hWl : Wt.length = j + 1 := by rw [hWs, List.length_append, HVV.out.2.2.1]; rfl
                                  have hKl : K.length ≤ 2 := by rw [hK, List.length_append]; have z1 := kd1_few p2; have z2 := kd1_few p3; omega
                                  have hfst : ((kdN xs y).map (fun z => ((z, y) : Int × Int))).map Prod.fst = K := by rw [hKN, List.map_map]; exact List.map_id' _
                                  have hsnd : ((kdN xs y).map (fun z => ((z, y) : Int × Int))).map Prod.snd = K.map (fun _ => y) := by rw [hKN, List.map_map]; rfl
                                  have HN : Hid (n = (V ++ (kdN xs y).map (fun z => ((z, y) : Int × Int))).length ∧ St w xs cn R (insE (p0, p1) O) (M ++ [y]) (V ++ (kdN xs y).map (fun z => ((z, y) : Int × Int))) (.slice ao2 (insE (p0, p1) O).length co2) (.slice am2 (M ++ [y]).length cm2) (.slice aw' n cw') (.slice aa' n ca') wr) := by
                                    have hwl := hS.out.wl
                                    refine hid ⟨by rw [List.length_append, List.length_map, hKN, hn], ⟨by rw [List.map_append, List.map_append, hfst, hsnd]; exact hR, hk3, fun p hp => ?_, ?_, ?_, ?_, fun p hp => ?_, ?_⟩⟩
                                    · rcases List.mem_append.1 hp with e | e
                                      · exact hS.out.wd p (hin0 p e)
                                      · obtain ⟨z, hz, rfl⟩ := List.mem_map.1 e
                                        exact ⟨(kdN_wd HWW.out hz).1, HVV.out.2.2.2.1⟩
                                    · rw [insE_len, List.length_append, hS.out.ol]; rfl
                                    · rw [List.length_append]; simp; omega
                                    · rw [List.length_append, List.length_append, List.length_map, hKN, HVV.out.2.2.1]
                                      simp
                                      omega
                                    · rcases List.mem_append.1 hp with e | e
                                      · exact hS.out.uk p (hin0 p e)
                                      · obtain ⟨z, hz, rfl⟩ := List.mem_map.1 e
                                        exact .inr hok
                                    · rw [List.length_append, show 1002 - (M.length + [y].length) = k' by simp; omega]
                                      exact hRl
                                  clear hK hn hR hk3 hKN hRl hk' hWs hin0 hWl hKl hfst hsnd hq hk2
                                  go_wp2_with fail
                                  go_roundw
                                  case rel => exact ⟨insE (p0, p1) O, M ++ [y], V ++ (kdN xs y).map (fun z => ((z, y) : Int × Int)), ao2, co2, am2, cm2, aw', cw', aa', ca', n, by simp, by simp, by simp, by simp, HN.out.1, HN.out.2⟩
                                  case measure => simp [lnV]; omega
                      · have hne4 : (p4 != IntKind.u64.wrap (rR + 1)) = true := by simpa using heq
                        have hno : ¬ stO xs cn M O.length y u := fun q => by
                          have e := q.2.2.2.2.2.1.2
                          rw [HLR.out.2.2.2.1, HLR.out.2.1, ← HRR.out.2] at e
                          exact heq e
                        have hRN : Hid (R = none) := by
                          have q := hS.out.r
                          obtain ⟨k', hk'⟩ : ∃ k', 1002 - M.length = k' + 1 := ⟨1001 - M.length, by omega⟩
                          rw [hk', stS_not HVV.out.1 hno] at q
                          exact hid q.symm
                        go_wp2_with fail
                        go_ret2
                        exact ⟨.slice none 0 0, false, rfl, HK7.out, fun f => by (cases f), fun _ ⟨O2, hO⟩ => by
                          have q := (HFN.out O2).1 hO
                          rw [hRN.out] at q
                          cases q.2.1⟩
end Go.Proofs.Ytalopkllldnipaa
