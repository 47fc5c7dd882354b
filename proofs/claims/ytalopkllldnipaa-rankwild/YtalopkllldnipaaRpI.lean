
/- The law RankWild, walked (layer 24). No statement of the seat is proved here. -/
import Derived.Test.YtalopkllldnipaaRpH
import Derived.Test.YtalopkllldnipaaRoG
import Derived.Test.YtalopkllldnipaaRpF
namespace Go.Proofs.Ytalopkllldnipaa
open Go.RowKit

theorem Keeps.none {a x y : World} {b g : Nat} (h : Keeps (fun _ => False) a x) (k : Keeps (two b g) x y) (hb : a.heap.size ≤ b) (hg : a.heap.size ≤ g) : Keeps (fun _ => False) a y :=
  h.step k (fun i hi e => by rcases e with e | e <;> omega)
/-- What Stands finds are numbers' words. -/
theorem fnd_num {W : List Int} (hW : ∀ x ∈ W, isW x) {h : Int} {k : Nat} {O : List (Int × Int)} (hO : Fnd W h k O) : ∀ i, i < O.length → reK (oe O i).1 = true ∧ isW (oe O i).1 := by
  obtain ⟨M, hM⟩ := stS_snd hW _ _ _ _ _ (Sv.start (oat_isW hW _)) hO.2.1
  intro i hi
  have hm : oe O i ∈ O := by
    unfold oe
    rw [List.getElem?_eq_getElem hi]
    exact List.getElem_mem hi
  rw [hM.out] at hm
  obtain ⟨x, hx, e⟩ := List.mem_map.1 ((sortE_perm _).mem_iff.1 hm)
  rw [← hM.out] at e
  rw [← e]
  exact ⟨(hM.he x hx).2, oat_wd hW x 0⟩
theorem keeps_sized {w X : World} (k : Keeps (fun _ => False) w X) : w.heap.size ≤ X.heap.size := k.size
set_option maxRecDepth 100000 in
set_option maxHeartbeats 8000000 in
theorem wild_walk (v : Value) (ws : List Int) (h kd on bt wd : Int) (hh : isW h) (hbt : isW bt) (hwd : isW wd) (hws : ∀ x ∈ ws, isW x) (w : World) (hl : Lies w v ws) :
    Calls Try.prog 5 #[v, .int .u64 h, .agg #[.int .i64 kd, .int .i64 on, .int .u64 bt, .int .u64 wd]] w fun e w' => e = .returned (.bool true) ∧ Keeps (fun _ => False) w w' := by
  have HL := hid hl
  obtain ⟨av, cv, rfl, hlc⟩ := hl
  have HC := hid hlc
  clear hlc
  by_cases hbig : 500 < ws.length
  · have hb' : (500 : Int) < (ws.length : Int) := by omega
    go_enter Try.func5, Try.ntmps5
    go_wp2_with fail
    refine (known_any _).mono ?_
    rintro e_ w1 ⟨rfl, k1⟩
    have KK := hid ((keeps_new w _).trans k1)
    clear k1
    go_wp2_with fail
    go_ret
    exact ⟨rfl, KK.out⟩
  have hb' : (ws.length : Int) ≤ 500 := by omega
  have hn : ws.length ≤ 1000000 := by omega
  have HN := hid hn
  have HWS := hid hws
  have hwl : IntKind.u64.wrap (ws.length : Int) = (ws.length : Int) := by rw [IntKind.wrap_u64]; omega
  clear hbig hn hws
  have hh0 : 0 ≤ h := hh.1
  have hu0 : uw (h + (0 : Nat)) = h := by rw [show h + ((0 : Nat) : Int) = h by omega]; exact uw_id hh
  have HU0 := hid hu0
  clear hu0
  obtain ⟨h2, hh2⟩ : ∃ h2, IntKind.u64.wrap (h + 2) = h2 := ⟨_, rfl⟩
  have HH2 : Hid (isW h2) := by rw [← hh2]; exact hid (uw_isW (h + 2))
  have h20 : 0 ≤ h2 := HH2.out.1
  have HB : Hid (∀ X, Keeps (fun _ => False) (w.alloc (.cells #[.int .i64 kd, .int .i64 on, .int .u64 bt, .int .u64 wd] 33)) X → X.heap[w.heap.size]? = some (.cells #[.int .i64 kd, .int .i64 on, .int .u64 bt, .int .u64 wd] 33 (0, 0)) ∧ Keeps (fun _ => False) w X ∧ Lies X (.slice av ws.length cv) ws) := by
    refine hid fun X k => ?_
    have k2 := (keeps_new w (.cells #[.int .i64 kd, .int .i64 on, .int .u64 bt, .int .u64 wd] 33)).trans k
    exact ⟨(k.block w.heap.size (by simp) (fun f => f)).trans (alloc_block w _), k2, HL.out.keeps k2 (fun _ _ _ _ f => f)⟩
  have HS : Hid (∀ X, Keeps (fun _ => False) (w.alloc (.cells #[.int .i64 kd, .int .i64 on, .int .u64 bt, .int .u64 wd] 33)) X → X.cell? ⟨w.heap.size, 0, none⟩ = some (.int .i64 kd) ∧ X.cell? ⟨w.heap.size, 1, none⟩ = some (.int .i64 on) ∧ X.cell? ⟨w.heap.size, 2, none⟩ = some (.int .u64 bt) ∧ X.cell? ⟨w.heap.size, 3, none⟩ = some (.int .u64 wd)) := by
    refine hid fun X k => ?_
    have hb := (HB.out X k).1
    refine ⟨?_, ?_, ?_, ?_⟩ <;> (rw [cell_of_block hb]; rfl)
  by_cases hA : h < (ws.length : Int)
  · obtain ⟨g0, off0, eA, _⟩ := HC.out h.toNat (by have := hh.1; omega)
    subst eA
    have cA : Hid (∀ X, Keeps (fun _ => False) (w.alloc (.cells #[.int .i64 kd, .int .i64 on, .int .u64 bt, .int .u64 wd] 33)) X → X.cell? ⟨g0, off0 + h.toNat, none⟩ = some (.int .u64 (oat ws h.toNat))) := by
      refine hid fun X k => ?_
      obtain ⟨_, _, q, hc⟩ := (HB.out X k).2.2
      injection q with q _ _
      obtain ⟨g1, off1, e1, c1⟩ := hc h.toNat (by have := hh.1; omega)
      rw [← q] at e1
      cases e1
      exact c1
    have cA0 := cA.out _ (Keeps.refl _ _)
    obtain ⟨mA, hmA⟩ : ∃ m, oat ws h.toNat = m := ⟨_, rfl⟩
    rw [hmA] at cA0
    have HMA := hid hmA
    clear hmA
    by_cases hA2 : 1000 < mA
    · skip
      go_enter Try.func5, Try.ntmps5
      go_wp2_with fail
      refine (known_any _).mono ?_
      rintro e_ w1 ⟨rfl, k1⟩
      have KK := hid ((keeps_new w _).trans k1)
      clear k1
      go_wp2_with fail
      go_ret
      exact ⟨rfl, KK.out⟩
    · have hA3 : mA ≤ 1000 := by omega
      clear hA2
      have HCN : Hid (inH ws h → cnH ws h ≤ 1000) := by
        refine hid fun _ => ?_
        unfold cnH
        rw [HU0.out, HMA.out]
        exact hA3
      by_cases hB : h2 < (ws.length : Int)
      · have cB : Hid (∀ X, Keeps (fun _ => False) (w.alloc (.cells #[.int .i64 kd, .int .i64 on, .int .u64 bt, .int .u64 wd] 33)) X → X.cell? ⟨g0, off0 + h2.toNat, none⟩ = some (.int .u64 (oat ws h2.toNat))) := by
          refine hid fun X k => ?_
          obtain ⟨_, _, q, hc⟩ := (HB.out X k).2.2
          injection q with q _ _
          obtain ⟨g1, off1, e1, c1⟩ := hc h2.toNat (by have := HH2.out.1; omega)
          rw [← q] at e1
          cases e1
          exact c1
        have cB0 := cB.out _ (Keeps.refl _ _)
        obtain ⟨mB, hmB⟩ : ∃ m, oat ws h2.toNat = m := ⟨_, rfl⟩
        rw [hmB] at cB0
        clear hmB
        by_cases hB2 : 1000 < mB
        · skip
          go_enter Try.func5, Try.ntmps5
          go_wp2_with fail
          refine (known_any _).mono ?_
          rintro e_ w1 ⟨rfl, k1⟩
          have KK := hid ((keeps_new w _).trans k1)
          clear k1
          go_wp2_with fail
          go_ret
          exact ⟨rfl, KK.out⟩
        · have hB3 : mB ≤ 1000 := by omega
          clear hB2
          go_enter Try.func5, Try.ntmps5
          obtain ⟨⟨⟨R1, f1⟩, s1⟩, eq1⟩ : ∃ r, callF 0 h h2 kd bt wd ⟨ws, 0, 0, -1, 0⟩ = r := ⟨_, rfl⟩
          have HE1 := hid eq1
          obtain ⟨l, e, s2, eq2, _, hy, hyl, hno⟩ := wild_all HWS.out (s := ⟨ws, 0, 0, -1, 0⟩) ⟨rfl, neg1⟩ h 1002 (fun q => by have := HCN.out q; omega) (fun q => by have := HCN.out q; omega)
          have HE2 := hid eq2
          have HY := hid hy
          have HYL := hid hyl
          have HNO := hid hno
          clear eq1 eq2 hy hyl hno
          go_wp2_with fail
          have k0 : Keeps (fun _ => False) (w.alloc (.cells #[.int .i64 kd, .int .i64 on, .int .u64 bt, .int .u64 wd] 33)) (w.alloc (.cells #[.int .i64 kd, .int .i64 on, .int .u64 bt, .int .u64 wd] 33)).drew := by first | exact (Keeps.refl _ _).drew | exact (((Keeps.refl (fun _ => False) (w.alloc (.cells #[.int .i64 kd, .int .i64 on, .int .u64 bt, .int .u64 wd] 33))).drewN _)).drew | exact ((((Keeps.refl (fun _ => False) (w.alloc (.cells #[.int .i64 kd, .int .i64 on, .int .u64 bt, .int .u64 wd] 33))).drewN _)).drewN _).drew
          have hSa := HS.out _ k0
          have hL0 := (HB.out _ k0).2.2
          refine wp_held_end (S := fun W : World => W.cell? ⟨w.heap.size, 0, none⟩ = some (.int .i64 kd) ∧ W.cell? ⟨w.heap.size, 1, none⟩ = some (.int .i64 on) ∧ W.cell? ⟨w.heap.size, 2, none⟩ = some (.int .u64 bt) ∧ W.cell? ⟨w.heap.size, 3, none⟩ = some (.int .u64 wd)) 8 rfl hmxp ?_
          simp only [Array.replicate_succ, Array.replicate_zero, List.push_toArray, List.nil_append, List.cons_append]
          refine held_take (i := 0) (v := (.slice (some ⟨g0, off0, none⟩) ws.length cv)) 44 rfl rfl (by kernel_rfl) (by kernel_rfl) (by kernel_rfl) rfl (fun w' hw' => by obtain ⟨q0, q1, q2, q3⟩ := hw'; go_simp) hSa ?_
          simp only [Act.put, List.setIfInBounds_toArray, List.set_cons_zero, List.set_cons_succ]
          refine held_take (i := 3) (v := (.int .u64 h)) 47 rfl rfl (by kernel_rfl) (by kernel_rfl) (by kernel_rfl) rfl (fun w' hw' => by obtain ⟨q0, q1, q2, q3⟩ := hw'; go_simp) hSa ?_
          simp only [Act.put, List.setIfInBounds_toArray, List.set_cons_zero, List.set_cons_succ]
          refine held_take (i := 4) (v := (.int .u64 h)) 48 rfl rfl (by kernel_rfl) (by kernel_rfl) (by kernel_rfl) rfl (fun w' hw' => by obtain ⟨q0, q1, q2, q3⟩ := hw'; go_simp) hSa ?_
          simp only [Act.put, List.setIfInBounds_toArray, List.set_cons_zero, List.set_cons_succ]
          refine held_take (i := 5) (v := (.int .u64 h2)) 49 rfl rfl (by kernel_rfl) (by kernel_rfl) (by kernel_rfl) rfl (fun w' hw' => by obtain ⟨q0, q1, q2, q3⟩ := hw'; go_simp) hSa ?_
          simp only [Act.put, List.setIfInBounds_toArray, List.set_cons_zero, List.set_cons_succ]
          refine held_take (i := 6) (v := (.agg #[.int .i64 kd, .int .i64 on, .int .u64 bt, .int .u64 wd])) 50 rfl rfl (by kernel_rfl) (by kernel_rfl) (by kernel_rfl) rfl (fun w' hw' => by obtain ⟨q0, q1, q2, q3⟩ := hw'; go_simp) hSa ?_
          simp only [Act.put, List.setIfInBounds_toArray, List.set_cons_zero, List.set_cons_succ]
          refine held_call (i := 1) (f := 19) (args := #[.slice (some ⟨g0, off0, none⟩) ws.length cv]) 45 (by kernel_rfl) rfl rfl rfl (by go_simp) ?_
          refine (over_any _ ws HWS.out HN.out _ hL0).mono ?_
          rintro e_ x1 ⟨b, g, c, rfl, h1, k1, lb, lg⟩
          have KK := hid (k0.trans k1)
          have hSb := HS.out x1 KK.out
          have HLB : Hid (w.heap.size + 1 ≤ b ∧ w.heap.size + 1 ≤ g) := by
            have z1 := Nat.le_trans k0.size lb
            have z2 := Nat.le_trans k0.size lg
            simp at z1 z2
            exact hid ⟨by omega, by omega⟩
          have H1 := hid h1
          clear h1 k1 lb lg k0 hL0
          refine ⟨_, rfl, hSb, ?_⟩
          simp only [Act.put, List.setIfInBounds_toArray, List.set_cons_zero, List.set_cons_succ]
          refine held_take (i := 2) (v := (.iface 24 (.pointer (some ⟨b, 0, none⟩)))) 46 rfl rfl (by kernel_rfl) (by kernel_rfl) (by kernel_rfl) rfl (fun w' hw' => by obtain ⟨q0, q1, q2, q3⟩ := hw'; go_simp) hSb ?_
          simp only [Act.put, List.setIfInBounds_toArray, List.set_cons_zero, List.set_cons_succ]
          refine held_call (i := 7) (f := 11) (args := #[.iface 24 (.pointer (some ⟨b, 0, none⟩)), .int .u64 0, .int .u64 h, .int .u64 h2, .agg #[.int .i64 kd, .int .i64 on, .int .u64 bt, .int .u64 wd]]) 51 (by kernel_rfl) rfl rfl rfl (by go_simp) ?_
          refine (do_any HE1 ⟨Int.le_refl _, by decide⟩ hh HH2.out hbt hwd H1.out).mono ?_
          rintro e_ x2 ⟨_, _, _, rfl, _, _, _, k2⟩
          replace KK := hid (KK.out.none k2 (by have := HLB.out; simp; omega) (by have := HLB.out; simp; omega))
          have hSc := HS.out x2 KK.out
          clear k2 H1 HLB
          refine ⟨_, rfl, hSc, ?_⟩
          simp only [Act.put, List.setIfInBounds_toArray, List.set_cons_zero, List.set_cons_succ]
          refine held_end (by kernel_rfl) ?_ _
          clear hSc hSb hSa HS
          have hL2 := (HB.out x2 KK.out).2.2
          go_wp2_with fail
          refine (over_any _ ws HWS.out HN.out _ hL2).mono ?_
          rintro e_ x3 ⟨b2, g2, c2, rfl, h3, k3, lb, lg⟩
          have hsz := KK.out.size
          simp at hsz
          replace KK := hid (KK.out.trans k3)
          have H3 := hid (And.intro h3 (And.intro lb lg))
          clear h3 k3 lb lg hL2
          go_wp2_with fail
          have hh3 := H3.out
          refine (all_any HE2 hh hh3.1).mono ?_
          rintro e_ x4 ⟨v4, rfl, r4, h4, k4⟩
          replace KK := hid (KK.out.none k4 (by simp; omega) (by simp; omega))
          have HV4 := hid r4
          obtain ⟨a4, c4, rfl⟩ := r4.form
          have hL4 := (HB.out x4 KK.out).2.2
          clear hh3 H3 h4 k4 r4 hsz
          go_wp2_with fail
          refine (dstands_any ws _ h hh HWS.out HN.out (fun q => by have := HCN.out q; omega) _ hL4).mono ?_
          rintro e_ x5 ⟨v5, B, rfl, k5, hbt5, hbf5⟩
          have HV4b := hid (HV4.out.lies.keeps k5)
          replace KK := hid (KK.out.trans k5)
          clear k5 hL4 HV4
          cases B with
          | true =>
            obtain ⟨O, hO, hOl⟩ := hbt5 rfl
            have HOL := hid hOl
            have he := HY.out ⟨O, hO⟩
            have hl := HYL.out O hO
            subst hl
            subst he
            have HOW := hid (fnd_num HWS.out hO)
            have HLL : Hid (l.length ≤ 2147483647) := by
              have z := hO.2.2
              have z2 := HCN.out hO.1
              exact hid (by omega)
            obtain ⟨a5, c5, rfl, _⟩ := hOl
            clear hbt5 hbf5 hO HY HYL HNO HE1 HE2
            go_wp2_with fail
            refine (dsame_any l _ _ HLL.out HOW.out _ HV4b.out HOL.out).mono ?_
            rintro e_ x6 ⟨rfl, k6⟩
            replace KK := hid (KK.out.trans k6)
            clear k6 HOL HV4b HOW HLL
            go_wp2_with fail
            refine (known_any _).mono ?_
            rintro e_ x7 ⟨rfl, k7⟩
            replace KK := hid (KK.out.trans k7)
            clear k7
            go_wp2_with fail
            go_ret
            exact ⟨rfl, (HB.out _ KK.out).2.1⟩
          | false =>
            obtain ⟨he, hl⟩ := HNO.out (hbf5 rfl)
            subst hl
            clear hbt5 hbf5 HY HYL HNO HE1 HV4b
            rcases he with rfl | rfl
            · clear HE2
              go_wp2_with fail
              refine (known_any _).mono ?_
              rintro e_ x7 ⟨rfl, k7⟩
              replace KK := hid (KK.out.trans k7)
              clear k7
              go_wp2_with fail
              go_ret
              exact ⟨rfl, (HB.out _ KK.out).2.1⟩
            · clear HE2
              go_wp2_with fail
              refine (known_any _).mono ?_
              rintro e_ x7 ⟨rfl, k7⟩
              replace KK := hid (KK.out.trans k7)
              clear k7
              go_wp2_with fail
              go_ret
              exact ⟨rfl, (HB.out _ KK.out).2.1⟩
      · have hB2 : (ws.length : Int) ≤ h2 := by omega
        clear hB
        go_enter Try.func5, Try.ntmps5
        obtain ⟨⟨⟨R1, f1⟩, s1⟩, eq1⟩ : ∃ r, callF 0 h h2 kd bt wd ⟨ws, 0, 0, -1, 0⟩ = r := ⟨_, rfl⟩
        have HE1 := hid eq1
        obtain ⟨l, e, s2, eq2, _, hy, hyl, hno⟩ := wild_all HWS.out (s := ⟨ws, 0, 0, -1, 0⟩) ⟨rfl, neg1⟩ h 1002 (fun q => by have := HCN.out q; omega) (fun q => by have := HCN.out q; omega)
        have HE2 := hid eq2
        have HY := hid hy
        have HYL := hid hyl
        have HNO := hid hno
        clear eq1 eq2 hy hyl hno
        go_wp2_with fail
        have k0 : Keeps (fun _ => False) (w.alloc (.cells #[.int .i64 kd, .int .i64 on, .int .u64 bt, .int .u64 wd] 33)) (w.alloc (.cells #[.int .i64 kd, .int .i64 on, .int .u64 bt, .int .u64 wd] 33)).drew := by first | exact (Keeps.refl _ _).drew | exact (((Keeps.refl (fun _ => False) (w.alloc (.cells #[.int .i64 kd, .int .i64 on, .int .u64 bt, .int .u64 wd] 33))).drewN _)).drew | exact ((((Keeps.refl (fun _ => False) (w.alloc (.cells #[.int .i64 kd, .int .i64 on, .int .u64 bt, .int .u64 wd] 33))).drewN _)).drewN _).drew
        have hSa := HS.out _ k0
        have hL0 := (HB.out _ k0).2.2
        refine wp_held_end (S := fun W : World => W.cell? ⟨w.heap.size, 0, none⟩ = some (.int .i64 kd) ∧ W.cell? ⟨w.heap.size, 1, none⟩ = some (.int .i64 on) ∧ W.cell? ⟨w.heap.size, 2, none⟩ = some (.int .u64 bt) ∧ W.cell? ⟨w.heap.size, 3, none⟩ = some (.int .u64 wd)) 8 rfl hmxp ?_
        simp only [Array.replicate_succ, Array.replicate_zero, List.push_toArray, List.nil_append, List.cons_append]
        refine held_take (i := 0) (v := (.slice (some ⟨g0, off0, none⟩) ws.length cv)) 44 rfl rfl (by kernel_rfl) (by kernel_rfl) (by kernel_rfl) rfl (fun w' hw' => by obtain ⟨q0, q1, q2, q3⟩ := hw'; go_simp) hSa ?_
        simp only [Act.put, List.setIfInBounds_toArray, List.set_cons_zero, List.set_cons_succ]
        refine held_take (i := 3) (v := (.int .u64 h)) 47 rfl rfl (by kernel_rfl) (by kernel_rfl) (by kernel_rfl) rfl (fun w' hw' => by obtain ⟨q0, q1, q2, q3⟩ := hw'; go_simp) hSa ?_
        simp only [Act.put, List.setIfInBounds_toArray, List.set_cons_zero, List.set_cons_succ]
        refine held_take (i := 4) (v := (.int .u64 h)) 48 rfl rfl (by kernel_rfl) (by kernel_rfl) (by kernel_rfl) rfl (fun w' hw' => by obtain ⟨q0, q1, q2, q3⟩ := hw'; go_simp) hSa ?_
        simp only [Act.put, List.setIfInBounds_toArray, List.set_cons_zero, List.set_cons_succ]
        refine held_take (i := 5) (v := (.int .u64 h2)) 49 rfl rfl (by kernel_rfl) (by kernel_rfl) (by kernel_rfl) rfl (fun w' hw' => by obtain ⟨q0, q1, q2, q3⟩ := hw'; go_simp) hSa ?_
        simp only [Act.put, List.setIfInBounds_toArray, List.set_cons_zero, List.set_cons_succ]
        refine held_take (i := 6) (v := (.agg #[.int .i64 kd, .int .i64 on, .int .u64 bt, .int .u64 wd])) 50 rfl rfl (by kernel_rfl) (by kernel_rfl) (by kernel_rfl) rfl (fun w' hw' => by obtain ⟨q0, q1, q2, q3⟩ := hw'; go_simp) hSa ?_
        simp only [Act.put, List.setIfInBounds_toArray, List.set_cons_zero, List.set_cons_succ]
        refine held_call (i := 1) (f := 19) (args := #[.slice (some ⟨g0, off0, none⟩) ws.length cv]) 45 (by kernel_rfl) rfl rfl rfl (by go_simp) ?_
        refine (over_any _ ws HWS.out HN.out _ hL0).mono ?_
        rintro e_ x1 ⟨b, g, c, rfl, h1, k1, lb, lg⟩
        have KK := hid (k0.trans k1)
        have hSb := HS.out x1 KK.out
        have HLB : Hid (w.heap.size + 1 ≤ b ∧ w.heap.size + 1 ≤ g) := by
          have z1 := Nat.le_trans k0.size lb
          have z2 := Nat.le_trans k0.size lg
          simp at z1 z2
          exact hid ⟨by omega, by omega⟩
        have H1 := hid h1
        clear h1 k1 lb lg k0 hL0
        refine ⟨_, rfl, hSb, ?_⟩
        simp only [Act.put, List.setIfInBounds_toArray, List.set_cons_zero, List.set_cons_succ]
        refine held_take (i := 2) (v := (.iface 24 (.pointer (some ⟨b, 0, none⟩)))) 46 rfl rfl (by kernel_rfl) (by kernel_rfl) (by kernel_rfl) rfl (fun w' hw' => by obtain ⟨q0, q1, q2, q3⟩ := hw'; go_simp) hSb ?_
        simp only [Act.put, List.setIfInBounds_toArray, List.set_cons_zero, List.set_cons_succ]
        refine held_call (i := 7) (f := 11) (args := #[.iface 24 (.pointer (some ⟨b, 0, none⟩)), .int .u64 0, .int .u64 h, .int .u64 h2, .agg #[.int .i64 kd, .int .i64 on, .int .u64 bt, .int .u64 wd]]) 51 (by kernel_rfl) rfl rfl rfl (by go_simp) ?_
        refine (do_any HE1 ⟨Int.le_refl _, by decide⟩ hh HH2.out hbt hwd H1.out).mono ?_
        rintro e_ x2 ⟨_, _, _, rfl, _, _, _, k2⟩
        replace KK := hid (KK.out.none k2 (by have := HLB.out; simp; omega) (by have := HLB.out; simp; omega))
        have hSc := HS.out x2 KK.out
        clear k2 H1 HLB
        refine ⟨_, rfl, hSc, ?_⟩
        simp only [Act.put, List.setIfInBounds_toArray, List.set_cons_zero, List.set_cons_succ]
        refine held_end (by kernel_rfl) ?_ _
        clear hSc hSb hSa HS
        have hL2 := (HB.out x2 KK.out).2.2
        go_wp2_with fail
        refine (over_any _ ws HWS.out HN.out _ hL2).mono ?_
        rintro e_ x3 ⟨b2, g2, c2, rfl, h3, k3, lb, lg⟩
        have hsz := KK.out.size
        simp at hsz
        replace KK := hid (KK.out.trans k3)
        have H3 := hid (And.intro h3 (And.intro lb lg))
        clear h3 k3 lb lg hL2
        go_wp2_with fail
        have hh3 := H3.out
        refine (all_any HE2 hh hh3.1).mono ?_
        rintro e_ x4 ⟨v4, rfl, r4, h4, k4⟩
        replace KK := hid (KK.out.none k4 (by simp; omega) (by simp; omega))
        have HV4 := hid r4
        obtain ⟨a4, c4, rfl⟩ := r4.form
        have hL4 := (HB.out x4 KK.out).2.2
        clear hh3 H3 h4 k4 r4 hsz
        go_wp2_with fail
        refine (dstands_any ws _ h hh HWS.out HN.out (fun q => by have := HCN.out q; omega) _ hL4).mono ?_
        rintro e_ x5 ⟨v5, B, rfl, k5, hbt5, hbf5⟩
        have HV4b := hid (HV4.out.lies.keeps k5)
        replace KK := hid (KK.out.trans k5)
        clear k5 hL4 HV4
        cases B with
        | true =>
          obtain ⟨O, hO, hOl⟩ := hbt5 rfl
          have HOL := hid hOl
          have he := HY.out ⟨O, hO⟩
          have hl := HYL.out O hO
          subst hl
          subst he
          have HOW := hid (fnd_num HWS.out hO)
          have HLL : Hid (l.length ≤ 2147483647) := by
            have z := hO.2.2
            have z2 := HCN.out hO.1
            exact hid (by omega)
          obtain ⟨a5, c5, rfl, _⟩ := hOl
          clear hbt5 hbf5 hO HY HYL HNO HE1 HE2
          go_wp2_with fail
          refine (dsame_any l _ _ HLL.out HOW.out _ HV4b.out HOL.out).mono ?_
          rintro e_ x6 ⟨rfl, k6⟩
          replace KK := hid (KK.out.trans k6)
          clear k6 HOL HV4b HOW HLL
          go_wp2_with fail
          refine (known_any _).mono ?_
          rintro e_ x7 ⟨rfl, k7⟩
          replace KK := hid (KK.out.trans k7)
          clear k7
          go_wp2_with fail
          go_ret
          exact ⟨rfl, (HB.out _ KK.out).2.1⟩
        | false =>
          obtain ⟨he, hl⟩ := HNO.out (hbf5 rfl)
          subst hl
          clear hbt5 hbf5 HY HYL HNO HE1 HV4b
          rcases he with rfl | rfl
          · clear HE2
            go_wp2_with fail
            refine (known_any _).mono ?_
            rintro e_ x7 ⟨rfl, k7⟩
            replace KK := hid (KK.out.trans k7)
            clear k7
            go_wp2_with fail
            go_ret
            exact ⟨rfl, (HB.out _ KK.out).2.1⟩
          · clear HE2
            go_wp2_with fail
            refine (known_any _).mono ?_
            rintro e_ x7 ⟨rfl, k7⟩
            replace KK := hid (KK.out.trans k7)
            clear k7
            go_wp2_with fail
            go_ret
            exact ⟨rfl, (HB.out _ KK.out).2.1⟩
  · have hA2 : (ws.length : Int) ≤ h := by omega
    clear hA
    have HCN : Hid (inH ws h → cnH ws h ≤ 1000) := by
      refine hid fun q => ?_
      have z := q.1
      rw [HU0.out] at z
      omega
    by_cases hB : h2 < (ws.length : Int)
    · obtain ⟨g0, off0, eA, _⟩ := HC.out h2.toNat (by have := HH2.out.1; omega)
      subst eA
      have cB : Hid (∀ X, Keeps (fun _ => False) (w.alloc (.cells #[.int .i64 kd, .int .i64 on, .int .u64 bt, .int .u64 wd] 33)) X → X.cell? ⟨g0, off0 + h2.toNat, none⟩ = some (.int .u64 (oat ws h2.toNat))) := by
        refine hid fun X k => ?_
        obtain ⟨_, _, q, hc⟩ := (HB.out X k).2.2
        injection q with q _ _
        obtain ⟨g1, off1, e1, c1⟩ := hc h2.toNat (by have := HH2.out.1; omega)
        rw [← q] at e1
        cases e1
        exact c1
      have cB0 := cB.out _ (Keeps.refl _ _)
      obtain ⟨mB, hmB⟩ : ∃ m, oat ws h2.toNat = m := ⟨_, rfl⟩
      rw [hmB] at cB0
      clear hmB
      by_cases hB2 : 1000 < mB
      · skip
        go_enter Try.func5, Try.ntmps5
        go_wp2_with fail
        refine (known_any _).mono ?_
        rintro e_ w1 ⟨rfl, k1⟩
        have KK := hid ((keeps_new w _).trans k1)
        clear k1
        go_wp2_with fail
        go_ret
        exact ⟨rfl, KK.out⟩
      · have hB3 : mB ≤ 1000 := by omega
        clear hB2
        go_enter Try.func5, Try.ntmps5
        obtain ⟨⟨⟨R1, f1⟩, s1⟩, eq1⟩ : ∃ r, callF 0 h h2 kd bt wd ⟨ws, 0, 0, -1, 0⟩ = r := ⟨_, rfl⟩
        have HE1 := hid eq1
        obtain ⟨l, e, s2, eq2, _, hy, hyl, hno⟩ := wild_all HWS.out (s := ⟨ws, 0, 0, -1, 0⟩) ⟨rfl, neg1⟩ h 1002 (fun q => by have := HCN.out q; omega) (fun q => by have := HCN.out q; omega)
        have HE2 := hid eq2
        have HY := hid hy
        have HYL := hid hyl
        have HNO := hid hno
        clear eq1 eq2 hy hyl hno
        go_wp2_with fail
        have k0 : Keeps (fun _ => False) (w.alloc (.cells #[.int .i64 kd, .int .i64 on, .int .u64 bt, .int .u64 wd] 33)) (w.alloc (.cells #[.int .i64 kd, .int .i64 on, .int .u64 bt, .int .u64 wd] 33)).drew := by first | exact (Keeps.refl _ _).drew | exact (((Keeps.refl (fun _ => False) (w.alloc (.cells #[.int .i64 kd, .int .i64 on, .int .u64 bt, .int .u64 wd] 33))).drewN _)).drew | exact ((((Keeps.refl (fun _ => False) (w.alloc (.cells #[.int .i64 kd, .int .i64 on, .int .u64 bt, .int .u64 wd] 33))).drewN _)).drewN _).drew
        have hSa := HS.out _ k0
        have hL0 := (HB.out _ k0).2.2
        refine wp_held_end (S := fun W : World => W.cell? ⟨w.heap.size, 0, none⟩ = some (.int .i64 kd) ∧ W.cell? ⟨w.heap.size, 1, none⟩ = some (.int .i64 on) ∧ W.cell? ⟨w.heap.size, 2, none⟩ = some (.int .u64 bt) ∧ W.cell? ⟨w.heap.size, 3, none⟩ = some (.int .u64 wd)) 8 rfl hmxp ?_
        simp only [Array.replicate_succ, Array.replicate_zero, List.push_toArray, List.nil_append, List.cons_append]
        refine held_take (i := 0) (v := (.slice (some ⟨g0, off0, none⟩) ws.length cv)) 44 rfl rfl (by kernel_rfl) (by kernel_rfl) (by kernel_rfl) rfl (fun w' hw' => by obtain ⟨q0, q1, q2, q3⟩ := hw'; go_simp) hSa ?_
        simp only [Act.put, List.setIfInBounds_toArray, List.set_cons_zero, List.set_cons_succ]
        refine held_take (i := 3) (v := (.int .u64 h)) 47 rfl rfl (by kernel_rfl) (by kernel_rfl) (by kernel_rfl) rfl (fun w' hw' => by obtain ⟨q0, q1, q2, q3⟩ := hw'; go_simp) hSa ?_
        simp only [Act.put, List.setIfInBounds_toArray, List.set_cons_zero, List.set_cons_succ]
        refine held_take (i := 4) (v := (.int .u64 h)) 48 rfl rfl (by kernel_rfl) (by kernel_rfl) (by kernel_rfl) rfl (fun w' hw' => by obtain ⟨q0, q1, q2, q3⟩ := hw'; go_simp) hSa ?_
        simp only [Act.put, List.setIfInBounds_toArray, List.set_cons_zero, List.set_cons_succ]
        refine held_take (i := 5) (v := (.int .u64 h2)) 49 rfl rfl (by kernel_rfl) (by kernel_rfl) (by kernel_rfl) rfl (fun w' hw' => by obtain ⟨q0, q1, q2, q3⟩ := hw'; go_simp) hSa ?_
        simp only [Act.put, List.setIfInBounds_toArray, List.set_cons_zero, List.set_cons_succ]
        refine held_take (i := 6) (v := (.agg #[.int .i64 kd, .int .i64 on, .int .u64 bt, .int .u64 wd])) 50 rfl rfl (by kernel_rfl) (by kernel_rfl) (by kernel_rfl) rfl (fun w' hw' => by obtain ⟨q0, q1, q2, q3⟩ := hw'; go_simp) hSa ?_
        simp only [Act.put, List.setIfInBounds_toArray, List.set_cons_zero, List.set_cons_succ]
        refine held_call (i := 1) (f := 19) (args := #[.slice (some ⟨g0, off0, none⟩) ws.length cv]) 45 (by kernel_rfl) rfl rfl rfl (by go_simp) ?_
        refine (over_any _ ws HWS.out HN.out _ hL0).mono ?_
        rintro e_ x1 ⟨b, g, c, rfl, h1, k1, lb, lg⟩
        have KK := hid (k0.trans k1)
        have hSb := HS.out x1 KK.out
        have HLB : Hid (w.heap.size + 1 ≤ b ∧ w.heap.size + 1 ≤ g) := by
          have z1 := Nat.le_trans k0.size lb
          have z2 := Nat.le_trans k0.size lg
          simp at z1 z2
          exact hid ⟨by omega, by omega⟩
        have H1 := hid h1
        clear h1 k1 lb lg k0 hL0
        refine ⟨_, rfl, hSb, ?_⟩
        simp only [Act.put, List.setIfInBounds_toArray, List.set_cons_zero, List.set_cons_succ]
        refine held_take (i := 2) (v := (.iface 24 (.pointer (some ⟨b, 0, none⟩)))) 46 rfl rfl (by kernel_rfl) (by kernel_rfl) (by kernel_rfl) rfl (fun w' hw' => by obtain ⟨q0, q1, q2, q3⟩ := hw'; go_simp) hSb ?_
        simp only [Act.put, List.setIfInBounds_toArray, List.set_cons_zero, List.set_cons_succ]
        refine held_call (i := 7) (f := 11) (args := #[.iface 24 (.pointer (some ⟨b, 0, none⟩)), .int .u64 0, .int .u64 h, .int .u64 h2, .agg #[.int .i64 kd, .int .i64 on, .int .u64 bt, .int .u64 wd]]) 51 (by kernel_rfl) rfl rfl rfl (by go_simp) ?_
        refine (do_any HE1 ⟨Int.le_refl _, by decide⟩ hh HH2.out hbt hwd H1.out).mono ?_
        rintro e_ x2 ⟨_, _, _, rfl, _, _, _, k2⟩
        replace KK := hid (KK.out.none k2 (by have := HLB.out; simp; omega) (by have := HLB.out; simp; omega))
        have hSc := HS.out x2 KK.out
        clear k2 H1 HLB
        refine ⟨_, rfl, hSc, ?_⟩
        simp only [Act.put, List.setIfInBounds_toArray, List.set_cons_zero, List.set_cons_succ]
        refine held_end (by kernel_rfl) ?_ _
        clear hSc hSb hSa HS
        have hL2 := (HB.out x2 KK.out).2.2
        go_wp2_with fail
        refine (over_any _ ws HWS.out HN.out _ hL2).mono ?_
        rintro e_ x3 ⟨b2, g2, c2, rfl, h3, k3, lb, lg⟩
        have hsz := KK.out.size
        simp at hsz
        replace KK := hid (KK.out.trans k3)
        have H3 := hid (And.intro h3 (And.intro lb lg))
        clear h3 k3 lb lg hL2
        go_wp2_with fail
        have hh3 := H3.out
        refine (all_any HE2 hh hh3.1).mono ?_
        rintro e_ x4 ⟨v4, rfl, r4, h4, k4⟩
        replace KK := hid (KK.out.none k4 (by simp; omega) (by simp; omega))
        have HV4 := hid r4
        obtain ⟨a4, c4, rfl⟩ := r4.form
        have hL4 := (HB.out x4 KK.out).2.2
        clear hh3 H3 h4 k4 r4 hsz
        go_wp2_with fail
        refine (dstands_any ws _ h hh HWS.out HN.out (fun q => by have := HCN.out q; omega) _ hL4).mono ?_
        rintro e_ x5 ⟨v5, B, rfl, k5, hbt5, hbf5⟩
        have HV4b := hid (HV4.out.lies.keeps k5)
        replace KK := hid (KK.out.trans k5)
        clear k5 hL4 HV4
        cases B with
        | true =>
          obtain ⟨O, hO, hOl⟩ := hbt5 rfl
          have HOL := hid hOl
          have he := HY.out ⟨O, hO⟩
          have hl := HYL.out O hO
          subst hl
          subst he
          have HOW := hid (fnd_num HWS.out hO)
          have HLL : Hid (l.length ≤ 2147483647) := by
            have z := hO.2.2
            have z2 := HCN.out hO.1
            exact hid (by omega)
          obtain ⟨a5, c5, rfl, _⟩ := hOl
          clear hbt5 hbf5 hO HY HYL HNO HE1 HE2
          go_wp2_with fail
          refine (dsame_any l _ _ HLL.out HOW.out _ HV4b.out HOL.out).mono ?_
          rintro e_ x6 ⟨rfl, k6⟩
          replace KK := hid (KK.out.trans k6)
          clear k6 HOL HV4b HOW HLL
          go_wp2_with fail
          refine (known_any _).mono ?_
          rintro e_ x7 ⟨rfl, k7⟩
          replace KK := hid (KK.out.trans k7)
          clear k7
          go_wp2_with fail
          go_ret
          exact ⟨rfl, (HB.out _ KK.out).2.1⟩
        | false =>
          obtain ⟨he, hl⟩ := HNO.out (hbf5 rfl)
          subst hl
          clear hbt5 hbf5 HY HYL HNO HE1 HV4b
          rcases he with rfl | rfl
          · clear HE2
            go_wp2_with fail
            refine (known_any _).mono ?_
            rintro e_ x7 ⟨rfl, k7⟩
            replace KK := hid (KK.out.trans k7)
            clear k7
            go_wp2_with fail
            go_ret
            exact ⟨rfl, (HB.out _ KK.out).2.1⟩
          · clear HE2
            go_wp2_with fail
            refine (known_any _).mono ?_
            rintro e_ x7 ⟨rfl, k7⟩
            replace KK := hid (KK.out.trans k7)
            clear k7
            go_wp2_with fail
            go_ret
            exact ⟨rfl, (HB.out _ KK.out).2.1⟩
    · have hB2 : (ws.length : Int) ≤ h2 := by omega
      clear hB
      go_enter Try.func5, Try.ntmps5
      obtain ⟨⟨⟨R1, f1⟩, s1⟩, eq1⟩ : ∃ r, callF 0 h h2 kd bt wd ⟨ws, 0, 0, -1, 0⟩ = r := ⟨_, rfl⟩
      have HE1 := hid eq1
      obtain ⟨l, e, s2, eq2, _, hy, hyl, hno⟩ := wild_all HWS.out (s := ⟨ws, 0, 0, -1, 0⟩) ⟨rfl, neg1⟩ h 1002 (fun q => by have := HCN.out q; omega) (fun q => by have := HCN.out q; omega)
      have HE2 := hid eq2
      have HY := hid hy
      have HYL := hid hyl
      have HNO := hid hno
      clear eq1 eq2 hy hyl hno
      go_wp2_with fail
      have k0 : Keeps (fun _ => False) (w.alloc (.cells #[.int .i64 kd, .int .i64 on, .int .u64 bt, .int .u64 wd] 33)) (w.alloc (.cells #[.int .i64 kd, .int .i64 on, .int .u64 bt, .int .u64 wd] 33)).drew := by first | exact (Keeps.refl _ _).drew | exact (((Keeps.refl (fun _ => False) (w.alloc (.cells #[.int .i64 kd, .int .i64 on, .int .u64 bt, .int .u64 wd] 33))).drewN _)).drew | exact ((((Keeps.refl (fun _ => False) (w.alloc (.cells #[.int .i64 kd, .int .i64 on, .int .u64 bt, .int .u64 wd] 33))).drewN _)).drewN _).drew
      have hSa := HS.out _ k0
      have hL0 := (HB.out _ k0).2.2
      refine wp_held_end (S := fun W : World => W.cell? ⟨w.heap.size, 0, none⟩ = some (.int .i64 kd) ∧ W.cell? ⟨w.heap.size, 1, none⟩ = some (.int .i64 on) ∧ W.cell? ⟨w.heap.size, 2, none⟩ = some (.int .u64 bt) ∧ W.cell? ⟨w.heap.size, 3, none⟩ = some (.int .u64 wd)) 8 rfl hmxp ?_
      simp only [Array.replicate_succ, Array.replicate_zero, List.push_toArray, List.nil_append, List.cons_append]
      refine held_take (i := 0) (v := (.slice av ws.length cv)) 44 rfl rfl (by kernel_rfl) (by kernel_rfl) (by kernel_rfl) rfl (fun w' hw' => by obtain ⟨q0, q1, q2, q3⟩ := hw'; go_simp) hSa ?_
      simp only [Act.put, List.setIfInBounds_toArray, List.set_cons_zero, List.set_cons_succ]
      refine held_take (i := 3) (v := (.int .u64 h)) 47 rfl rfl (by kernel_rfl) (by kernel_rfl) (by kernel_rfl) rfl (fun w' hw' => by obtain ⟨q0, q1, q2, q3⟩ := hw'; go_simp) hSa ?_
      simp only [Act.put, List.setIfInBounds_toArray, List.set_cons_zero, List.set_cons_succ]
      refine held_take (i := 4) (v := (.int .u64 h)) 48 rfl rfl (by kernel_rfl) (by kernel_rfl) (by kernel_rfl) rfl (fun w' hw' => by obtain ⟨q0, q1, q2, q3⟩ := hw'; go_simp) hSa ?_
      simp only [Act.put, List.setIfInBounds_toArray, List.set_cons_zero, List.set_cons_succ]
      refine held_take (i := 5) (v := (.int .u64 h2)) 49 rfl rfl (by kernel_rfl) (by kernel_rfl) (by kernel_rfl) rfl (fun w' hw' => by obtain ⟨q0, q1, q2, q3⟩ := hw'; go_simp) hSa ?_
      simp only [Act.put, List.setIfInBounds_toArray, List.set_cons_zero, List.set_cons_succ]
      refine held_take (i := 6) (v := (.agg #[.int .i64 kd, .int .i64 on, .int .u64 bt, .int .u64 wd])) 50 rfl rfl (by kernel_rfl) (by kernel_rfl) (by kernel_rfl) rfl (fun w' hw' => by obtain ⟨q0, q1, q2, q3⟩ := hw'; go_simp) hSa ?_
      simp only [Act.put, List.setIfInBounds_toArray, List.set_cons_zero, List.set_cons_succ]
      refine held_call (i := 1) (f := 19) (args := #[.slice av ws.length cv]) 45 (by kernel_rfl) rfl rfl rfl (by go_simp) ?_
      refine (over_any _ ws HWS.out HN.out _ hL0).mono ?_
      rintro e_ x1 ⟨b, g, c, rfl, h1, k1, lb, lg⟩
      have KK := hid (k0.trans k1)
      have hSb := HS.out x1 KK.out
      have HLB : Hid (w.heap.size + 1 ≤ b ∧ w.heap.size + 1 ≤ g) := by
        have z1 := Nat.le_trans k0.size lb
        have z2 := Nat.le_trans k0.size lg
        simp at z1 z2
        exact hid ⟨by omega, by omega⟩
      have H1 := hid h1
      clear h1 k1 lb lg k0 hL0
      refine ⟨_, rfl, hSb, ?_⟩
      simp only [Act.put, List.setIfInBounds_toArray, List.set_cons_zero, List.set_cons_succ]
      refine held_take (i := 2) (v := (.iface 24 (.pointer (some ⟨b, 0, none⟩)))) 46 rfl rfl (by kernel_rfl) (by kernel_rfl) (by kernel_rfl) rfl (fun w' hw' => by obtain ⟨q0, q1, q2, q3⟩ := hw'; go_simp) hSb ?_
      simp only [Act.put, List.setIfInBounds_toArray, List.set_cons_zero, List.set_cons_succ]
      refine held_call (i := 7) (f := 11) (args := #[.iface 24 (.pointer (some ⟨b, 0, none⟩)), .int .u64 0, .int .u64 h, .int .u64 h2, .agg #[.int .i64 kd, .int .i64 on, .int .u64 bt, .int .u64 wd]]) 51 (by kernel_rfl) rfl rfl rfl (by go_simp) ?_
      refine (do_any HE1 ⟨Int.le_refl _, by decide⟩ hh HH2.out hbt hwd H1.out).mono ?_
      rintro e_ x2 ⟨_, _, _, rfl, _, _, _, k2⟩
      replace KK := hid (KK.out.none k2 (by have := HLB.out; simp; omega) (by have := HLB.out; simp; omega))
      have hSc := HS.out x2 KK.out
      clear k2 H1 HLB
      refine ⟨_, rfl, hSc, ?_⟩
      simp only [Act.put, List.setIfInBounds_toArray, List.set_cons_zero, List.set_cons_succ]
      refine held_end (by kernel_rfl) ?_ _
      clear hSc hSb hSa HS
      have hL2 := (HB.out x2 KK.out).2.2
      go_wp2_with fail
      refine (over_any _ ws HWS.out HN.out _ hL2).mono ?_
      rintro e_ x3 ⟨b2, g2, c2, rfl, h3, k3, lb, lg⟩
      have hsz := KK.out.size
      simp at hsz
      replace KK := hid (KK.out.trans k3)
      have H3 := hid (And.intro h3 (And.intro lb lg))
      clear h3 k3 lb lg hL2
      go_wp2_with fail
      have hh3 := H3.out
      refine (all_any HE2 hh hh3.1).mono ?_
      rintro e_ x4 ⟨v4, rfl, r4, h4, k4⟩
      replace KK := hid (KK.out.none k4 (by simp; omega) (by simp; omega))
      have HV4 := hid r4
      obtain ⟨a4, c4, rfl⟩ := r4.form
      have hL4 := (HB.out x4 KK.out).2.2
      clear hh3 H3 h4 k4 r4 hsz
      go_wp2_with fail
      refine (dstands_any ws _ h hh HWS.out HN.out (fun q => by have := HCN.out q; omega) _ hL4).mono ?_
      rintro e_ x5 ⟨v5, B, rfl, k5, hbt5, hbf5⟩
      have HV4b := hid (HV4.out.lies.keeps k5)
      replace KK := hid (KK.out.trans k5)
      clear k5 hL4 HV4
      cases B with
      | true =>
        obtain ⟨O, hO, hOl⟩ := hbt5 rfl
        have HOL := hid hOl
        have he := HY.out ⟨O, hO⟩
        have hl := HYL.out O hO
        subst hl
        subst he
        have HOW := hid (fnd_num HWS.out hO)
        have HLL : Hid (l.length ≤ 2147483647) := by
          have z := hO.2.2
          have z2 := HCN.out hO.1
          exact hid (by omega)
        obtain ⟨a5, c5, rfl, _⟩ := hOl
        clear hbt5 hbf5 hO HY HYL HNO HE1 HE2
        go_wp2_with fail
        refine (dsame_any l _ _ HLL.out HOW.out _ HV4b.out HOL.out).mono ?_
        rintro e_ x6 ⟨rfl, k6⟩
        replace KK := hid (KK.out.trans k6)
        clear k6 HOL HV4b HOW HLL
        go_wp2_with fail
        refine (known_any _).mono ?_
        rintro e_ x7 ⟨rfl, k7⟩
        replace KK := hid (KK.out.trans k7)
        clear k7
        go_wp2_with fail
        go_ret
        exact ⟨rfl, (HB.out _ KK.out).2.1⟩
      | false =>
        obtain ⟨he, hl⟩ := HNO.out (hbf5 rfl)
        subst hl
        clear hbt5 hbf5 HY HYL HNO HE1 HV4b
        rcases he with rfl | rfl
        · clear HE2
          go_wp2_with fail
          refine (known_any _).mono ?_
          rintro e_ x7 ⟨rfl, k7⟩
          replace KK := hid (KK.out.trans k7)
          clear k7
          go_wp2_with fail
          go_ret
          exact ⟨rfl, (HB.out _ KK.out).2.1⟩
        · clear HE2
          go_wp2_with fail
          refine (known_any _).mono ?_
          rintro e_ x7 ⟨rfl, k7⟩
          replace KK := hid (KK.out.trans k7)
          clear k7
          go_wp2_with fail
          go_ret
          exact ⟨rfl, (HB.out _ KK.out).2.1⟩
end Go.Proofs.Ytalopkllldnipaa
