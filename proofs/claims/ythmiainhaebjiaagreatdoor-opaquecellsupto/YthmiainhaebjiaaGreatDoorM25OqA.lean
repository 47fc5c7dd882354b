/-
  No statement of the seat is proved here. (Several texts in one: OqA.)
-/
import Derived.Test.YthmiainhaebjiaaGreatDoorM21OpZ
import Derived.Test.YthmiainhaebjiaaGreatDoorM24OpU

/- Walks of the document's stood and begin (layer 16). No statement of the seat is proved here. -/
namespace Go.Proofs.YthmiainhaebjiaaGreatDoor
open Go.RowKit Go.Shelf

theorem held_skipO {P : Program} {ops : Array Oper} {md : Region.Mode} {S : World → Prop} {i : Nat} {oi : Oper} {K : Act → World → Prop} {fuel : Nat} {listed : Array Bool} {a : Act} {w : World} (d : Nat) (hi : ops[i]? = some oi) (hdst : oi.dst = some d)
    (hs : Region.noSelect ops = true) (hf : Region.free md ops listed i = true) (hr : (Region.ready md ops listed).contains i = true) (hw : Region.wanted oi (yielded ops a.tmps) = false) (hS : S w)
    (h : wpAnyH P md ops (atEnd K) S fuel (listed.setIfInBounds i true) (a.put (some d) undef) w) : wpAnyH P md ops (atEnd K) S (fuel + 1) listed a w :=
  wpAnyH_take hi hs hf hr (fun _ _ _ h => h.elim) (.inr ⟨hw, rfl⟩) hS (by rw [hdst]; exact h)
def stdL (F : List Int) (R : List (Int × Int)) : Bool := R.all fun x => decide (wdAt F x.1 = x.2)
set_option maxRecDepth 100000 in
set_option maxHeartbeats 8000000 in
theorem rstood_any (vc vw : Value) (F : List Int) (R : List (Int × Int)) (hR : R.length ≤ 1100000) (hin : ∀ x ∈ R, 0 ≤ x.1 ∧ x.1 < F.length) (w : World) (ha : WsAt w vc F) (hb : ElsAt clC 2 w vw R) : Calls Tryz.prog 30 #[vc, vw] w fun ex w' => ex = .returned (.bool (stdL F R)) ∧ Keeps (fun _ => False) w w' := by
  have HV : Hid (∀ X, Keeps (fun _ => False) w X → WsAt X vc F ∧ ElsAt clC 2 X vw R) := fun X k => ⟨ha.keeps wC_ne k, hb.keeps cl_ne k⟩
  have HI : Hid (∀ k (h : k < R.length), ∃ (a : Nat) (x : Int), R[k] = ((a : Int), x) ∧ a < F.length) := fun k h => by
    have := hin _ (List.getElem_mem h)
    exact ⟨(R[k]).1.toNat, (R[k]).2, by ext <;> simp; omega, by omega⟩
  obtain ⟨aa, ac, rfl, hac⟩ := ha.shape
  obtain ⟨ba, bc, rfl, hbc⟩ := hb.shape
  obtain ⟨z, hz⟩ : ∃ z, z = stdL F R := ⟨_, rfl⟩
  rw [← hz]
  have HZ : Hid (z = stdL F (R.drop 0)) := hz
  clear ha hb hin hz
  go_enter Tryz.func30, Tryz.ntmps30
  go_wp2_with fail
  go_loopw [5] (fun u wr => ∃ k : Nat, u = .int .i64 k ∧ k ≤ R.length ∧ Hid (z = stdL F (R.drop k)) ∧ Keeps (fun _ => False) w wr) (fun u _ => R.length - (intOf u).toNat)
  case atStart => exact ⟨0, rfl, Nat.zero_le _, HZ, Keeps.refl _ _⟩
  case round =>
    clear HZ
    obtain ⟨k, rfl, hk, hh, kr⟩ := hrel
    by_cases hlt : k < R.length
    · have hki : (k : Int) < R.length := by omega
      have hk0 : (0 : Int) ≤ k := by omega
      obtain ⟨h1, h2⟩ := HV.out wr kr
      obtain ⟨a, x, hax, haF⟩ := HI.out k hlt
      obtain ⟨gb, ob, rfl, cb⟩ := h2.at k hlt
      obtain ⟨ga, oa, rfl, ca⟩ := h1.at a haF
      have hst := hh.out
      rw [List.drop_eq_getElem_cons hlt] at hst
      have hwd : wdAt F (a : Int) = F[a] := by unfold wdAt; rw [Int.toNat_natCast, List.getElem?_eq_getElem haF]; rfl
      have hcons : ∀ (p : Int × Int) (l : List (Int × Int)), stdL F (p :: l) = (decide (wdAt F p.1 = p.2) && stdL F l) := fun _ _ => rfl
      rw [hax, hcons, hwd] at hst
      rw [hax] at cb
      have y0 := cb 0 _ rfl
      have y1 := cb 1 _ rfl
      have y2 := ca 0 _ rfl
      simp only [Nat.mul_one, Nat.add_zero] at y0 y2
      generalize F[a]'haF = y at *
      have hai : (a : Int) < F.length := by omega
      have ha0 : (0 : Int) ≤ a := by omega
      have hS0 : wr.cell? ⟨gb, ob + k * 2, none⟩ = some (.int .u64 (a : Int)) ∧ wr.cell? ⟨gb, ob + k * 2 + 1, none⟩ = some (.int .u64 x) ∧ wr.cell? ⟨ga, oa + a, none⟩ = some (.int .u64 y) := ⟨y0, y1, y2⟩
      have kd := (kr.drew)
      clear h1 h2 ca cb hh hcons hwd hax
      by_cases hxy : y = x
      · have HF0 : z = stdL F (R.drop (k + 1)) := by rw [hst]; simp [hxy]
        have HF : Hid (z = stdL F (R.drop (k + 1))) := HF0
        clear HF0
        subst hxy
        clear hst
        go_wp2_with fail
        go_region_held3 (fun W : World => W.cell? ⟨gb, ob + k * 2, none⟩ = some (.int .u64 (a : Int)) ∧ W.cell? ⟨gb, ob + k * 2 + 1, none⟩ = some (.int .u64 y) ∧ W.cell? ⟨ga, oa + a, none⟩ = some (.int .u64 y)) (first | assumption | (exact hS0) | go_keep) (fail)
        go_wp2_with fail
        go_roundw
        · exact ⟨k + 1, by simp, by omega, HF, kd⟩
        · simp [intOf]; omega
      · have HF0 : z = false := by rw [hst]; simp [hxy]
        have HF : Hid (z = false) := HF0
        clear HF0
        clear hst
        have hne : (y == x) = false := by rw [beq_eq_false_iff_ne]; exact hxy
        have hne2 : (y != x) = true := by rw [bne_iff_ne]; exact hxy
        go_wp2_with fail
        go_region_held3 (fun W : World => W.cell? ⟨gb, ob + k * 2, none⟩ = some (.int .u64 (a : Int)) ∧ W.cell? ⟨gb, ob + k * 2 + 1, none⟩ = some (.int .u64 x) ∧ W.cell? ⟨ga, oa + a, none⟩ = some (.int .u64 y)) (first | assumption | (exact hS0) | go_keep) (fail)
        go_wp2_with fail
        go_ret
        exact ⟨by rw [HF.out]; rfl, kd⟩
    · obtain rfl : k = R.length := by omega
      have HF : Hid (z = true) := by have := hh.out; rw [List.drop_length] at this; exact this
      clear hh
      go_wp2_with fail
      go_ret
      exact ⟨by rw [HF.out]; rfl, kr⟩
set_option maxRecDepth 100000 in
set_option maxHeartbeats 8000000 in
theorem rbegin_any (v : Value) (L : List Ev) (hL : L.length ≤ 1100000) (k : Nat) (hk : k < L.length) (w : World) (ha : ElsAt Ev.cl 6 w v L) : Calls Tryz.prog 46 #[v, .int .i64 k] w fun ex w' => ex = .returned (.int .i64 (begD L (L[k]).th (k + 1))) ∧ Keeps (fun _ => False) w w' := by
  have HV : Hid (∀ X, Keeps (fun _ => False) w X → ElsAt Ev.cl 6 X v L) := fun X q => ha.keeps ev_ne q
  obtain ⟨aa, ac, rfl, hac⟩ := ha.shape
  obtain ⟨z, hz⟩ : ∃ z, z = begD L (L[k]).th (k + 1) := ⟨_, rfl⟩
  obtain ⟨t, ht⟩ : ∃ t, t = (L[k]).th := ⟨_, rfl⟩
  rw [← hz]
  rw [← ht] at hz
  have HT : Hid (t = (L[k]).th) := ht
  have HZ : Hid (z = begD L t (k + 1)) := hz
  clear ha hz ht
  have hki : (k : Int) < L.length := by omega
  have hk0 : (0 : Int) ≤ k := by omega
  go_enter Tryz.func46, Tryz.ntmps46
  go_wp2_with fail
  go_loopw [5] (fun u wr => ∃ j : Nat, u = .int .i64 ((j : Int) - 1) ∧ j ≤ k + 1 ∧ Hid (z = begD L t j) ∧ Keeps (fun _ => False) w wr) (fun u _ => (intOf u + 1).toNat)
  case atStart => exact ⟨k + 1, by simp, Nat.le_refl _, HZ, Keeps.refl _ _⟩
  case round =>
    clear HZ
    obtain ⟨j, rfl, hj, hh, kr⟩ := hrel
    cases j with
    | zero =>
      have HF : Hid (z = 0) := hh.out
      clear hh
      go_wp2_with fail
      go_ret
      exact ⟨by rw [HF.out]; rfl, kr⟩
    | succ j =>
      have hji : (j : Int) < L.length := by omega
      have hj0 : (0 : Int) ≤ j := by omega
      have hjl : j < L.length := by omega
      obtain ⟨ga, oa, e1, ca⟩ := (HV.out wr kr).at j hjl
      obtain ⟨gb, ob, e2, cb⟩ := (HV.out wr kr).at k hk
      subst e1
      injection e2 with e2
      injection e2 with e2 e3
      subst e2 e3
      have x0 := ca 0 _ rfl
      have x1 := ca 1 _ rfl
      have y0 := cb 0 _ rfl
      rw [← HT.out] at y0
      have hst := hh.out
      have hjj : (((j + 1 : Nat) : Int) - 1) = (j : Int) := by omega
      rw [hjj]
      generalize hev : L[j]'hjl = i at *
      have hL? : L[j]? = some i := by rw [List.getElem?_eq_getElem hjl, hev]
      simp only [Nat.add_zero] at x0 y0
      have hS0 : wr.cell? ⟨ga, oa + j * 6, none⟩ = some (.int .i64 i.th) ∧ wr.cell? ⟨ga, oa + j * 6 + 1, none⟩ = some (.int .i64 i.kd) ∧ wr.cell? ⟨ga, oa + k * 6, none⟩ = some (.int .i64 t) := ⟨x0, x1, y0⟩
      have hS1 : wr.drew.cell? ⟨ga, oa + j * 6, none⟩ = some (.int .i64 i.th) ∧ wr.drew.cell? ⟨ga, oa + j * 6 + 1, none⟩ = some (.int .i64 i.kd) ∧ wr.drew.cell? ⟨ga, oa + k * 6, none⟩ = some (.int .i64 t) := hS0
      have kd := kr.drew
      have hjw : IntKind.i64.wrap ((j : Int) - 1) = (j : Int) - 1 := by rw [IntKind.wrap_i64]; omega
      clear ca cb hh hev HT
      by_cases ht : i.th = t
      · have htb : (i.th == t) = true := by rw [beq_iff_eq]; exact ht
        by_cases hd : i.kd = 1
        · have hdb : (i.kd == 1) = true := by rw [beq_iff_eq]; exact hd
          have HF0 : z = (j : Int) := by rw [hst, begD_yes hL? ht hd]
          have HF : Hid (z = (j : Int)) := HF0
          clear HF0 hst hL?
          go_wp2_with fail
          go_region_held3 (fun W : World => W.cell? ⟨ga, oa + j * 6, none⟩ = some (.int .i64 i.th) ∧ W.cell? ⟨ga, oa + j * 6 + 1, none⟩ = some (.int .i64 i.kd) ∧ W.cell? ⟨ga, oa + k * 6, none⟩ = some (.int .i64 t)) (first | assumption | (exact hS0) | go_keep) (fail)
          go_wp2_with fail
          go_ret
          exact ⟨by rw [HF.out]; rfl, kd⟩
        · have hdb : (i.kd == 1) = false := by rw [beq_eq_false_iff_ne]; exact hd
          have HF0 : z = begD L t j := by rw [hst, begD_no hL? (fun c => hd c.2)]
          have HF : Hid (z = begD L t j) := HF0
          clear HF0 hst hL?
          go_wp2_with fail
          go_region_held3 (fun W : World => W.cell? ⟨ga, oa + j * 6, none⟩ = some (.int .i64 i.th) ∧ W.cell? ⟨ga, oa + j * 6 + 1, none⟩ = some (.int .i64 i.kd) ∧ W.cell? ⟨ga, oa + k * 6, none⟩ = some (.int .i64 t)) (first | assumption | (exact hS0) | go_keep) (fail)
          go_wp2_with fail
          go_roundw
          · exact ⟨j, rfl, by omega, HF, kd⟩
          · simp [intOf]
      · have htb : (i.th == t) = false := by rw [beq_eq_false_iff_ne]; exact ht
        have HF0 : z = begD L t j := by rw [hst, begD_no hL? (fun c => ht c.1)]
        have HF : Hid (z = begD L t j) := HF0
        clear HF0 hst hL?
        go_wp2_with fail
        refine wp_held_end (S := fun W : World => W.cell? ⟨ga, oa + j * 6, none⟩ = some (.int .i64 i.th) ∧ W.cell? ⟨ga, oa + j * 6 + 1, none⟩ = some (.int .i64 i.kd) ∧ W.cell? ⟨ga, oa + k * 6, none⟩ = some (.int .i64 t)) 19 rfl hmxp ?_
        simp only [Array.replicate_succ, Array.replicate_zero, List.push_toArray, List.nil_append, List.cons_append]
        refine held_take (i := 0) (v := (.slice (some ⟨ga, oa, none⟩) L.length ac)) 11 rfl rfl (by kernel_rfl) (by kernel_rfl) (by kernel_rfl) rfl (fun w' hw' => by obtain ⟨q0, q1, q2⟩ := hw'; go_simp) hS1 ?_
        simp only [Act.put, List.setIfInBounds_toArray, List.set_cons_zero, List.set_cons_succ]
        refine held_take (i := 1) (v := (.int .i64 (j : Int))) 12 rfl rfl (by kernel_rfl) (by kernel_rfl) (by kernel_rfl) rfl (fun w' hw' => by obtain ⟨q0, q1, q2⟩ := hw'; go_simp) hS1 ?_
        simp only [Act.put, List.setIfInBounds_toArray, List.set_cons_zero, List.set_cons_succ]
        refine held_take (i := 2) (v := (.pointer (some ⟨ga, oa + j * 6, none⟩))) 13 rfl rfl (by kernel_rfl) (by kernel_rfl) (by kernel_rfl) rfl (fun w' hw' => by obtain ⟨q0, q1, q2⟩ := hw'; go_simp) hS1 ?_
        simp only [Act.put, List.setIfInBounds_toArray, List.set_cons_zero, List.set_cons_succ]
        refine held_take (i := 3) (v := (.pointer (some ⟨ga, oa + j * 6, none⟩))) 14 rfl rfl (by kernel_rfl) (by kernel_rfl) (by kernel_rfl) rfl (fun w' hw' => by obtain ⟨q0, q1, q2⟩ := hw'; go_simp) hS1 ?_
        simp only [Act.put, List.setIfInBounds_toArray, List.set_cons_zero, List.set_cons_succ]
        refine held_take (i := 4) (v := (.int .i64 i.th)) 15 rfl rfl (by kernel_rfl) (by kernel_rfl) (by kernel_rfl) rfl (fun w' hw' => by obtain ⟨q0, q1, q2⟩ := hw'; go_simp) hS1 ?_
        simp only [Act.put, List.setIfInBounds_toArray, List.set_cons_zero, List.set_cons_succ]
        refine held_take (i := 5) (v := (.slice (some ⟨ga, oa, none⟩) L.length ac)) 16 rfl rfl (by kernel_rfl) (by kernel_rfl) (by kernel_rfl) rfl (fun w' hw' => by obtain ⟨q0, q1, q2⟩ := hw'; go_simp) hS1 ?_
        simp only [Act.put, List.setIfInBounds_toArray, List.set_cons_zero, List.set_cons_succ]
        refine held_take (i := 6) (v := (.int .i64 (k : Int))) 17 rfl rfl (by kernel_rfl) (by kernel_rfl) (by kernel_rfl) rfl (fun w' hw' => by obtain ⟨q0, q1, q2⟩ := hw'; go_simp) hS1 ?_
        simp only [Act.put, List.setIfInBounds_toArray, List.set_cons_zero, List.set_cons_succ]
        refine held_take (i := 7) (v := (.pointer (some ⟨ga, oa + k * 6, none⟩))) 18 rfl rfl (by kernel_rfl) (by kernel_rfl) (by kernel_rfl) rfl (fun w' hw' => by obtain ⟨q0, q1, q2⟩ := hw'; go_simp) hS1 ?_
        simp only [Act.put, List.setIfInBounds_toArray, List.set_cons_zero, List.set_cons_succ]
        refine held_take (i := 8) (v := (.pointer (some ⟨ga, oa + k * 6, none⟩))) 19 rfl rfl (by kernel_rfl) (by kernel_rfl) (by kernel_rfl) rfl (fun w' hw' => by obtain ⟨q0, q1, q2⟩ := hw'; go_simp) hS1 ?_
        simp only [Act.put, List.setIfInBounds_toArray, List.set_cons_zero, List.set_cons_succ]
        refine held_take (i := 9) (v := (.int .i64 t)) 20 rfl rfl (by kernel_rfl) (by kernel_rfl) (by kernel_rfl) rfl (fun w' hw' => by obtain ⟨q0, q1, q2⟩ := hw'; go_simp) hS1 ?_
        simp only [Act.put, List.setIfInBounds_toArray, List.set_cons_zero, List.set_cons_succ]
        refine held_take (i := 10) (v := (.bool false)) 21 rfl rfl (by kernel_rfl) (by kernel_rfl) (by kernel_rfl) rfl (fun w' hw' => by obtain ⟨q0, q1, q2⟩ := hw'; go_simp) hS1 ?_
        simp only [Act.put, List.setIfInBounds_toArray, List.set_cons_zero, List.set_cons_succ]
        refine held_take (i := 11) (v := (.bool false)) 22 rfl rfl (by kernel_rfl) (by kernel_rfl) (by kernel_rfl) rfl (fun w' hw' => by obtain ⟨q0, q1, q2⟩ := hw'; go_simp) hS1 ?_
        simp only [Act.put, List.setIfInBounds_toArray, List.set_cons_zero, List.set_cons_succ]
        refine held_skipO (i := 12) 23 rfl rfl (by kernel_rfl) (by kernel_rfl) (by kernel_rfl) rfl hS1 ?_
        simp only [Act.put, List.setIfInBounds_toArray, List.set_cons_zero, List.set_cons_succ]
        refine held_skipO (i := 13) 24 rfl rfl (by kernel_rfl) (by kernel_rfl) (by kernel_rfl) rfl hS1 ?_
        simp only [Act.put, List.setIfInBounds_toArray, List.set_cons_zero, List.set_cons_succ]
        refine held_skipO (i := 14) 25 rfl rfl (by kernel_rfl) (by kernel_rfl) (by kernel_rfl) rfl hS1 ?_
        simp only [Act.put, List.setIfInBounds_toArray, List.set_cons_zero, List.set_cons_succ]
        refine held_skipO (i := 15) 26 rfl rfl (by kernel_rfl) (by kernel_rfl) (by kernel_rfl) rfl hS1 ?_
        simp only [Act.put, List.setIfInBounds_toArray, List.set_cons_zero, List.set_cons_succ]
        refine held_skipO (i := 16) 27 rfl rfl (by kernel_rfl) (by kernel_rfl) (by kernel_rfl) rfl hS1 ?_
        simp only [Act.put, List.setIfInBounds_toArray, List.set_cons_zero, List.set_cons_succ]
        refine held_skipO (i := 17) 28 rfl rfl (by kernel_rfl) (by kernel_rfl) (by kernel_rfl) rfl hS1 ?_
        simp only [Act.put, List.setIfInBounds_toArray, List.set_cons_zero, List.set_cons_succ]
        refine held_take (i := 18) (v := (.bool false)) 29 rfl rfl (by kernel_rfl) (by kernel_rfl) (by kernel_rfl) rfl (fun w' hw' => by obtain ⟨q0, q1, q2⟩ := hw'; go_simp) hS1 ?_
        simp only [Act.put, List.setIfInBounds_toArray, List.set_cons_zero, List.set_cons_succ]
        refine held_end (by kernel_rfl) ?_ _
        go_wp2_with fail
        go_roundw
        · exact ⟨j, rfl, by omega, HF, kd⟩
        · simp [intOf]
end Go.Proofs.YthmiainhaebjiaaGreatDoor
