
/- The walk of follow (layer 24). No statement of the seat is proved here. -/
import Derived.Test.YtalopkllldnipaaRlA
namespace Go.Proofs.Ytalopkllldnipaa
open Go.RowKit

theorem held_skipO {P : Program} {ops : Array Oper} {md : Region.Mode} {S : World → Prop} {i : Nat} {oi : Oper} {K : Act → World → Prop} {fuel : Nat} {listed : Array Bool} {a : Act} {w : World} (d : Nat) (hi : ops[i]? = some oi) (hdst : oi.dst = some d)
    (hs : Region.noSelect ops = true) (hf : Region.free md ops listed i = true) (hr : (Region.ready md ops listed).contains i = true) (hw : Region.wanted oi (yielded ops a.tmps) = false) (hS : S w)
    (h : wpAnyH P md ops (atEnd K) S fuel (listed.setIfInBounds i true) (a.put (some d) undef) w) : wpAnyH P md ops (atEnd K) S (fuel + 1) listed a w :=
  wpAnyH_take hi hs hf hr (fun _ _ _ h => h.elim) (.inr ⟨hw, rfl⟩) hS (by rw [hdst]; exact h)
theorem treF_at {x e : Int} {t : Tr} {s s1 : Wd} (h : treF x s = ((some t, e), s1)) : t.at_ = nodeA x := by
  unfold treF at h
  split at h
  · have := (rtn_eq h).1; cases this
  · obtain ⟨l, f, s2, _, h2, h3⟩ := bnd_step h
    by_cases hf : f = 0
    · have := (rtn_eq (h2 hf)).1
      injection this with this
      rw [this]
    · have := (h3 hf).2.2; cases this
theorem nodeA_to {x : Int} (hx : isW x) : uw (nodeA x + 1) = x := by
  unfold nodeA uw isW at *
  rw [IntKind.wrap_u64, IntKind.wrap_u64]
  omega
theorem treF_to {x e : Int} {t : Tr} {s s1 : Wd} (h : treF x s = ((some t, e), s1)) (hx : isW x) : uw (t.at_ + 1) = x := by
  rw [treF_at h]
  exact nodeA_to hx
/-- The node that leads to the next one, or none. -/
def ParAt (w : World) (base : Nat) (pp : Option Addr) (par : Option Tr) : Prop := match par with
  | none => pp = none
  | some P => ∃ q, pp = some ⟨q, 0, none⟩ ∧ TrAt w q P ∧ base ≤ q
theorem ParAt.kept {w w' : World} {base : Nat} {pp : Option Addr} {par : Option Tr} {S : Nat → Prop} (h : ParAt w base pp par) (k : Keeps S w w') (hS : ∀ i, base ≤ i → i < w.heap.size → ¬ S i) : ParAt w' base pp par := by
  cases par with
  | none => exact h
  | some P => obtain ⟨q, h1, h2, h3⟩ := h; exact ⟨q, h1, h2.kept k (hS q h3 h2.lt), h3⟩
/-- What follow answers. -/
def FoPost (b g c k0 mb base : Nat) (cn : Int) (F : List Tr) (qs : List Nat) (v : Value) (w : World) (t : Option Tr) (e : Int) (s1 : Wd) : Ending → World → Prop := fun r w' =>
  ∃ po, r = .returned (.tuple #[.pointer po, .int .i64 e]) ∧ WdAt w' b g c s1 ∧ Keeps (fun i => two b g i ∨ base ≤ i) w w' ∧
    (e = 0 → match t with
      | none => po = none ∧ WlAt w' b g k0 mb base cn F qs v
      | some u => ∃ q v', po = some ⟨q, 0, none⟩ ∧ WlAt w' b g k0 mb base cn (F ++ [u]) (qs ++ [q]) v')

set_option maxRecDepth 100000 in
set_option maxHeartbeats 4000000 in
theorem follow_any {b g c k0 mb base : Nat} {cn : Int} {F : List Tr} {qs : List Nat} {v : Value} {par : Option Tr} {pp : Option Addr} {x e : Int} {t : Option Tr} {s s1 : Wd} (heq : Hid (folF cn par x F s = ((t, e), s1))) (hx : isW x) {w : World} (h : WdAt w b g c s) (hl : WlAt w b g k0 mb base cn F qs v) (hp : ParAt w base pp par) :
    Calls Try.prog 69 #[.pointer (some ⟨k0, 0, none⟩), .pointer pp, .int .u64 x] w (FoPost b g c k0 mb base cn F qs v w t e s1) := by
  have heq := heq.out
  unfold folF at heq
  by_cases hx0 : x = 0
  · rw [if_pos hx0] at heq
    obtain ⟨rfl, rfl, rfl⟩ := rtn_eq heq
    subst hx0
    have HH := hid (And.intro h hl)
    clear h hl hp heq
    go_enter Try.func69, Try.ntmps69
    go_wp2_with fail
    go_ret2
    exact ⟨_, rfl, HH.out.1, Keeps.refl _ _, fun _ => ⟨rfl, HH.out.2⟩⟩
  rw [if_neg hx0] at heq
  have hxb : (x == 0) = false := by simpa using hx0
  obtain ⟨va, vc, hv⟩ : ∃ a n, v = .slice a F.length n := by
    obtain ⟨a, n, hv⟩ := hl.row.form
    exact ⟨a, n, by rw [hv, hl.len]⟩
  subst hv
  have kn := keeps_new w (.cells #[] 145)
  have HL := hid hl
  have HH := hid h
  have HP := hid hp
  have LK := hl.map.look x
  have m0 : w.cell? ⟨k0, 2, none⟩ = some (.map (some mb)) := hl.box.cell rfl
  have n3 : (w.alloc (.cells #[] 145)).cell? ⟨k0, 3, none⟩ = some (.slice va F.length vc) := (hl.box.kept kn (fun f => f)).cell rfl
  have n1 : (w.alloc (.cells #[] 145)).cell? ⟨k0, 1, none⟩ = some (.int .u64 cn) := (hl.box.kept kn (fun f => f)).cell rfl
  have n0 : (w.alloc (.cells #[] 145)).cell? ⟨k0, 0, none⟩ = some (.iface 24 (.pointer (some ⟨b, 0, none⟩))) := (hl.box.kept kn (fun f => f)).cell rfl
  have hmem : F.any (fun t => decide (uw (t.at_ + 1) = x)) = true ↔ x ∈ seenL F := by
    unfold seenL
    rw [List.any_eq_true]
    constructor
    · rintro ⟨t, h1, h2⟩
      exact List.mem_map.2 ⟨t, h1, by simpa using h2⟩
    · intro h1
      obtain ⟨t, h2, h3⟩ := List.mem_map.1 h1
      exact ⟨t, h2, by simpa using h3⟩
  clear h hl hp hx0
  have HKN := hid kn
  clear kn
  by_cases hm : x ∈ seenL F
  · rw [if_pos (.inl (hmem.2 hm))] at heq
    unfold err at heq
    simp only [Prod.mk.injEq] at heq
    obtain ⟨⟨rfl, rfl⟩, rfl⟩ := heq
    have hd : decide (x ∈ seenL F) = true := by simp [hm]
    rw [hd] at LK
    clear hm hd hmem
    go_enter Try.func69, Try.ntmps69
    go_wp2_with fail
    refine wp_held_end (S := fun W : World => True) 14 rfl hmxp ?_
    simp only [Array.replicate_succ, Array.replicate_zero, List.push_toArray, List.nil_append, List.cons_append]
    refine held_take (i := 0) (v := (.bool true)) 25 rfl rfl (by kernel_rfl) (by kernel_rfl) (by kernel_rfl) rfl (fun w' hw' => by go_simp) trivial ?_
    simp only [Act.put, List.setIfInBounds_toArray, List.set_cons_zero, List.set_cons_succ]
    refine held_take (i := 1) (v := (.bool true)) 26 rfl rfl (by kernel_rfl) (by kernel_rfl) (by kernel_rfl) rfl (fun w' hw' => by go_simp) trivial ?_
    simp only [Act.put, List.setIfInBounds_toArray, List.set_cons_zero, List.set_cons_succ]
    refine held_skipO (i := 2) 27 rfl rfl (by kernel_rfl) (by kernel_rfl) (by kernel_rfl) rfl trivial ?_
    simp only [Act.put, List.setIfInBounds_toArray, List.set_cons_zero, List.set_cons_succ]
    refine held_skipO (i := 3) 28 rfl rfl (by kernel_rfl) (by kernel_rfl) (by kernel_rfl) rfl trivial ?_
    simp only [Act.put, List.setIfInBounds_toArray, List.set_cons_zero, List.set_cons_succ]
    refine held_skipO (i := 4) 29 rfl rfl (by kernel_rfl) (by kernel_rfl) (by kernel_rfl) rfl trivial ?_
    simp only [Act.put, List.setIfInBounds_toArray, List.set_cons_zero, List.set_cons_succ]
    refine held_skipO (i := 5) 30 rfl rfl (by kernel_rfl) (by kernel_rfl) (by kernel_rfl) rfl trivial ?_
    simp only [Act.put, List.setIfInBounds_toArray, List.set_cons_zero, List.set_cons_succ]
    refine held_skipO (i := 6) 31 rfl rfl (by kernel_rfl) (by kernel_rfl) (by kernel_rfl) rfl trivial ?_
    simp only [Act.put, List.setIfInBounds_toArray, List.set_cons_zero, List.set_cons_succ]
    refine held_skipO (i := 7) 32 rfl rfl (by kernel_rfl) (by kernel_rfl) (by kernel_rfl) rfl trivial ?_
    simp only [Act.put, List.setIfInBounds_toArray, List.set_cons_zero, List.set_cons_succ]
    refine held_skipO (i := 8) 33 rfl rfl (by kernel_rfl) (by kernel_rfl) (by kernel_rfl) rfl trivial ?_
    simp only [Act.put, List.setIfInBounds_toArray, List.set_cons_zero, List.set_cons_succ]
    refine held_skipO (i := 9) 34 rfl rfl (by kernel_rfl) (by kernel_rfl) (by kernel_rfl) rfl trivial ?_
    simp only [Act.put, List.setIfInBounds_toArray, List.set_cons_zero, List.set_cons_succ]
    refine held_skipO (i := 10) 35 rfl rfl (by kernel_rfl) (by kernel_rfl) (by kernel_rfl) rfl trivial ?_
    simp only [Act.put, List.setIfInBounds_toArray, List.set_cons_zero, List.set_cons_succ]
    refine held_skipO (i := 11) 36 rfl rfl (by kernel_rfl) (by kernel_rfl) (by kernel_rfl) rfl trivial ?_
    simp only [Act.put, List.setIfInBounds_toArray, List.set_cons_zero, List.set_cons_succ]
    refine held_skipO (i := 12) 37 rfl rfl (by kernel_rfl) (by kernel_rfl) (by kernel_rfl) rfl trivial ?_
    simp only [Act.put, List.setIfInBounds_toArray, List.set_cons_zero, List.set_cons_succ]
    refine held_take (i := 13) (v := (.bool true)) 38 rfl rfl (by kernel_rfl) (by kernel_rfl) (by kernel_rfl) rfl (fun w' hw' => by go_simp) trivial ?_
    simp only [Act.put, List.setIfInBounds_toArray, List.set_cons_zero, List.set_cons_succ]
    refine held_end (by kernel_rfl) ?_ _
    go_wp2_with fail
    go_ret2
    exact ⟨_, rfl, HH.out.kept (HKN.out.drewN 1) (fun f => f) (fun f => f), (HKN.out.drewN 1).mono (fun _ _ f => f.elim), fun q => absurd q (by decide)⟩
  have hd : decide (x ∈ seenL F) = false := by simp [hm]
  rw [hd] at LK
  have hS : (w.alloc (.cells #[] 145)).cell? ⟨k0, 3, none⟩ = some (.slice va F.length vc) ∧ (w.alloc (.cells #[] 145)).cell? ⟨k0, 1, none⟩ = some (.int .u64 cn) := ⟨n3, n1⟩
  have hfew := HL.out.few
  by_cases hc : (F.length : Int) = cn
  · rw [if_pos (.inr hc)] at heq
    unfold err at heq
    simp only [Prod.mk.injEq] at heq
    obtain ⟨⟨rfl, rfl⟩, rfl⟩ := heq
    have hcb : (IntKind.u64.wrap (F.length : Int) == cn) = true := by rw [IntKind.wrap_u64]; simp; omega
    clear hm hd hmem hc
    go_enter Try.func69, Try.ntmps69
    go_wp2_with fail
    go_region_held3 (fun W : World => W.cell? ⟨k0, 3, none⟩ = some (.slice va F.length vc) ∧ W.cell? ⟨k0, 1, none⟩ = some (.int .u64 cn)) (first | assumption | (exact hS) | go_keep) (fail)
    all_goals go_wp2_with fail
    all_goals go_ret2
    all_goals exact ⟨_, rfl, HH.out.kept (HKN.out.drewN 1) (fun f => f) (fun f => f), (HKN.out.drewN 1).mono (fun _ _ f => f.elim), fun q => absurd q (by decide)⟩
  rw [if_neg (fun f => by rcases f with f | f; exact hm (hmem.1 f); exact hc f)] at heq
  have hcb : (IntKind.u64.wrap (F.length : Int) == cn) = false := by rw [IntKind.wrap_u64]; simp; omega
  have HMC : Hid (x ∉ seenL F ∧ (F.length : Int) ≠ cn) := hid ⟨hm, hc⟩
  obtain ⟨to, e2, s2, h4, h5, h6⟩ := bnd_step heq
  have HT0 := hid h4
  have H5 := hid (And.intro h5 h6)
  have hXB : Hid (b < base ∧ g < base ∧ base ≤ w.heap.size) := hid ⟨HL.out.lo.1, HL.out.lo.2.1, HL.out.lo.2.2.2.2⟩
  have n0' : (w.alloc (.cells #[] 145)).drew.cell? ⟨k0, 0, none⟩ = some (.iface 24 (.pointer (some ⟨b, 0, none⟩))) := n0
  have HC := hid (tree_any HT0 hx (HH.out.kept (HKN.out.drewN 1) (fun f => f) (fun f => f)))
  clear hm hd hmem hc heq h4 h5 h6 hfew
  go_enter Try.func69, Try.ntmps69
  go_wp2_with fail
  go_region_held3 (fun W : World => W.cell? ⟨k0, 3, none⟩ = some (.slice va F.length vc) ∧ W.cell? ⟨k0, 1, none⟩ = some (.int .u64 cn)) (first | assumption | (exact hS) | go_keep) (fail)
  clear hS n3 n1 LK m0
  go_wp2_with fail
  refine HC.out.mono ?_
  rintro r w2 ⟨po, rfl, h2, k2, t2⟩
  have HF : Hid (WdAt w2 b g c s2 ∧ Keeps (two b g) w w2 ∧ WlAt w2 b g k0 mb base cn F qs (.slice va F.length vc) ∧ ParAt w2 base pp par ∧ (e2 = 0 → PtAt w2 base po to)) := by
    have hb := hXB.out
    have kd : Keeps (two b g) w (w.alloc (.cells #[] 145)).drew := (HKN.out.drewN 1).mono (fun _ _ f => f.elim)
    have kk := kd.trans k2
    refine hid ⟨h2, kk, HL.out.two kk, HP.out.kept kk (fun i hi _ f => by rcases f with f | f <;> omega), fun he => ?_⟩
    have q := t2 he
    have hz := kd.size
    cases to with
    | none => exact q
    | some u =>
      obtain ⟨q1, h1, h3, h4⟩ := q
      have h1' : (w.alloc (.cells #[] 145)).drew.heap.size ≤ q1 := h1
      exact ⟨q1, by omega, h3, h4⟩
  clear HC HKN HL HH HP h2 k2 t2 n0 n0'
  by_cases he2 : e2 = 0
  rotate_left
  · go_wp2_with fail
    go_ret2
    obtain ⟨rfl, rfl, rfl⟩ := H5.out.2 he2
    exact ⟨_, rfl, HF.out.1, HF.out.2.1.mono (fun _ _ f => .inl f), fun q => absurd q he2⟩
  subst he2
  obtain ⟨u, hu⟩ : ∃ u, to = some u := by
    cases to with
    | none => exact absurd (treF_none HT0.out) (by simpa using hxb)
    | some u => exact ⟨u, rfl⟩
  subst hu
  obtain ⟨q, hq, rfl, hqt⟩ := HF.out.2.2.2.2 (by first | rfl | trivial)
  have H6 : (if reK (oat u.c 0) = true ∧ (∀ P, par = some P → ¬ befE u.ent P.ent) then rtn (some u) else err none 340) s2 = ((t, e), s1) := H5.out.1 (by first | rfl | trivial)
  have H6 := hid H6
  have c1 := hqt.cells.2.1
  have HQ := hid (And.intro hq hqt)
  have HR : Hid (∀ X : World, Calls Try.prog 75 #[.int .u64 (oat u.c 0)] X fun e w' => e = .returned (.tuple #[.float .f64 (reB (oat u.c 0)), .bool (reK (oat u.c 0))]) ∧ w' = X) := hid (fun X => word_real _ X (hqt.wc 0).1 (hqt.wc 0).2)
  generalize reB (oat u.c 0) = rb at HR
  obtain ⟨rk, hrk⟩ : ∃ rk, reK (oat u.c 0) = rk := ⟨_, rfl⟩
  rw [hrk] at HR
  have HRK := hid hrk
  clear hrk hq hqt H5 hxb
  go_wp2_with fail
  refine (HR.out _).mono ?_
  rintro r w_ ⟨rfl, hw_⟩
  subst w_
  clear HR c1
  cases rk
  · have H6 := H6.out
    rw [if_neg (fun f => by rw [HRK.out] at f; cases f.1)] at H6
    unfold err at H6
    simp only [Prod.mk.injEq] at H6
    obtain ⟨⟨rfl, rfl⟩, rfl⟩ := H6
    go_wp2_with fail
    go_ret2
    exact ⟨_, rfl, HF.out.1, HF.out.2.1.mono (fun _ _ f => .inl f), fun q => absurd q (by decide)⟩
  cases par with
  | none =>
    have hpp : pp = none := HF.out.2.2.2.1
    subst hpp
    have H6 := H6.out
    rw [if_pos ⟨HRK.out, fun P hP => by cases hP⟩] at H6
    obtain ⟨rfl, rfl, rfl⟩ := rtn_eq H6
    clear H6
    have hl := HF.out.2.2.1
    have m0 : w2.cell? ⟨k0, 2, none⟩ = some (.map (some mb)) := hl.box.cell rfl
    obtain ⟨W1, hrun, hmap, hk1⟩ := hl.map.put x HMC.out.1
    obtain ⟨es0, ck0, hes, _⟩ := hl.map.ex
    have nk : k0 ≠ mb := ne_map hl.box hes
    have nq : q ≠ mb := ne_map HQ.out.2.blk hes
    have kb1 := hl.box.kept hk1 nk
    have n3 : W1.cell? ⟨k0, 3, none⟩ = some (.slice va F.length vc) := kb1.cell rfl
    have hrow : Pr W1 base (.slice va F.length vc) qs := hl.row.keeps hk1 (fun i hi => by obtain ⟨_, cur, h2⟩ := hl.row.block hi; exact ne_map h2 hes)
    obtain ⟨v', W2, hap, hrow2, hk2, hblk⟩ := hrow.push (Nat.le_trans hl.lo.2.2.2.2 hk1.size) (by have := hl.few; have := hl.len; omega) q
    obtain ⟨va', n', vc', rfl⟩ : ∃ a n c, v' = .slice a n c := by
      obtain ⟨a, c, e⟩ := hrow2.form
      exact ⟨a, _, c, e⟩
    have nk2 : (Value.slice va F.length vc).ownBlock ≠ some k0 := fun hi => by
      obtain ⟨_, cur, h2⟩ := hrow.block hi
      exact ne_ty kb1 h2 (by decide) rfl
    have kb2 := kb1.kept hk2 nk2
    have z3 : W2.cell? ⟨k0, 3, none⟩ = some (.slice va F.length vc) := kb2.cell rfl
    have zf3 := kb2.frozen 3
    have HK2 : Hid (∀ i, (Value.slice va F.length vc).ownBlock = some i → base ≤ i) := hid (fun i hi => (hrow.block hi).1)
    have HTR : Hid (∀ (i q' : Nat) (t : Tr), qs[i]? = some q' → F[i]? = some t → TrAt W2 q' t) := hid (fun i q' t h1 h2 => ((hl.trees i q' t h1 h2).kept hk1 (ne_map (hl.trees i q' t h1 h2).blk hes)).kept hk2 (fun hi => by
      obtain ⟨_, cur, h3⟩ := hrow.block hi
      exact ne_ty ((hl.trees i q' t h1 h2).kept hk1 (ne_map (hl.trees i q' t h1 h2).blk hes)).blk h3 (by decide) rfl))
    have HTQ : Hid (TrAt W2 q u) := hid ((HQ.out.2.kept hk1 nq).kept hk2 (fun hi => by
      obtain ⟨_, cur, h3⟩ := hrow.block hi
      exact ne_ty (HQ.out.2.kept hk1 nq).blk h3 (by decide) rfl))
    have HMP : Hid (MapN W2 mb (seenL F ++ [x])) := hid (hmap.keeps hk2 (fun hi => by
      obtain ⟨_, cur, h3⟩ := hrow.block hi
      obtain ⟨e1, c1, h4, _⟩ := hmap.ex
      exact ne_map h3 h4 rfl))
    have HWD : Hid (WdAt W2 b g c s1 ∧ Keeps (fun i => two b g i ∨ base ≤ i) w W2) := by
      have hb := hXB.out
      have hlo := hl.lo
      refine hid ⟨(HF.out.1.kept hk1 (by omega) (by omega)).kept hk2 (fun hi => ?_) (fun hi => ?_), (((HF.out.2.1).mono (fun _ _ f => .inl f)).trans (hk1.mono (fun i _ f => .inr (by omega)))).trans (hk2.mono (fun i _ f => .inr (HK2.out i f)))⟩
      · have := HK2.out _ hi; omega
      · have := HK2.out _ hi; omega
    have HBX := hid kb2
    have HRW := hid hrow2
    have HHL := hid hl
    have HRN := hid hap
    have HBK : Hid ((Value.slice va' n' vc').ownBlock ≠ some k0 ∧ W1.heap.size ≤ W2.heap.size) := hid ⟨fun hi => by
      obtain ⟨_, cur, h2⟩ := hrow2.block hi
      exact ne_ty kb2 h2 (by decide) rfl, hk2.size⟩
    clear hl hmap hk1 hk2 hes nk nq kb1 hrow nk2 kb2 hap hblk hrow2
    go_wp2_with (at_builtin; refine wpList_append_run rfl _ _ 100 rfl rfl rfl HRN.out ?_; clear HRN)
    go_wp2_with fail
    go_ret2
    have ks := keeps_set W2 k0 3 (.slice va' n' vc')
    have hb := hXB.out
    have hlo := HHL.out.lo
    refine ⟨_, rfl, HWD.out.1.kept ks (by omega) (by omega), HWD.out.2.trans (ks.mono (fun i _ f => .inr (by omega))), fun _ => ⟨q, .slice va' n' vc', rfl, ?_⟩⟩
    have hsz := HWD.out.2.size
    have hxx : uw (u.at_ + 1) = x := treF_to HT0.out hx
    refine ⟨HBX.out.set 3 _, ?_, HRW.out.keeps ks (fun i hi e => HBK.out.1 (by rw [← e]; exact hi)), by simp [HHL.out.len], fun i q' t' h1 h2 => ?_, fun i q' h1 => ?_, ⟨hlo.1, hlo.2.1, hlo.2.2.1, hlo.2.2.2.1, ?_⟩, ?_⟩
    · have e : seenL (F ++ [u]) = seenL F ++ [x] := by unfold seenL; rw [List.map_append]; simp [hxx]
      rw [e]
      obtain ⟨e1, c1, h4, _⟩ := HMP.out.ex
      exact HMP.out.keeps ks (fun e => ne_map HBX.out h4 e.symm)
    · have hd : q' ≠ k0 → TrAt W2 q' t' → TrAt (W2.setCell ⟨k0, 3, none⟩ (.slice va' n' vc')) q' t' := fun h3 h4 => h4.kept ks h3
      have hT : TrAt W2 q' t' := by
        by_cases hi : i < qs.length
        · rw [List.getElem?_append_left hi] at h1
          rw [List.getElem?_append_left (by rw [← HHL.out.len]; exact hi)] at h2
          exact HTR.out i q' t' h1 h2
        · have hi' : i = qs.length := by
            have := (List.getElem?_eq_some_iff.1 h1).1
            simp at this
            omega
          subst hi'
          rw [List.getElem?_append_right (Nat.le_refl _)] at h1
          rw [HHL.out.len, List.getElem?_append_right (Nat.le_refl _)] at h2
          simp at h1 h2
          subst h1 h2
          exact HTQ.out
      exact hd (ne_ty hT.blk HBX.out (by decide)) hT
    · by_cases hi : i < qs.length
      · rw [List.getElem?_append_left hi] at h1
        exact HHL.out.hi i q' h1
      · have hi' : i = qs.length := by
          have := (List.getElem?_eq_some_iff.1 h1).1
          simp at this
          omega
        subst hi'
        rw [List.getElem?_append_right (Nat.le_refl _)] at h1
        simp at h1
        subst h1
        exact HQ.out.1
    · have := ks.size
      omega
    · have h1 := HHL.out.few
      have h2 := HMC.out.2
      simp
      omega
  | some P =>
    obtain ⟨qp, rfl, hP, _⟩ := HF.out.2.2.2.1
    have HA := hid (ahead_any HQ.out.2 hP)
    clear hP
    by_cases hbf : befE u.ent P.ent
    · have H6 := H6.out
      rw [if_neg (fun f => f.2 P rfl hbf)] at H6
      unfold err at H6
      simp only [Prod.mk.injEq] at H6
      obtain ⟨⟨rfl, rfl⟩, rfl⟩ := H6
      have hbd : decide (befE u.ent P.ent) = true := by simp [hbf]
      rw [hbd] at HA
      clear hbf hbd
      go_wp2_with fail
      refine HA.out.mono ?_
      rintro r w3 ⟨rfl, k3⟩
      have HX := hid (And.intro (HF.out.1.kept k3 (fun f => f) (fun f => f)) (HF.out.2.1.trans (k3.mono (fun _ _ f => f.elim))))
      clear HA k3
      go_wp2_with fail
      go_ret2
      exact ⟨_, rfl, HX.out.1, HX.out.2.mono (fun _ _ f => .inl f), fun q => absurd q (by decide)⟩
    · have H6 := H6.out
      rw [if_pos ⟨HRK.out, fun P' hP' => by injection hP' with hP'; subst hP'; exact hbf⟩] at H6
      obtain ⟨rfl, rfl, rfl⟩ := rtn_eq H6
      have hbd : decide (befE u.ent P.ent) = false := by simp [hbf]
      rw [hbd] at HA
      clear hbf hbd H6
      go_wp2_with fail
      refine HA.out.mono ?_
      rintro r w3 ⟨rfl, k3⟩
      replace HF : Hid (WdAt w3 b g c s1 ∧ Keeps (two b g) w w3 ∧ WlAt w3 b g k0 mb base cn F qs (.slice va F.length vc)) := hid ⟨HF.out.1.kept k3 (fun f => f) (fun f => f), HF.out.2.1.trans (k3.mono (fun _ _ f => f.elim)), HF.out.2.2.1.new k3⟩
      replace HQ := hid (And.intro HQ.out.1 (HQ.out.2.kept k3 (fun f => f)))
      clear HA k3
      have hl := HF.out.2.2
      have m0 : w3.cell? ⟨k0, 2, none⟩ = some (.map (some mb)) := hl.box.cell rfl
      obtain ⟨W1, hrun, hmap, hk1⟩ := hl.map.put x HMC.out.1
      obtain ⟨es0, ck0, hes, _⟩ := hl.map.ex
      have nk : k0 ≠ mb := ne_map hl.box hes
      have nq : q ≠ mb := ne_map HQ.out.2.blk hes
      have kb1 := hl.box.kept hk1 nk
      have n3 : W1.cell? ⟨k0, 3, none⟩ = some (.slice va F.length vc) := kb1.cell rfl
      have hrow : Pr W1 base (.slice va F.length vc) qs := hl.row.keeps hk1 (fun i hi => by obtain ⟨_, cur, h2⟩ := hl.row.block hi; exact ne_map h2 hes)
      obtain ⟨v', W2, hap, hrow2, hk2, hblk⟩ := hrow.push (Nat.le_trans hl.lo.2.2.2.2 hk1.size) (by have := hl.few; have := hl.len; omega) q
      obtain ⟨va', n', vc', rfl⟩ : ∃ a n c, v' = .slice a n c := by
        obtain ⟨a, c, e⟩ := hrow2.form
        exact ⟨a, _, c, e⟩
      have nk2 : (Value.slice va F.length vc).ownBlock ≠ some k0 := fun hi => by
        obtain ⟨_, cur, h2⟩ := hrow.block hi
        exact ne_ty kb1 h2 (by decide) rfl
      have kb2 := kb1.kept hk2 nk2
      have z3 : W2.cell? ⟨k0, 3, none⟩ = some (.slice va F.length vc) := kb2.cell rfl
      have zf3 := kb2.frozen 3
      have HK2 : Hid (∀ i, (Value.slice va F.length vc).ownBlock = some i → base ≤ i) := hid (fun i hi => (hrow.block hi).1)
      have HTR : Hid (∀ (i q' : Nat) (t : Tr), qs[i]? = some q' → F[i]? = some t → TrAt W2 q' t) := hid (fun i q' t h1 h2 => ((hl.trees i q' t h1 h2).kept hk1 (ne_map (hl.trees i q' t h1 h2).blk hes)).kept hk2 (fun hi => by
        obtain ⟨_, cur, h3⟩ := hrow.block hi
        exact ne_ty ((hl.trees i q' t h1 h2).kept hk1 (ne_map (hl.trees i q' t h1 h2).blk hes)).blk h3 (by decide) rfl))
      have HTQ : Hid (TrAt W2 q u) := hid ((HQ.out.2.kept hk1 nq).kept hk2 (fun hi => by
        obtain ⟨_, cur, h3⟩ := hrow.block hi
        exact ne_ty (HQ.out.2.kept hk1 nq).blk h3 (by decide) rfl))
      have HMP : Hid (MapN W2 mb (seenL F ++ [x])) := hid (hmap.keeps hk2 (fun hi => by
        obtain ⟨_, cur, h3⟩ := hrow.block hi
        obtain ⟨e1, c1, h4, _⟩ := hmap.ex
        exact ne_map h3 h4 rfl))
      have HWD : Hid (WdAt W2 b g c s1 ∧ Keeps (fun i => two b g i ∨ base ≤ i) w W2) := by
        have hb := hXB.out
        have hlo := hl.lo
        refine hid ⟨(HF.out.1.kept hk1 (by omega) (by omega)).kept hk2 (fun hi => ?_) (fun hi => ?_), (((HF.out.2.1).mono (fun _ _ f => .inl f)).trans (hk1.mono (fun i _ f => .inr (by omega)))).trans (hk2.mono (fun i _ f => .inr (HK2.out i f)))⟩
        · have := HK2.out _ hi; omega
        · have := HK2.out _ hi; omega
      have HBX := hid kb2
      have HRW := hid hrow2
      have HHL := hid hl
      have HRN := hid hap
      have HBK : Hid ((Value.slice va' n' vc').ownBlock ≠ some k0 ∧ W1.heap.size ≤ W2.heap.size) := hid ⟨fun hi => by
        obtain ⟨_, cur, h2⟩ := hrow2.block hi
        exact ne_ty kb2 h2 (by decide) rfl, hk2.size⟩
      clear hl hmap hk1 hk2 hes nk nq kb1 hrow nk2 kb2 hap hblk hrow2
      go_wp2_with (at_builtin; refine wpList_append_run rfl _ _ 100 rfl rfl rfl HRN.out ?_; clear HRN)
      go_wp2_with fail
      go_ret2
      have ks := keeps_set W2 k0 3 (.slice va' n' vc')
      have hb := hXB.out
      have hlo := HHL.out.lo
      refine ⟨_, rfl, HWD.out.1.kept ks (by omega) (by omega), HWD.out.2.trans (ks.mono (fun i _ f => .inr (by omega))), fun _ => ⟨q, .slice va' n' vc', rfl, ?_⟩⟩
      have hsz := HWD.out.2.size
      have hxx : uw (u.at_ + 1) = x := treF_to HT0.out hx
      refine ⟨HBX.out.set 3 _, ?_, HRW.out.keeps ks (fun i hi e => HBK.out.1 (by rw [← e]; exact hi)), by simp [HHL.out.len], fun i q' t' h1 h2 => ?_, fun i q' h1 => ?_, ⟨hlo.1, hlo.2.1, hlo.2.2.1, hlo.2.2.2.1, ?_⟩, ?_⟩
      · have e : seenL (F ++ [u]) = seenL F ++ [x] := by unfold seenL; rw [List.map_append]; simp [hxx]
        rw [e]
        obtain ⟨e1, c1, h4, _⟩ := HMP.out.ex
        exact HMP.out.keeps ks (fun e => ne_map HBX.out h4 e.symm)
      · have hd : q' ≠ k0 → TrAt W2 q' t' → TrAt (W2.setCell ⟨k0, 3, none⟩ (.slice va' n' vc')) q' t' := fun h3 h4 => h4.kept ks h3
        have hT : TrAt W2 q' t' := by
          by_cases hi : i < qs.length
          · rw [List.getElem?_append_left hi] at h1
            rw [List.getElem?_append_left (by rw [← HHL.out.len]; exact hi)] at h2
            exact HTR.out i q' t' h1 h2
          · have hi' : i = qs.length := by
              have := (List.getElem?_eq_some_iff.1 h1).1
              simp at this
              omega
            subst hi'
            rw [List.getElem?_append_right (Nat.le_refl _)] at h1
            rw [HHL.out.len, List.getElem?_append_right (Nat.le_refl _)] at h2
            simp at h1 h2
            subst h1 h2
            exact HTQ.out
        exact hd (ne_ty hT.blk HBX.out (by decide)) hT
      · by_cases hi : i < qs.length
        · rw [List.getElem?_append_left hi] at h1
          exact HHL.out.hi i q' h1
        · have hi' : i = qs.length := by
            have := (List.getElem?_eq_some_iff.1 h1).1
            simp at this
            omega
          subst hi'
          rw [List.getElem?_append_right (Nat.le_refl _)] at h1
          simp at h1
          subst h1
          exact HQ.out.1
      · have := ks.size
        omega
      · have h1 := HHL.out.few
        have h2 := HMC.out.2
        simp
        omega
end Go.Proofs.Ytalopkllldnipaa
