/-
  No statement of the seat is proved here. (Several texts in one: ReadsS, ReadsS2, ReadsR.)
-/
import Derived.Test.YtbgnlenhncbceaaDoorReadsE

/-
  One call of the law on a read log and on the document's. No statement of the seat is proved here.
-/
namespace Go.Proofs.YtbgnlenhncbceaaDoor
open Go.RowKit Go.Shelf
attribute [local go_sem] Oper.semAt_some

set_option maxRecDepth 100000 in
set_option maxHeartbeats 4000000 in
theorem reads_step_but2 {Fz : Frm} (w X : World) (most : Nat) (s t : Side) (h : Two Fz w X most s t) (heq : s.ls = s.es) (kd on ad wd n : Int) (ac : Option Addr) (cc : Nat) (cs : List Int) (hc : Reads w (.slice ac cs.length cc) cs) (had : 0 ≤ ad) (hcb : cs.length * 8 ≤ 140737488351232) (hk2 : ¬ kd = 2) :
    Calls Tryd.prog 13 #[.pointer (some ⟨s.r, 0, none⟩), .pointer (some ⟨s.b, 0, none⟩), .agg #[.int .i64 kd, .int .i64 on, .int .u64 ad, .int .u64 wd, .int .i64 n, .slice ac cs.length cc]] X fun e X' => e = .returned (.bool true) ∧ ∃ s', s'.r = s.r ∧ s'.b = s.b ∧ s'.ls = s'.es ∧ Two Fz w X' most s' t := by
  have hT0 := h.same ((Keeps.refl (fun _ => False) X).alloc (.cells #[.int .i64 kd, .int .i64 on, .int .u64 ad, .int .u64 wd, .int .i64 n, .slice ac cs.length cc] 41))
  have hb0 := alloc_block X (.cells #[.int .i64 kd, .int .i64 on, .int .u64 ad, .int .u64 wd, .int .i64 n, .slice ac cs.length cc] 41)
  obtain ⟨vw, X1, HR, hrow1, hnew1, hk1⟩ := app_empty s.u s.ls _ hT0.one.rf.row (by rw [heq]; have := h.one.rd.fit; have := h.one.rd.most20; omega)
  have hT1 := hT0.same hk1
  have hb1 := hk1.old hb0 (fun f => f)
  have hT2 := hT1.same ((Keeps.refl (fun _ => False) X1).alloc (.cells #[.func (.func 42) #[.pointer (some ⟨s.r, 0, none⟩)] #[]] 69 (0, 0)))
  have hb2 := alloc_old hb1 (.cells #[.func (.func 42) #[.pointer (some ⟨s.r, 0, none⟩)] #[]] 69 (0, 0))
  have hx2 := alloc_block X1 (.cells #[.func (.func 42) #[.pointer (some ⟨s.r, 0, none⟩)] #[]] 69 (0, 0))
  have hrow2 := hrow1.kept ((Keeps.refl (fun _ => False) X1).alloc (.cells #[.func (.func 42) #[.pointer (some ⟨s.r, 0, none⟩)] #[]] 69 (0, 0))) (fun _ _ f => f)
  obtain ⟨al, cl, hu, _, _⟩ := h.one.rf.row.form
  have c0 : X.cell? ⟨s.b, 1, none⟩ = some (.slice al s.ls.length cl) := by rw [← hu]; exact cell_of_block h.one.rf.box 1
  have hbl := lt_of_block h.one.rf.box
  have hwX := h.kp.size
  rw [hu] at HR
  simp only [World.size_alloc] at HR
  have heqT : Hid (s.ls = s.es) := heq
  clear heq h hT0 hb0 hT1 hb1 hrow1 hk1 hnew1
  go_enter Tryd.func13, Tryd.ntmps13
  go_wp2_with (at_builtin; refine wpList_append_run rfl _ _ 29 rfl rfl rfl HR.out ?_; clear HR)
  refine (all_reads _ X1).mono ?_
  rintro e Y ⟨rfl, hY⟩
  rw [← hY] at hT2 hb2 hx2 hrow2
  obtain ⟨B, hB⟩ : ∃ B, X.heap.size = B := ⟨_, rfl⟩
  obtain ⟨bx, hbx⟩ : ∃ B, X1.heap.size = B := ⟨_, rfl⟩
  rw [hB] at hb2 ⊢
  rw [hbx] at hx2 ⊢
  have HBN : Hid (w.heap.size ≤ B) := by unfold Hid; omega
  clear hY hB hbx c0 hu
  have x0 : Y.cell? ⟨B, 0, none⟩ = some (.int .i64 kd) := cell_of_block hb2 0
  by_cases hk1 : kd = 1
  · subst hk1
    have hBr : B ≠ s.r := fun e => by
      have h1 := hb2
      rw [e] at h1
      exact absurd (kind_ne h1 hT2.one.rd.box) (by decide)
    have hBb : B ≠ s.b := fun e => by
      have h1 := hb2
      rw [e] at h1
      exact absurd (kind_ne h1 hT2.one.rf.box) (by decide)
    have hBv : ∀ g, s.v.ownBlock = some g → B ≠ g := fun g hg e => by
      obtain ⟨c, hc⟩ := hT2.one.rd.ents.kind hg
      rw [← e] at hc
      exact absurd (kind_ne hc hb2) (by decide)
    have hBu : ∀ g, s.u.ownBlock = some g → B ≠ g := fun g hg e => by
      obtain ⟨c, hc⟩ := hT2.one.rf.row.kind hg
      rw [← e] at hc
      exact absurd (kind_ne hc hb2) (by decide)
    have HSB : Hid (∀ Z : World, Z.heap[B]? = some (.cells #[.int .i64 1, .int .i64 on, .int .u64 ad, .int .u64 wd, .int .i64 n, .slice ac cs.length cc] 41) → (fun W : World => W.cell? ⟨B, 2, none⟩ = some (.int .u64 ad) ∧ W.cell? ⟨B, 3, none⟩ = some (.int .u64 wd)) Z) := fun Z hb => ⟨cell_of_block hb 2, cell_of_block hb 3⟩
    have hS10 := HSB.out Y hb2
    by_cases hful : most ≤ s.es.length
    · have HA : Hid (∀ W0, Like W0 Y → Calls Tryd.prog 28 #[.pointer (some ⟨s.r, 0, none⟩), .int .u64 ad, .int .u64 wd] W0 fun e w' => e = .returned (.int .i64 5) ∧ (fun W : World => W.cell? ⟨B, 2, none⟩ = some (.int .u64 ad) ∧ W.cell? ⟨B, 3, none⟩ = some (.int .u64 wd)) w' ∧ Hid (Like w' Y)) := fun W0 hl =>
        (reads_add_full s.r most s.es s.v ad wd W0 (hT2.one.rd.like hl) hful).mono fun e w' ⟨h1, h2⟩ => ⟨h1, HSB.out _ (by rw [h2.heap, hl.heap]; exact hb2), h2.trans hl⟩
      have HF : Hid (∀ Z W0, Like Z Y → Like W0 Z → Calls Tryd.prog 43 #[.pointer (some ⟨s.b, 0, none⟩), .int .u64 ad, .int .u64 wd] W0 fun e w' => e = .returned (.int .i64 5) ∧ (fun W : World => W.cell? ⟨B, 2, none⟩ = some (.int .u64 ad) ∧ W.cell? ⟨B, 3, none⟩ = some (.int .u64 wd)) w' ∧ Hid (Like w' Y)) := fun Z W0 hz hl =>
        (refo_add_full s.b most s.ls _ ad wd W0 ⟨s.u, (hT2.same ((hl.trans hz).keeps (Keeps.refl _ _))).one.rf, fun _ => Iff.rfl⟩ (by rw [heqT.out]; exact hful)).mono fun e w' ⟨h1, h2⟩ => ⟨h1, HSB.out _ (by rw [h2.heap, hl.heap, hz.heap]; exact hb2), h2.trans (hl.trans hz)⟩
      have HT2 : Hid (Two Fz w Y most s t) := hT2
      clear hT2 hb2 hx2 hrow2 hBr hBb hBv hBu HSB hc hcb had hful
      go_wp2_with fail
      go_region_held3 (fun W : World => W.cell? ⟨B, 2, none⟩ = some (.int .u64 ad) ∧ W.cell? ⟨B, 3, none⟩ = some (.int .u64 wd)) (first | assumption | (exact hS10) | go_keep) ((first
        | (go_at_call 28; refine (HA.out _ (by exact ⟨rfl, rfl, rfl, rfl⟩)).mono ?_; rintro e Z1 ⟨rfl, hZ1, hH1⟩)
        | (go_at_call 8; refine (num_any _ _).mono ?_; rintro e w' ⟨rfl, hw'⟩; replace hw' := hw'.symm; subst hw')
        | (go_at_call 43; refine (HF.out _ _ hH1.out (by exact ⟨rfl, rfl, rfl, rfl⟩)).mono ?_; rintro e Z2 ⟨rfl, hZ2, hH2⟩)))
      have hT6 := HT2.out.same (hH2.out.keeps (Keeps.refl _ _))
      clear HT2 HA HF hH1 hH2 hZ1 hZ2 hS10
      go_wp2_with fail
      obtain ⟨aT, cT, hvT, _, _⟩ := hT6.one.rf.row.form
      obtain ⟨NT, hNT⟩ : ∃ N, s.es.length = N := ⟨_, rfl⟩
      have hqT : s.ls.length = NT := by rw [← hNT]; exact congrArg List.length heqT.out
      rw [hqT] at hvT
      have HST : Hid (∀ Z, Keeps (fun _ => False) Z2 Z → (fun W : World => W.cell? ⟨s.b, 1, none⟩ = some (.slice aT NT cT)) Z) := fun Z hk => by
        have h1 : Z.cell? ⟨s.b, 1, none⟩ = some s.u := cell_of_block ((hT6.same hk).one.rf.box) 1
        rw [hvT] at h1; exact h1
      have HLenT : Hid (∀ W0, Like W0 Z2 → Calls Tryd.prog 32 #[.pointer (some ⟨s.r, 0, none⟩)] W0 fun e w' => e = .returned (.int .i64 NT) ∧ (fun W : World => W.cell? ⟨s.b, 1, none⟩ = some (.slice aT NT cT)) w' ∧ Hid (Keeps (fun _ => False) Z2 w')) := fun W0 hl => by
        have hk0 := hl.keeps (Keeps.refl (fun _ => False) Z2)
        refine (reads_len s.r most _ _ W0 (hT6.same hk0).one.rd).mono ?_
        rintro e w' ⟨rfl, rfl⟩
        exact ⟨by rw [hNT], HST.out _ hk0, hk0⟩
      have HAllT : Hid (∀ Z W0, Keeps (fun _ => False) Z2 Z → Like W0 Z → Calls Tryd.prog 15 #[.pointer (some ⟨s.r, 0, none⟩)] W0 fun e w' => ∃ bx, e = .returned (.func (.func 58) #[] #[.pointer (some ⟨bx, 0, none⟩)]) ∧ (fun W : World => W.cell? ⟨s.b, 1, none⟩ = some (.slice aT NT cT)) w' ∧ Hid (w'.heap[bx]? = some (.cells #[.func (.func 42) #[.pointer (some ⟨s.r, 0, none⟩)] #[]] 69 (0, 0)) ∧ Keeps (fun _ => False) Z2 w')) := fun Z W0 hk hl => by
        have hk0 := hl.keeps hk
        refine (all_reads _ W0).mono ?_
        rintro e w' ⟨rfl, rfl⟩
        exact ⟨_, rfl, HST.out _ (hk0.alloc _), alloc_block _ _, hk0.alloc _⟩
      have HWalkT : Hid (∀ Z bx W0, Keeps (fun _ => False) Z2 Z → Z.heap[bx]? = some (.cells #[.func (.func 42) #[.pointer (some ⟨s.r, 0, none⟩)] #[]] 69 (0, 0)) → Like W0 Z → Calls Tryd.prog 14 #[.func (.func 58) #[] #[.pointer (some ⟨bx, 0, none⟩)], .slice aT NT cT, .int .i64 0] W0 fun e w' => e = .returned (.bool true) ∧ (fun W : World => W.cell? ⟨s.b, 1, none⟩ = some (.slice aT NT cT)) w' ∧ Hid (Keeps (fun _ => False) Z2 w')) := fun Z bx W0 hk hbx hl => by
        have hk0 := hl.keeps hk
        have hT0 := hT6.same hk0
        have hp0 : Pairs W0 (.slice aT NT cT) s.es := by rw [← hvT, ← heqT.out]; exact hT0.one.rf.row.pairs
        refine (lwalk bx 42 _ s.es (by have := hT0.one.rd.fit; have := hT0.one.rd.most20; omega) _ 0 (fun _ k => s.v.ownBlock = some k) (0, 0) W0 (enters_of Tryd.func42 (by kernel_rfl) rfl) (by rw [hl.heap]; exact hbx) hp0 (fun M k _ e => .inl (hT0.one.rd.ents.lt e)) (fun W hkW => handed_list ((hT0.same hkW).one.rd))).mono ?_
        rintro e w' ⟨rfl, h2⟩
        exact ⟨rfl, HST.out _ (hk0.trans h2), hk0.trans h2⟩
      have HTT : Hid (Two Fz w Z2 most s t) := hT6
      have hST0 := HST.out Z2 (Keeps.refl _ _)
      have hNl : NT ≤ 1048576 := by have := hT6.one.rd.fit; have := hT6.one.rd.most20; omega
      clear hvT hNT hqT HST 
      clear hT6
      go_wp2_with fail
      go_region_held3 (fun W : World => W.cell? ⟨s.b, 1, none⟩ = some (.slice aT NT cT)) (first | assumption | (exact hST0) | go_keep) ((first
        | (go_at_call 32; refine (HLenT.out _ (by exact ⟨rfl, rfl, rfl, rfl⟩)).mono ?_; rintro e Z1 ⟨rfl, hZ1, hH1⟩)
        | (go_at_call 15; refine (HAllT.out _ _ hH1.out (by exact ⟨rfl, rfl, rfl, rfl⟩)).mono ?_; rintro e Z2 ⟨bxT, rfl, hZ2, hH2⟩)
        | (go_at_call 14; refine (HWalkT.out _ _ _ hH2.out.2 hH2.out.1 (by exact ⟨rfl, rfl, rfl, rfl⟩)).mono ?_; rintro e Z3 ⟨rfl, hZ3, hH3⟩)))
      all_goals go_wp2_with fail
      all_goals go_ret
      all_goals exact ⟨rfl, s, rfl, rfl, heqT.out, HTT.out.same hH3.out⟩
    · have HA : Hid (∀ W0, Like W0 Y → Calls Tryd.prog 28 #[.pointer (some ⟨s.r, 0, none⟩), .int .u64 ad, .int .u64 wd] W0 fun e w' => e = .returned (.int .i64 0) ∧ (fun W : World => W.cell? ⟨B, 2, none⟩ = some (.int .u64 ad) ∧ W.cell? ⟨B, 3, none⟩ = some (.int .u64 wd)) w' ∧ Hid (∃ v', Two Fz w w' most { s with es := s.es ++ [(ad, wd)], v := v' } t ∧ w'.heap[B]? = some (.cells #[.int .i64 1, .int .i64 on, .int .u64 ad, .int .u64 wd, .int .i64 n, .slice ac cs.length cc] 41))) := fun W0 hl => by
        have hT0 := hT2.same (hl.keeps (Keeps.refl _ _))
        refine (reads_add s.r most s.es s.v ad wd W0 hT0.one.rd (by omega)).mono ?_
        rintro e w' ⟨rfl, v', hr, hk⟩
        have hb' : w'.heap[B]? = some (.cells #[.int .i64 1, .int .i64 on, .int .u64 ad, .int .u64 wd, .int .i64 n, .slice ac cs.length cc] 41) := by
          have hbW := hb2
          rw [← hl.heap] at hbW
          rcases hk with ⟨g, _, _, k⟩ | ⟨g, c0, hv, _, _, _, k⟩
          · exact k.old hbW hBr
          · exact k.old hbW (fun e => e.elim hBr (hBv g (by rw [hv]; rfl)))
        exact ⟨rfl, HSB.out _ hb', v', hT0.add had hr hk, hb'⟩
      have HF : Hid (∀ Z v' W0, Two Fz w Z most { s with es := s.es ++ [(ad, wd)], v := v' } t → Z.heap[B]? = some (.cells #[.int .i64 1, .int .i64 on, .int .u64 ad, .int .u64 wd, .int .i64 n, .slice ac cs.length cc] 41) → Like W0 Z → Calls Tryd.prog 43 #[.pointer (some ⟨s.b, 0, none⟩), .int .u64 ad, .int .u64 wd] W0 fun e w' => e = .returned (.int .i64 0) ∧ (fun W : World => W.cell? ⟨B, 2, none⟩ = some (.int .u64 ad) ∧ W.cell? ⟨B, 3, none⟩ = some (.int .u64 wd)) w' ∧ Hid (∃ u', Two Fz w w' most { s with es := s.es ++ [(ad, wd)], v := v', ls := s.es ++ [(ad, wd)], u := u' } t)) := fun Z v' W0 hTz hbz hl => by
        have hT0 := hTz.same (hl.keeps (Keeps.refl _ _))
        refine (refo_add s.b most s.ls _ ad wd W0 ⟨s.u, hT0.one.rf, fun _ => Iff.rfl⟩ (by rw [heqT.out]; omega) hT0.one.rd.most20).mono ?_
        rintro e w' ⟨rfl, ⟨Ow', ⟨u', hr, ho⟩, hw⟩, hk⟩
        rw [heqT.out] at hr
        have hbW := hbz
        rw [← hl.heap] at hbW
        refine ⟨rfl, HSB.out _ (hk.old hbW (fun e => e.elim hBb (fun e => hBu B e rfl))), u', ?_⟩
        refine hT0.ref (fun e he => hT0.one.pe e he) hr hk (fun g hg => ?_)
        rcases hw g ((ho g).2 (.inr hg)) with (e | e) | e
        · exact absurd (e ▸ hg) hr.ner
        · exact .inl e
        · exact .inr e
      clear hT2 hb2 hx2 hrow2 hBr hBb hBv hBu HSB hc hcb had hful
      go_wp2_with fail
      go_region_held3 (fun W : World => W.cell? ⟨B, 2, none⟩ = some (.int .u64 ad) ∧ W.cell? ⟨B, 3, none⟩ = some (.int .u64 wd)) (first | assumption | (exact hS10) | go_keep) ((first
        | (go_at_call 28; refine (HA.out _ (by exact ⟨rfl, rfl, rfl, rfl⟩)).mono ?_; rintro e Z1 ⟨rfl, hZ1, hH1⟩; replace hH1 := hH1.out; obtain ⟨v', hH1a, hH1b⟩ := hH1; have HH1a : Hid (_) := hH1a; have HH1b : Hid (_) := hH1b; clear hH1a hH1b)
        | (go_at_call 8; refine (num_any _ _).mono ?_; rintro e w' ⟨rfl, hw'⟩; replace hw' := hw'.symm; subst hw')
        | (go_at_call 43; refine (HF.out _ _ _ HH1a.out HH1b.out (by exact ⟨rfl, rfl, rfl, rfl⟩)).mono ?_; rintro e Z2 ⟨rfl, hZ2, hH2⟩)))
      obtain ⟨u', hT6⟩ := hH2.out
      clear HA HF hH2 HH1a HH1b hZ1 hZ2 hS10
      go_wp2_with fail
      obtain ⟨aT, cT, hvT, _, _⟩ := hT6.one.rf.row.form
      obtain ⟨NT, hNT⟩ : ∃ N, ({ s with es := s.es ++ [(ad, wd)], v := v', ls := s.es ++ [(ad, wd)], u := u' } : Side).es.length = N := ⟨_, rfl⟩
      have hqT : ({ s with es := s.es ++ [(ad, wd)], v := v', ls := s.es ++ [(ad, wd)], u := u' } : Side).ls.length = NT := hNT
      rw [hqT] at hvT
      have HST : Hid (∀ Z, Keeps (fun _ => False) Z2 Z → (fun W : World => W.cell? ⟨s.b, 1, none⟩ = some (.slice aT NT cT)) Z) := fun Z hk => by
        have h1 : Z.cell? ⟨s.b, 1, none⟩ = some ({ s with es := s.es ++ [(ad, wd)], v := v', ls := s.es ++ [(ad, wd)], u := u' } : Side).u := cell_of_block ((hT6.same hk).one.rf.box) 1
        rw [hvT] at h1; exact h1
      have HLenT : Hid (∀ W0, Like W0 Z2 → Calls Tryd.prog 32 #[.pointer (some ⟨s.r, 0, none⟩)] W0 fun e w' => e = .returned (.int .i64 NT) ∧ (fun W : World => W.cell? ⟨s.b, 1, none⟩ = some (.slice aT NT cT)) w' ∧ Hid (Keeps (fun _ => False) Z2 w')) := fun W0 hl => by
        have hk0 := hl.keeps (Keeps.refl (fun _ => False) Z2)
        refine (reads_len s.r most _ _ W0 (hT6.same hk0).one.rd).mono ?_
        rintro e w' ⟨rfl, rfl⟩
        exact ⟨by rw [hNT], HST.out _ hk0, hk0⟩
      have HAllT : Hid (∀ Z W0, Keeps (fun _ => False) Z2 Z → Like W0 Z → Calls Tryd.prog 15 #[.pointer (some ⟨s.r, 0, none⟩)] W0 fun e w' => ∃ bx, e = .returned (.func (.func 58) #[] #[.pointer (some ⟨bx, 0, none⟩)]) ∧ (fun W : World => W.cell? ⟨s.b, 1, none⟩ = some (.slice aT NT cT)) w' ∧ Hid (w'.heap[bx]? = some (.cells #[.func (.func 42) #[.pointer (some ⟨s.r, 0, none⟩)] #[]] 69 (0, 0)) ∧ Keeps (fun _ => False) Z2 w')) := fun Z W0 hk hl => by
        have hk0 := hl.keeps hk
        refine (all_reads _ W0).mono ?_
        rintro e w' ⟨rfl, rfl⟩
        exact ⟨_, rfl, HST.out _ (hk0.alloc _), alloc_block _ _, hk0.alloc _⟩
      have HWalkT : Hid (∀ Z bx W0, Keeps (fun _ => False) Z2 Z → Z.heap[bx]? = some (.cells #[.func (.func 42) #[.pointer (some ⟨s.r, 0, none⟩)] #[]] 69 (0, 0)) → Like W0 Z → Calls Tryd.prog 14 #[.func (.func 58) #[] #[.pointer (some ⟨bx, 0, none⟩)], .slice aT NT cT, .int .i64 0] W0 fun e w' => e = .returned (.bool true) ∧ (fun W : World => W.cell? ⟨s.b, 1, none⟩ = some (.slice aT NT cT)) w' ∧ Hid (Keeps (fun _ => False) Z2 w')) := fun Z bx W0 hk hbx hl => by
        have hk0 := hl.keeps hk
        have hT0 := hT6.same hk0
        have hp0 : Pairs W0 (.slice aT NT cT) ({ s with es := s.es ++ [(ad, wd)], v := v', ls := s.es ++ [(ad, wd)], u := u' } : Side).es := by rw [← hvT]; exact hT0.one.rf.row.pairs
        refine (lwalk bx 42 _ ({ s with es := s.es ++ [(ad, wd)], v := v', ls := s.es ++ [(ad, wd)], u := u' } : Side).es (by have := hT0.one.rd.fit; have := hT0.one.rd.most20; omega) _ 0 (fun _ k => ({ s with es := s.es ++ [(ad, wd)], v := v', ls := s.es ++ [(ad, wd)], u := u' } : Side).v.ownBlock = some k) (0, 0) W0 (enters_of Tryd.func42 (by kernel_rfl) rfl) (by rw [hl.heap]; exact hbx) hp0 (fun M k _ e => .inl (hT0.one.rd.ents.lt e)) (fun W hkW => handed_list ((hT0.same hkW).one.rd))).mono ?_
        rintro e w' ⟨rfl, h2⟩
        exact ⟨rfl, HST.out _ (hk0.trans h2), hk0.trans h2⟩
      have HTT : Hid (Two Fz w Z2 most ({ s with es := s.es ++ [(ad, wd)], v := v', ls := s.es ++ [(ad, wd)], u := u' } : Side) t) := hT6
      have hST0 := HST.out Z2 (Keeps.refl _ _)
      have hNl : NT ≤ 1048576 := by have := hT6.one.rd.fit; have := hT6.one.rd.most20; omega
      clear hvT hNT hqT HST 
      clear hT6
      go_wp2_with fail
      go_region_held3 (fun W : World => W.cell? ⟨s.b, 1, none⟩ = some (.slice aT NT cT)) (first | assumption | (exact hST0) | go_keep) ((first
        | (go_at_call 32; refine (HLenT.out _ (by exact ⟨rfl, rfl, rfl, rfl⟩)).mono ?_; rintro e Z1 ⟨rfl, hZ1, hH1⟩)
        | (go_at_call 15; refine (HAllT.out _ _ hH1.out (by exact ⟨rfl, rfl, rfl, rfl⟩)).mono ?_; rintro e Z2 ⟨bxT, rfl, hZ2, hH2⟩)
        | (go_at_call 14; refine (HWalkT.out _ _ _ hH2.out.2 hH2.out.1 (by exact ⟨rfl, rfl, rfl, rfl⟩)).mono ?_; rintro e Z3 ⟨rfl, hZ3, hH3⟩)))
      all_goals go_wp2_with fail
      all_goals go_ret
      all_goals exact ⟨rfl, ({ s with es := s.es ++ [(ad, wd)], v := v', ls := s.es ++ [(ad, wd)], u := u' } : Side), rfl, rfl, rfl, HTT.out.same hH3.out⟩
  by_cases hk3 : kd = 3
  · clear hk1 hk2
    subst hk3
    have hcY : Reads Y (.slice ac cs.length cc) cs := hc.below (hT2.kp.below w.heap.size (Nat.le_refl _) (fun _ f => f.elim))
    have hLe := lend_any _ cs Y hcY.2 hcb
    have HB : Hid (∀ Z, Keeps (fun _ => False) Y Z → Z.cell? ⟨B, 5, none⟩ = some (.slice ac cs.length cc)) := fun Z hk => cell_of_block (hk.old hb2 (fun f => f)) 5
    have HRS : Hid (∀ Z g c, Keeps (fun _ => False) Y Z → LentAt Z g c cs → Calls Tryd.prog 40 #[.pointer (some ⟨s.r, 0, none⟩), .slice (some ⟨g, 0, none⟩) cs.length c] Z fun e w' => e = .returned (.tuple #[.int .i64 (staleK s.es cs), .bool (staleT s.es cs)]) ∧ Keeps (fun _ => False) Z w') := fun Z g c hk hL =>
      reads_stale s.r most s.es s.v _ cs Z (hT2.same hk).one.rd (hL.reads hcY.1) (hT2.same hk).one.pe
    have HFS : Hid (∀ Z, Keeps (fun _ => False) Y Z → Calls Tryd.prog 44 #[.pointer (some ⟨s.b, 0, none⟩), .slice ac cs.length cc] Z fun e w' => e = .returned (.tuple #[.int .i64 (staleK s.es cs), .bool (staleT s.es cs)]) ∧ Like w' Z) := fun Z hk => by
      have h1 := ref_stale s.b most s.ls s.u _ cs Z (hT2.same hk).one.rf (by rw [heqT.out]; have := hT2.one.rd.fit; have := hT2.one.rd.most20; omega) (hcY.below (hk.below Y.heap.size (Nat.le_refl _) (fun _ f => f.elim))) (hT2.same hk).one.pl
      rw [heqT.out] at h1
      exact h1
    have HKe : Hid (∀ Z g c, Keeps (fun _ => False) Y Z → LentAt Z g c cs → Calls Tryd.prog 23 #[.slice (some ⟨g, 0, none⟩) cs.length c, .slice ac cs.length cc] Z fun e w' => e = .returned (.bool true) ∧ Like w' Z) := fun Z g c hk hL =>
      kept_any g c _ cs Z hL (hcY.below (hk.below Y.heap.size (Nat.le_refl _) (fun _ f => f.elim)))
    have x5 := HB.out Y (Keeps.refl _ _)
    have HT2 : Hid (Two Fz w Y most s t) := hT2
    clear hT2 hcY hc hb2 hx2 hrow2
    generalize staleK s.es cs = SK at *
    generalize staleT s.es cs = ST at *
    go_wp2_with fail
    refine hLe.mono ?_
    rintro e Y1 ⟨g, c, rfl, ho1, hk1⟩
    have hL1 := lent_of ho1
    have hR1 := HRS.out Y1 g c hk1 hL1
    clear hLe x5 ho1 HRS
    go_wp2_with fail
    refine hR1.mono ?_
    rintro e Y2 ⟨rfl, hk2'⟩
    have hk2 := hk1.trans hk2'
    have hL2 := hL1.keeps hk2'
    have x5 := HB.out Y2 hk2
    have hR2 := HFS.out Y2 hk2
    clear hR1 hL1 hk1 hk2' HFS
    go_wp2_with fail
    refine hR2.mono ?_
    rintro e Y3 ⟨rfl, hl3⟩
    have hk3 := hl3.keeps hk2
    have hL3 := hL2.like hl3
    have x5' := HB.out Y3 hk3
    have hR3 := HKe.out Y3 g c hk3 hL3
    clear hR2 hL2 hk2 hl3 x5 HKe
    go_wp2_with fail
    refine hR3.mono ?_
    rintro e Y4 ⟨rfl, hl4⟩
    have hT6 := HT2.out.same (hl4.keeps hk3)
    clear hR3 hL3 hk3 hl4 x5' HT2 HB
    go_wp2_with fail
    obtain ⟨aT, cT, hvT, _, _⟩ := hT6.one.rf.row.form
    obtain ⟨NT, hNT⟩ : ∃ N, s.es.length = N := ⟨_, rfl⟩
    have hqT : s.ls.length = NT := by rw [← hNT]; exact congrArg List.length heqT.out
    rw [hqT] at hvT
    have HST : Hid (∀ Z, Keeps (fun _ => False) Y4 Z → (fun W : World => W.cell? ⟨s.b, 1, none⟩ = some (.slice aT NT cT)) Z) := fun Z hk => by
      have h1 : Z.cell? ⟨s.b, 1, none⟩ = some s.u := cell_of_block ((hT6.same hk).one.rf.box) 1
      rw [hvT] at h1; exact h1
    have HLenT : Hid (∀ W0, Like W0 Y4 → Calls Tryd.prog 32 #[.pointer (some ⟨s.r, 0, none⟩)] W0 fun e w' => e = .returned (.int .i64 NT) ∧ (fun W : World => W.cell? ⟨s.b, 1, none⟩ = some (.slice aT NT cT)) w' ∧ Hid (Keeps (fun _ => False) Y4 w')) := fun W0 hl => by
      have hk0 := hl.keeps (Keeps.refl (fun _ => False) Y4)
      refine (reads_len s.r most _ _ W0 (hT6.same hk0).one.rd).mono ?_
      rintro e w' ⟨rfl, rfl⟩
      exact ⟨by rw [hNT], HST.out _ hk0, hk0⟩
    have HAllT : Hid (∀ Z W0, Keeps (fun _ => False) Y4 Z → Like W0 Z → Calls Tryd.prog 15 #[.pointer (some ⟨s.r, 0, none⟩)] W0 fun e w' => ∃ bx, e = .returned (.func (.func 58) #[] #[.pointer (some ⟨bx, 0, none⟩)]) ∧ (fun W : World => W.cell? ⟨s.b, 1, none⟩ = some (.slice aT NT cT)) w' ∧ Hid (w'.heap[bx]? = some (.cells #[.func (.func 42) #[.pointer (some ⟨s.r, 0, none⟩)] #[]] 69 (0, 0)) ∧ Keeps (fun _ => False) Y4 w')) := fun Z W0 hk hl => by
      have hk0 := hl.keeps hk
      refine (all_reads _ W0).mono ?_
      rintro e w' ⟨rfl, rfl⟩
      exact ⟨_, rfl, HST.out _ (hk0.alloc _), alloc_block _ _, hk0.alloc _⟩
    have HWalkT : Hid (∀ Z bx W0, Keeps (fun _ => False) Y4 Z → Z.heap[bx]? = some (.cells #[.func (.func 42) #[.pointer (some ⟨s.r, 0, none⟩)] #[]] 69 (0, 0)) → Like W0 Z → Calls Tryd.prog 14 #[.func (.func 58) #[] #[.pointer (some ⟨bx, 0, none⟩)], .slice aT NT cT, .int .i64 0] W0 fun e w' => e = .returned (.bool true) ∧ (fun W : World => W.cell? ⟨s.b, 1, none⟩ = some (.slice aT NT cT)) w' ∧ Hid (Keeps (fun _ => False) Y4 w')) := fun Z bx W0 hk hbx hl => by
      have hk0 := hl.keeps hk
      have hT0 := hT6.same hk0
      have hp0 : Pairs W0 (.slice aT NT cT) s.es := by rw [← hvT, ← heqT.out]; exact hT0.one.rf.row.pairs
      refine (lwalk bx 42 _ s.es (by have := hT0.one.rd.fit; have := hT0.one.rd.most20; omega) _ 0 (fun _ k => s.v.ownBlock = some k) (0, 0) W0 (enters_of Tryd.func42 (by kernel_rfl) rfl) (by rw [hl.heap]; exact hbx) hp0 (fun M k _ e => .inl (hT0.one.rd.ents.lt e)) (fun W hkW => handed_list ((hT0.same hkW).one.rd))).mono ?_
      rintro e w' ⟨rfl, h2⟩
      exact ⟨rfl, HST.out _ (hk0.trans h2), hk0.trans h2⟩
    have HTT : Hid (Two Fz w Y4 most s t) := hT6
    have hST0 := HST.out Y4 (Keeps.refl _ _)
    have hNl : NT ≤ 1048576 := by have := hT6.one.rd.fit; have := hT6.one.rd.most20; omega
    clear hvT hNT hqT HST 
    clear hT6
    go_wp2_with fail
    go_region_held3 (fun W : World => W.cell? ⟨s.b, 1, none⟩ = some (.slice aT NT cT)) (first | assumption | (exact hST0) | go_keep) ((first
      | (go_at_call 32; refine (HLenT.out _ (by exact ⟨rfl, rfl, rfl, rfl⟩)).mono ?_; rintro e Z1 ⟨rfl, hZ1, hH1⟩)
      | (go_at_call 15; refine (HAllT.out _ _ hH1.out (by exact ⟨rfl, rfl, rfl, rfl⟩)).mono ?_; rintro e Z2 ⟨bxT, rfl, hZ2, hH2⟩)
      | (go_at_call 14; refine (HWalkT.out _ _ _ hH2.out.2 hH2.out.1 (by exact ⟨rfl, rfl, rfl, rfl⟩)).mono ?_; rintro e Z3 ⟨rfl, hZ3, hH3⟩)))
    all_goals go_wp2_with fail
    all_goals go_ret
    all_goals exact ⟨rfl, s, rfl, rfl, heqT.out, HTT.out.same hH3.out⟩
  by_cases hk4 : kd = 4
  · clear hk1 hk2 hk3
    subst hk4
    obtain ⟨aF, cF, hvF, _, _⟩ := hT2.one.rf.row.form
    obtain ⟨NF, hNF⟩ : ∃ N, s.es.length = N := ⟨_, rfl⟩
    have hNl2 : s.ls.length = NF := by rw [heqT.out]; exact hNF
    rw [hNl2] at hvF
    have HB : Hid (∀ Z, Keeps (fun _ => False) Y Z → Z.cell? ⟨B, 4, none⟩ = some (.int .i64 n)) := fun Z hk => cell_of_block (hk.old hb2 (fun f => f)) 4
    have HU : Hid (∀ Z, Keeps (fun _ => False) Y Z → Z.cell? ⟨s.b, 1, none⟩ = some (.slice aF NF cF)) := fun Z hk => by
      have h1 : Z.cell? ⟨s.b, 1, none⟩ = some s.u := cell_of_block ((hT2.same hk).one.rf.box) 1
      rw [hvF] at h1; exact h1
    have hP : Pairs Y (.slice aF NF cF) s.es := by rw [← hvF, ← heqT.out]; exact hT2.one.rf.row.pairs
    have hAt := reads_at s.r most s.es s.v n Y hT2.one.rd
    have x4 := HB.out Y (Keeps.refl _ _)
    have HT2 : Hid (Two Fz w Y most s t) := hT2
    clear hvF hNl2 hb2 hx2 hrow2 hT2 had hcb hc
    by_cases hout : n < 0 ∨ (s.es.length : Int) ≤ n
    · obtain ⟨q1, q2⟩ := atC_no hout
      rw [q1, q2] at hAt
      rw [hNF] at hout
      clear q1 q2 hNF hP
      go_wp2_with fail
      refine hAt.mono ?_
      rintro e Y1 ⟨rfl, hk1⟩
      clear hAt x4
      by_cases hneg : n < 0
      · clear hout
        have hge : decide (n ≥ 0) = false := by simp; omega
        go_wp2_with fail
        have hk2 := hk1.alloc (.cells #[.int .u64 0, .int .u64 0] 72)
        have hb3 := alloc_block Y1 (.cells #[.int .u64 0, .int .u64 0] 72)
        have y4 := HB.out _ hk2
        have yu := HU.out _ hk2
        have hT5 := HT2.out.same hk2
        have z0 : (Y1.alloc (.cells #[.int .u64 0, .int .u64 0] 72)).cell? ⟨Y1.heap.size, 0, none⟩ = some (.int .u64 0) := cell_of_block hb3 0
        have z1 : (Y1.alloc (.cells #[.int .u64 0, .int .u64 0] 72)).cell? ⟨Y1.heap.size, 1, none⟩ = some (.int .u64 0) := cell_of_block hb3 1
        generalize Y1.alloc (.cells #[.int .u64 0, .int .u64 0] 72) = Y2 at *
        generalize Y1.heap.size = C at *
        clear hk1 hk2 hb3 HT2 HB HU 
        go_quiet (fail)
        go_wp2_with fail
        obtain ⟨Y3, hY3⟩ : ∃ Z, Z = Y2.drewN nq := ⟨_, rfl⟩
        have hl3 : Like Y3 Y2 := by rw [hY3]; exact like_drewN _ _
        rw [← hY3]
        clear hY3
        have hcl3 : ∀ q : Addr, Y3.cell? q = Y2.cell? q := fun q => World.cell?_of_block (by rw [hl3.heap])
        have z0' := (hcl3 _).trans z0
        have z1' := (hcl3 _).trans z1
        have y4' := (hcl3 _).trans y4
        have yu' := (hcl3 _).trans yu
        have hT7 := hT5.same (hl3.keeps (Keeps.refl _ _))
        clear z0 z1 y4 yu hT5 hl3 hcl3
        go_quiet (fail)
        obtain ⟨Y4, hY4⟩ : ∃ Z, Z = Y3.drewN nq := ⟨_, rfl⟩
        have hl4 : Like Y4 Y3 := by rw [hY4]; exact like_drewN _ _
        rw [← hY4]
        clear hY4
        have hT6 := hT7.same (hl4.keeps (Keeps.refl _ _))
        clear hT7 hl4 z0' z1' y4' yu'
        go_wp2_with fail
        obtain ⟨aT, cT, hvT, _, _⟩ := hT6.one.rf.row.form
        obtain ⟨NT, hNT⟩ : ∃ N, s.es.length = N := ⟨_, rfl⟩
        have hqT : s.ls.length = NT := by rw [← hNT]; exact congrArg List.length heqT.out
        rw [hqT] at hvT
        have HST : Hid (∀ Z, Keeps (fun _ => False) Y4 Z → (fun W : World => W.cell? ⟨s.b, 1, none⟩ = some (.slice aT NT cT)) Z) := fun Z hk => by
          have h1 : Z.cell? ⟨s.b, 1, none⟩ = some s.u := cell_of_block ((hT6.same hk).one.rf.box) 1
          rw [hvT] at h1; exact h1
        have HLenT : Hid (∀ W0, Like W0 Y4 → Calls Tryd.prog 32 #[.pointer (some ⟨s.r, 0, none⟩)] W0 fun e w' => e = .returned (.int .i64 NT) ∧ (fun W : World => W.cell? ⟨s.b, 1, none⟩ = some (.slice aT NT cT)) w' ∧ Hid (Keeps (fun _ => False) Y4 w')) := fun W0 hl => by
          have hk0 := hl.keeps (Keeps.refl (fun _ => False) Y4)
          refine (reads_len s.r most _ _ W0 (hT6.same hk0).one.rd).mono ?_
          rintro e w' ⟨rfl, rfl⟩
          exact ⟨by rw [hNT], HST.out _ hk0, hk0⟩
        have HAllT : Hid (∀ Z W0, Keeps (fun _ => False) Y4 Z → Like W0 Z → Calls Tryd.prog 15 #[.pointer (some ⟨s.r, 0, none⟩)] W0 fun e w' => ∃ bx, e = .returned (.func (.func 58) #[] #[.pointer (some ⟨bx, 0, none⟩)]) ∧ (fun W : World => W.cell? ⟨s.b, 1, none⟩ = some (.slice aT NT cT)) w' ∧ Hid (w'.heap[bx]? = some (.cells #[.func (.func 42) #[.pointer (some ⟨s.r, 0, none⟩)] #[]] 69 (0, 0)) ∧ Keeps (fun _ => False) Y4 w')) := fun Z W0 hk hl => by
          have hk0 := hl.keeps hk
          refine (all_reads _ W0).mono ?_
          rintro e w' ⟨rfl, rfl⟩
          exact ⟨_, rfl, HST.out _ (hk0.alloc _), alloc_block _ _, hk0.alloc _⟩
        have HWalkT : Hid (∀ Z bx W0, Keeps (fun _ => False) Y4 Z → Z.heap[bx]? = some (.cells #[.func (.func 42) #[.pointer (some ⟨s.r, 0, none⟩)] #[]] 69 (0, 0)) → Like W0 Z → Calls Tryd.prog 14 #[.func (.func 58) #[] #[.pointer (some ⟨bx, 0, none⟩)], .slice aT NT cT, .int .i64 0] W0 fun e w' => e = .returned (.bool true) ∧ (fun W : World => W.cell? ⟨s.b, 1, none⟩ = some (.slice aT NT cT)) w' ∧ Hid (Keeps (fun _ => False) Y4 w')) := fun Z bx W0 hk hbx hl => by
          have hk0 := hl.keeps hk
          have hT0 := hT6.same hk0
          have hp0 : Pairs W0 (.slice aT NT cT) s.es := by rw [← hvT, ← heqT.out]; exact hT0.one.rf.row.pairs
          refine (lwalk bx 42 _ s.es (by have := hT0.one.rd.fit; have := hT0.one.rd.most20; omega) _ 0 (fun _ k => s.v.ownBlock = some k) (0, 0) W0 (enters_of Tryd.func42 (by kernel_rfl) rfl) (by rw [hl.heap]; exact hbx) hp0 (fun M k _ e => .inl (hT0.one.rd.ents.lt e)) (fun W hkW => handed_list ((hT0.same hkW).one.rd))).mono ?_
          rintro e w' ⟨rfl, h2⟩
          exact ⟨rfl, HST.out _ (hk0.trans h2), hk0.trans h2⟩
        have HTT : Hid (Two Fz w Y4 most s t) := hT6
        have hST0 := HST.out Y4 (Keeps.refl _ _)
        have hNl : NT ≤ 1048576 := by have := hT6.one.rd.fit; have := hT6.one.rd.most20; omega
        clear hvT hNT hqT HST 
        clear hT6
        go_wp2_with fail
        go_region_held3 (fun W : World => W.cell? ⟨s.b, 1, none⟩ = some (.slice aT NT cT)) (first | assumption | (exact hST0) | go_keep) ((first
          | (go_at_call 32; refine (HLenT.out _ (by exact ⟨rfl, rfl, rfl, rfl⟩)).mono ?_; rintro e Z1 ⟨rfl, hZ1, hH1⟩)
          | (go_at_call 15; refine (HAllT.out _ _ hH1.out (by exact ⟨rfl, rfl, rfl, rfl⟩)).mono ?_; rintro e Z2 ⟨bxT, rfl, hZ2, hH2⟩)
          | (go_at_call 14; refine (HWalkT.out _ _ _ hH2.out.2 hH2.out.1 (by exact ⟨rfl, rfl, rfl, rfl⟩)).mono ?_; rintro e Z3 ⟨rfl, hZ3, hH3⟩)))
        all_goals go_wp2_with fail
        all_goals go_ret
        all_goals exact ⟨rfl, s, rfl, rfl, heqT.out, HTT.out.same hH3.out⟩
      · have hge : n ≥ 0 := by omega
        replace hout : (NF : Int) ≤ n := by omega
        have hlt : ¬ n < (NF : Int) := by omega
        have hga : decide (n < (NF : Int)) = false := by simp; omega
        go_wp2_with fail
        have hk2 := hk1.alloc (.cells #[.int .u64 0, .int .u64 0] 72)
        have hb3 := alloc_block Y1 (.cells #[.int .u64 0, .int .u64 0] 72)
        have y4 := HB.out _ hk2
        have yu := HU.out _ hk2
        have hT5 := HT2.out.same hk2
        have z0 : (Y1.alloc (.cells #[.int .u64 0, .int .u64 0] 72)).cell? ⟨Y1.heap.size, 0, none⟩ = some (.int .u64 0) := cell_of_block hb3 0
        have z1 : (Y1.alloc (.cells #[.int .u64 0, .int .u64 0] 72)).cell? ⟨Y1.heap.size, 1, none⟩ = some (.int .u64 0) := cell_of_block hb3 1
        generalize Y1.alloc (.cells #[.int .u64 0, .int .u64 0] 72) = Y2 at *
        generalize Y1.heap.size = C at *
        clear hk1 hk2 hb3 HT2 HB HU 
        go_quiet (fail)
        go_wp2_with fail
        obtain ⟨Y3, hY3⟩ : ∃ Z, Z = Y2.drewN nq := ⟨_, rfl⟩
        have hl3 : Like Y3 Y2 := by rw [hY3]; exact like_drewN _ _
        rw [← hY3]
        clear hY3
        have hcl3 : ∀ q : Addr, Y3.cell? q = Y2.cell? q := fun q => World.cell?_of_block (by rw [hl3.heap])
        have z0' := (hcl3 _).trans z0
        have z1' := (hcl3 _).trans z1
        have y4' := (hcl3 _).trans y4
        have yu' := (hcl3 _).trans yu
        have hT7 := hT5.same (hl3.keeps (Keeps.refl _ _))
        clear z0 z1 y4 yu hT5 hl3 hcl3
        go_quiet (fail)
        obtain ⟨Y4, hY4⟩ : ∃ Z, Z = Y3.drewN nq := ⟨_, rfl⟩
        have hl4 : Like Y4 Y3 := by rw [hY4]; exact like_drewN _ _
        rw [← hY4]
        clear hY4
        have hT6 := hT7.same (hl4.keeps (Keeps.refl _ _))
        clear hT7 hl4 z0' z1' y4' yu'
        go_wp2_with fail
        obtain ⟨aT, cT, hvT, _, _⟩ := hT6.one.rf.row.form
        obtain ⟨NT, hNT⟩ : ∃ N, s.es.length = N := ⟨_, rfl⟩
        have hqT : s.ls.length = NT := by rw [← hNT]; exact congrArg List.length heqT.out
        rw [hqT] at hvT
        have HST : Hid (∀ Z, Keeps (fun _ => False) Y4 Z → (fun W : World => W.cell? ⟨s.b, 1, none⟩ = some (.slice aT NT cT)) Z) := fun Z hk => by
          have h1 : Z.cell? ⟨s.b, 1, none⟩ = some s.u := cell_of_block ((hT6.same hk).one.rf.box) 1
          rw [hvT] at h1; exact h1
        have HLenT : Hid (∀ W0, Like W0 Y4 → Calls Tryd.prog 32 #[.pointer (some ⟨s.r, 0, none⟩)] W0 fun e w' => e = .returned (.int .i64 NT) ∧ (fun W : World => W.cell? ⟨s.b, 1, none⟩ = some (.slice aT NT cT)) w' ∧ Hid (Keeps (fun _ => False) Y4 w')) := fun W0 hl => by
          have hk0 := hl.keeps (Keeps.refl (fun _ => False) Y4)
          refine (reads_len s.r most _ _ W0 (hT6.same hk0).one.rd).mono ?_
          rintro e w' ⟨rfl, rfl⟩
          exact ⟨by rw [hNT], HST.out _ hk0, hk0⟩
        have HAllT : Hid (∀ Z W0, Keeps (fun _ => False) Y4 Z → Like W0 Z → Calls Tryd.prog 15 #[.pointer (some ⟨s.r, 0, none⟩)] W0 fun e w' => ∃ bx, e = .returned (.func (.func 58) #[] #[.pointer (some ⟨bx, 0, none⟩)]) ∧ (fun W : World => W.cell? ⟨s.b, 1, none⟩ = some (.slice aT NT cT)) w' ∧ Hid (w'.heap[bx]? = some (.cells #[.func (.func 42) #[.pointer (some ⟨s.r, 0, none⟩)] #[]] 69 (0, 0)) ∧ Keeps (fun _ => False) Y4 w')) := fun Z W0 hk hl => by
          have hk0 := hl.keeps hk
          refine (all_reads _ W0).mono ?_
          rintro e w' ⟨rfl, rfl⟩
          exact ⟨_, rfl, HST.out _ (hk0.alloc _), alloc_block _ _, hk0.alloc _⟩
        have HWalkT : Hid (∀ Z bx W0, Keeps (fun _ => False) Y4 Z → Z.heap[bx]? = some (.cells #[.func (.func 42) #[.pointer (some ⟨s.r, 0, none⟩)] #[]] 69 (0, 0)) → Like W0 Z → Calls Tryd.prog 14 #[.func (.func 58) #[] #[.pointer (some ⟨bx, 0, none⟩)], .slice aT NT cT, .int .i64 0] W0 fun e w' => e = .returned (.bool true) ∧ (fun W : World => W.cell? ⟨s.b, 1, none⟩ = some (.slice aT NT cT)) w' ∧ Hid (Keeps (fun _ => False) Y4 w')) := fun Z bx W0 hk hbx hl => by
          have hk0 := hl.keeps hk
          have hT0 := hT6.same hk0
          have hp0 : Pairs W0 (.slice aT NT cT) s.es := by rw [← hvT, ← heqT.out]; exact hT0.one.rf.row.pairs
          refine (lwalk bx 42 _ s.es (by have := hT0.one.rd.fit; have := hT0.one.rd.most20; omega) _ 0 (fun _ k => s.v.ownBlock = some k) (0, 0) W0 (enters_of Tryd.func42 (by kernel_rfl) rfl) (by rw [hl.heap]; exact hbx) hp0 (fun M k _ e => .inl (hT0.one.rd.ents.lt e)) (fun W hkW => handed_list ((hT0.same hkW).one.rd))).mono ?_
          rintro e w' ⟨rfl, h2⟩
          exact ⟨rfl, HST.out _ (hk0.trans h2), hk0.trans h2⟩
        have HTT : Hid (Two Fz w Y4 most s t) := hT6
        have hST0 := HST.out Y4 (Keeps.refl _ _)
        have hNl : NT ≤ 1048576 := by have := hT6.one.rd.fit; have := hT6.one.rd.most20; omega
        clear hvT hNT hqT HST 
        clear hT6
        go_wp2_with fail
        go_region_held3 (fun W : World => W.cell? ⟨s.b, 1, none⟩ = some (.slice aT NT cT)) (first | assumption | (exact hST0) | go_keep) ((first
          | (go_at_call 32; refine (HLenT.out _ (by exact ⟨rfl, rfl, rfl, rfl⟩)).mono ?_; rintro e Z1 ⟨rfl, hZ1, hH1⟩)
          | (go_at_call 15; refine (HAllT.out _ _ hH1.out (by exact ⟨rfl, rfl, rfl, rfl⟩)).mono ?_; rintro e Z2 ⟨bxT, rfl, hZ2, hH2⟩)
          | (go_at_call 14; refine (HWalkT.out _ _ _ hH2.out.2 hH2.out.1 (by exact ⟨rfl, rfl, rfl, rfl⟩)).mono ?_; rintro e Z3 ⟨rfl, hZ3, hH3⟩)))
        all_goals go_wp2_with fail
        all_goals go_ret
        all_goals exact ⟨rfl, s, rfl, rfl, heqT.out, HTT.out.same hH3.out⟩
    · obtain ⟨k, rfl⟩ : ∃ k : Nat, n = k := ⟨n.toNat, by omega⟩
      have hkl : k < s.es.length := by omega
      obtain ⟨q1, q2⟩ := atC_yes (es := s.es) hkl
      obtain ⟨g, off, x, y, hal, hx, HC⟩ := hP.fixed hkl
      subst hal
      obtain ⟨_, hx'⟩ := List.getElem?_eq_some_iff.1 hx
      rw [q1, q2, hx'] at hAt
      dsimp only at hAt
      rw [hNF] at hkl
      have hkl2 : (k : Int) < (NF : Int) := by omega
      have hk0 : (0 : Int) ≤ (k : Int) := by omega
      clear q1 q2 hNF hP hx hx' hout
      go_wp2_with fail
      refine hAt.mono ?_
      rintro e Y1 ⟨rfl, hk1⟩
      clear hAt x4
      go_wp2_with fail
      have hk2 := hk1.alloc (.cells #[.int .u64 x, .int .u64 y] 72)
      have hb3 := alloc_block Y1 (.cells #[.int .u64 x, .int .u64 y] 72)
      have y4 := HB.out _ hk2
      have yu := HU.out _ hk2
      have hT5 := HT2.out.same hk2
      have z0 : (Y1.alloc (.cells #[.int .u64 x, .int .u64 y] 72)).cell? ⟨Y1.heap.size, 0, none⟩ = some (.int .u64 x) := cell_of_block hb3 0
      have z1 : (Y1.alloc (.cells #[.int .u64 x, .int .u64 y] 72)).cell? ⟨Y1.heap.size, 1, none⟩ = some (.int .u64 y) := cell_of_block hb3 1
      obtain ⟨p0, p1⟩ := HC.out _ hk2
      generalize Y1.alloc (.cells #[.int .u64 x, .int .u64 y] 72) = Y2 at *
      generalize Y1.heap.size = C at *
      clear hk1 hk2 hb3 HT2 HB HU HC
      go_quiet (fail)
      go_wp2_with fail
      obtain ⟨Y3, hY3⟩ : ∃ Z, Z = Y2.drewN nq := ⟨_, rfl⟩
      have hl3 : Like Y3 Y2 := by rw [hY3]; exact like_drewN _ _
      rw [← hY3]
      clear hY3
      have hcl3 : ∀ q : Addr, Y3.cell? q = Y2.cell? q := fun q => World.cell?_of_block (by rw [hl3.heap])
      have z0' := (hcl3 _).trans z0
      have z1' := (hcl3 _).trans z1
      have y4' := (hcl3 _).trans y4
      have yu' := (hcl3 _).trans yu
      have p0' := (hcl3 _).trans p0
      have p1' := (hcl3 _).trans p1
      have hT7 := hT5.same (hl3.keeps (Keeps.refl _ _))
      clear z0 z1 y4 yu hT5 hl3 hcl3
      go_quiet (fail)
      obtain ⟨Y4, hY4⟩ : ∃ Z, Z = Y3.drewN nq := ⟨_, rfl⟩
      have hl4 : Like Y4 Y3 := by rw [hY4]; exact like_drewN _ _
      rw [← hY4]
      clear hY4
      have hT6 := hT7.same (hl4.keeps (Keeps.refl _ _))
      clear hT7 hl4 z0' z1' y4' yu'
      go_wp2_with fail
      obtain ⟨aT, cT, hvT, _, _⟩ := hT6.one.rf.row.form
      obtain ⟨NT, hNT⟩ : ∃ N, s.es.length = N := ⟨_, rfl⟩
      have hqT : s.ls.length = NT := by rw [← hNT]; exact congrArg List.length heqT.out
      rw [hqT] at hvT
      have HST : Hid (∀ Z, Keeps (fun _ => False) Y4 Z → (fun W : World => W.cell? ⟨s.b, 1, none⟩ = some (.slice aT NT cT)) Z) := fun Z hk => by
        have h1 : Z.cell? ⟨s.b, 1, none⟩ = some s.u := cell_of_block ((hT6.same hk).one.rf.box) 1
        rw [hvT] at h1; exact h1
      have HLenT : Hid (∀ W0, Like W0 Y4 → Calls Tryd.prog 32 #[.pointer (some ⟨s.r, 0, none⟩)] W0 fun e w' => e = .returned (.int .i64 NT) ∧ (fun W : World => W.cell? ⟨s.b, 1, none⟩ = some (.slice aT NT cT)) w' ∧ Hid (Keeps (fun _ => False) Y4 w')) := fun W0 hl => by
        have hk0 := hl.keeps (Keeps.refl (fun _ => False) Y4)
        refine (reads_len s.r most _ _ W0 (hT6.same hk0).one.rd).mono ?_
        rintro e w' ⟨rfl, rfl⟩
        exact ⟨by rw [hNT], HST.out _ hk0, hk0⟩
      have HAllT : Hid (∀ Z W0, Keeps (fun _ => False) Y4 Z → Like W0 Z → Calls Tryd.prog 15 #[.pointer (some ⟨s.r, 0, none⟩)] W0 fun e w' => ∃ bx, e = .returned (.func (.func 58) #[] #[.pointer (some ⟨bx, 0, none⟩)]) ∧ (fun W : World => W.cell? ⟨s.b, 1, none⟩ = some (.slice aT NT cT)) w' ∧ Hid (w'.heap[bx]? = some (.cells #[.func (.func 42) #[.pointer (some ⟨s.r, 0, none⟩)] #[]] 69 (0, 0)) ∧ Keeps (fun _ => False) Y4 w')) := fun Z W0 hk hl => by
        have hk0 := hl.keeps hk
        refine (all_reads _ W0).mono ?_
        rintro e w' ⟨rfl, rfl⟩
        exact ⟨_, rfl, HST.out _ (hk0.alloc _), alloc_block _ _, hk0.alloc _⟩
      have HWalkT : Hid (∀ Z bx W0, Keeps (fun _ => False) Y4 Z → Z.heap[bx]? = some (.cells #[.func (.func 42) #[.pointer (some ⟨s.r, 0, none⟩)] #[]] 69 (0, 0)) → Like W0 Z → Calls Tryd.prog 14 #[.func (.func 58) #[] #[.pointer (some ⟨bx, 0, none⟩)], .slice aT NT cT, .int .i64 0] W0 fun e w' => e = .returned (.bool true) ∧ (fun W : World => W.cell? ⟨s.b, 1, none⟩ = some (.slice aT NT cT)) w' ∧ Hid (Keeps (fun _ => False) Y4 w')) := fun Z bx W0 hk hbx hl => by
        have hk0 := hl.keeps hk
        have hT0 := hT6.same hk0
        have hp0 : Pairs W0 (.slice aT NT cT) s.es := by rw [← hvT, ← heqT.out]; exact hT0.one.rf.row.pairs
        refine (lwalk bx 42 _ s.es (by have := hT0.one.rd.fit; have := hT0.one.rd.most20; omega) _ 0 (fun _ k => s.v.ownBlock = some k) (0, 0) W0 (enters_of Tryd.func42 (by kernel_rfl) rfl) (by rw [hl.heap]; exact hbx) hp0 (fun M k _ e => .inl (hT0.one.rd.ents.lt e)) (fun W hkW => handed_list ((hT0.same hkW).one.rd))).mono ?_
        rintro e w' ⟨rfl, h2⟩
        exact ⟨rfl, HST.out _ (hk0.trans h2), hk0.trans h2⟩
      have HTT : Hid (Two Fz w Y4 most s t) := hT6
      have hST0 := HST.out Y4 (Keeps.refl _ _)
      have hNl : NT ≤ 1048576 := by have := hT6.one.rd.fit; have := hT6.one.rd.most20; omega
      clear hvT hNT hqT HST 
      clear hT6
      go_wp2_with fail
      go_region_held3 (fun W : World => W.cell? ⟨s.b, 1, none⟩ = some (.slice aT NT cT)) (first | assumption | (exact hST0) | go_keep) ((first
        | (go_at_call 32; refine (HLenT.out _ (by exact ⟨rfl, rfl, rfl, rfl⟩)).mono ?_; rintro e Z1 ⟨rfl, hZ1, hH1⟩)
        | (go_at_call 15; refine (HAllT.out _ _ hH1.out (by exact ⟨rfl, rfl, rfl, rfl⟩)).mono ?_; rintro e Z2 ⟨bxT, rfl, hZ2, hH2⟩)
        | (go_at_call 14; refine (HWalkT.out _ _ _ hH2.out.2 hH2.out.1 (by exact ⟨rfl, rfl, rfl, rfl⟩)).mono ?_; rintro e Z3 ⟨rfl, hZ3, hH3⟩)))
      all_goals go_wp2_with fail
      all_goals go_ret
      all_goals exact ⟨rfl, s, rfl, rfl, heqT.out, HTT.out.same hH3.out⟩
  by_cases hk5 : kd = 5
  · clear hk1 hk2 hk3 hk4
    subst hk5
    obtain ⟨aF, cF, hvF, _, _⟩ := hT2.one.rf.row.form
    obtain ⟨aW, cW, hvW, _, _⟩ := hrow2.form
    obtain ⟨NF, hNF⟩ : ∃ N, s.ls.length = N := ⟨_, rfl⟩
    rw [hNF] at hvF hvW
    subst hvW
    have HSF : Hid (∀ Z, Keeps (fun _ => False) Y Z → (fun W : World => W.cell? ⟨s.b, 1, none⟩ = some (.slice aF NF cF) ∧ W.cell? ⟨B, 4, none⟩ = some (.int .i64 n)) Z) := fun Z hk => by
      have h1 : Z.cell? ⟨s.b, 1, none⟩ = some s.u := cell_of_block ((hT2.same hk).one.rf.box) 1
      rw [hvF] at h1
      exact ⟨h1, cell_of_block (hk.old hb2 (fun f => f)) 4⟩
    have HWF : Hid (∀ Z vl m W0, Keeps (fun _ => False) Y Z → (vl = .slice aF NF cF ∨ vl = .slice aW NF cW) → Like W0 Z → Calls Tryd.prog 14 #[.func (.func 58) #[] #[.pointer (some ⟨bx, 0, none⟩)], vl, .int .i64 m] W0 fun e w' => e = .returned (.bool true) ∧ (fun W : World => W.cell? ⟨s.b, 1, none⟩ = some (.slice aF NF cF) ∧ W.cell? ⟨B, 4, none⟩ = some (.int .i64 n)) w' ∧ Hid (Keeps (fun _ => False) Y w')) := fun Z vl m W0 hk hvl hl => by
      have hk0 := hl.keeps hk
      have hT0 := hT2.same hk0
      have hp0 : Pairs W0 vl s.es := by
        rw [← heqT.out]
        rcases hvl with rfl | rfl
        · rw [← hvF]; exact hT0.one.rf.row.pairs
        · exact (hrow2.kept hk0 (fun _ _ f => f)).pairs
      refine (lwalk bx 42 _ s.es (by have := hT0.one.rd.fit; have := hT0.one.rd.most20; omega) _ m (fun _ k => s.v.ownBlock = some k) (0, 0) W0 (enters_of Tryd.func42 (by kernel_rfl) rfl) (hk0.old hx2 (fun f => f)) hp0 (fun M k _ e => .inl (hT0.one.rd.ents.lt e)) (fun W hkW => handed_list ((hT0.same hkW).one.rd))).mono ?_
      rintro e w' ⟨rfl, h2⟩
      exact ⟨rfl, HSF.out _ (hk0.trans h2), hk0.trans h2⟩
    have HT2 : Hid (Two Fz w Y most s t) := hT2
    have hSF0 := HSF.out Y (Keeps.refl _ _)
    clear hvF hNF HSF hb2 hx2 hrow2 hT2 had hcb hc
    go_wp2_with fail
    go_region_held3 (fun W : World => W.cell? ⟨s.b, 1, none⟩ = some (.slice aF NF cF) ∧ W.cell? ⟨B, 4, none⟩ = some (.int .i64 n)) (first | assumption | (exact hSF0) | go_keep) ((first
      | (go_at_call 14; refine (HWF.out _ _ _ _ hH5.out (by first | exact .inl rfl | exact .inr rfl) (by exact ⟨rfl, rfl, rfl, rfl⟩)).mono ?_; rintro e Z6 ⟨rfl, hZ6, hH6⟩)
      | (go_at_call 14; refine (HWF.out Y _ _ _ (Keeps.refl _ Y) (by first | exact .inl rfl | exact .inr rfl) (by exact ⟨rfl, rfl, rfl, rfl⟩)).mono ?_; rintro e Z5 ⟨rfl, hZ5, hH5⟩)))
    have hT6 := HT2.out.same hH6.out
    clear HT2 HWF hH5 hH6 hZ5 hZ6 hSF0
    go_wp2_with fail
    obtain ⟨aT, cT, hvT, _, _⟩ := hT6.one.rf.row.form
    obtain ⟨NT, hNT⟩ : ∃ N, s.es.length = N := ⟨_, rfl⟩
    have hqT : s.ls.length = NT := by rw [← hNT]; exact congrArg List.length heqT.out
    rw [hqT] at hvT
    have HST : Hid (∀ Z, Keeps (fun _ => False) Z6 Z → (fun W : World => W.cell? ⟨s.b, 1, none⟩ = some (.slice aT NT cT)) Z) := fun Z hk => by
      have h1 : Z.cell? ⟨s.b, 1, none⟩ = some s.u := cell_of_block ((hT6.same hk).one.rf.box) 1
      rw [hvT] at h1; exact h1
    have HLenT : Hid (∀ W0, Like W0 Z6 → Calls Tryd.prog 32 #[.pointer (some ⟨s.r, 0, none⟩)] W0 fun e w' => e = .returned (.int .i64 NT) ∧ (fun W : World => W.cell? ⟨s.b, 1, none⟩ = some (.slice aT NT cT)) w' ∧ Hid (Keeps (fun _ => False) Z6 w')) := fun W0 hl => by
      have hk0 := hl.keeps (Keeps.refl (fun _ => False) Z6)
      refine (reads_len s.r most _ _ W0 (hT6.same hk0).one.rd).mono ?_
      rintro e w' ⟨rfl, rfl⟩
      exact ⟨by rw [hNT], HST.out _ hk0, hk0⟩
    have HAllT : Hid (∀ Z W0, Keeps (fun _ => False) Z6 Z → Like W0 Z → Calls Tryd.prog 15 #[.pointer (some ⟨s.r, 0, none⟩)] W0 fun e w' => ∃ bx, e = .returned (.func (.func 58) #[] #[.pointer (some ⟨bx, 0, none⟩)]) ∧ (fun W : World => W.cell? ⟨s.b, 1, none⟩ = some (.slice aT NT cT)) w' ∧ Hid (w'.heap[bx]? = some (.cells #[.func (.func 42) #[.pointer (some ⟨s.r, 0, none⟩)] #[]] 69 (0, 0)) ∧ Keeps (fun _ => False) Z6 w')) := fun Z W0 hk hl => by
      have hk0 := hl.keeps hk
      refine (all_reads _ W0).mono ?_
      rintro e w' ⟨rfl, rfl⟩
      exact ⟨_, rfl, HST.out _ (hk0.alloc _), alloc_block _ _, hk0.alloc _⟩
    have HWalkT : Hid (∀ Z bx W0, Keeps (fun _ => False) Z6 Z → Z.heap[bx]? = some (.cells #[.func (.func 42) #[.pointer (some ⟨s.r, 0, none⟩)] #[]] 69 (0, 0)) → Like W0 Z → Calls Tryd.prog 14 #[.func (.func 58) #[] #[.pointer (some ⟨bx, 0, none⟩)], .slice aT NT cT, .int .i64 0] W0 fun e w' => e = .returned (.bool true) ∧ (fun W : World => W.cell? ⟨s.b, 1, none⟩ = some (.slice aT NT cT)) w' ∧ Hid (Keeps (fun _ => False) Z6 w')) := fun Z bx W0 hk hbx hl => by
      have hk0 := hl.keeps hk
      have hT0 := hT6.same hk0
      have hp0 : Pairs W0 (.slice aT NT cT) s.es := by rw [← hvT, ← heqT.out]; exact hT0.one.rf.row.pairs
      refine (lwalk bx 42 _ s.es (by have := hT0.one.rd.fit; have := hT0.one.rd.most20; omega) _ 0 (fun _ k => s.v.ownBlock = some k) (0, 0) W0 (enters_of Tryd.func42 (by kernel_rfl) rfl) (by rw [hl.heap]; exact hbx) hp0 (fun M k _ e => .inl (hT0.one.rd.ents.lt e)) (fun W hkW => handed_list ((hT0.same hkW).one.rd))).mono ?_
      rintro e w' ⟨rfl, h2⟩
      exact ⟨rfl, HST.out _ (hk0.trans h2), hk0.trans h2⟩
    have HTT : Hid (Two Fz w Z6 most s t) := hT6
    have hST0 := HST.out Z6 (Keeps.refl _ _)
    have hNl : NT ≤ 1048576 := by have := hT6.one.rd.fit; have := hT6.one.rd.most20; omega
    clear hvT hNT hqT HST 
    clear hT6
    go_wp2_with fail
    go_region_held3 (fun W : World => W.cell? ⟨s.b, 1, none⟩ = some (.slice aT NT cT)) (first | assumption | (exact hST0) | go_keep) ((first
      | (go_at_call 32; refine (HLenT.out _ (by exact ⟨rfl, rfl, rfl, rfl⟩)).mono ?_; rintro e Z1 ⟨rfl, hZ1, hH1⟩)
      | (go_at_call 15; refine (HAllT.out _ _ hH1.out (by exact ⟨rfl, rfl, rfl, rfl⟩)).mono ?_; rintro e Z2 ⟨bxT, rfl, hZ2, hH2⟩)
      | (go_at_call 14; refine (HWalkT.out _ _ _ hH2.out.2 hH2.out.1 (by exact ⟨rfl, rfl, rfl, rfl⟩)).mono ?_; rintro e Z3 ⟨rfl, hZ3, hH3⟩)))
    all_goals go_wp2_with fail
    all_goals go_ret
    all_goals exact ⟨rfl, s, rfl, rfl, heqT.out, HTT.out.same hH3.out⟩
  · clear hb2 hx2 hrow2
    go_wp2_with fail
    obtain ⟨aT, cT, hvT, _, _⟩ := hT2.one.rf.row.form
    obtain ⟨NT, hNT⟩ : ∃ N, s.es.length = N := ⟨_, rfl⟩
    have hqT : s.ls.length = NT := by rw [← hNT]; exact congrArg List.length heqT.out
    rw [hqT] at hvT
    have HST : Hid (∀ Z, Keeps (fun _ => False) Y Z → (fun W : World => W.cell? ⟨s.b, 1, none⟩ = some (.slice aT NT cT)) Z) := fun Z hk => by
      have h1 : Z.cell? ⟨s.b, 1, none⟩ = some s.u := cell_of_block ((hT2.same hk).one.rf.box) 1
      rw [hvT] at h1; exact h1
    have HLenT : Hid (∀ W0, Like W0 Y → Calls Tryd.prog 32 #[.pointer (some ⟨s.r, 0, none⟩)] W0 fun e w' => e = .returned (.int .i64 NT) ∧ (fun W : World => W.cell? ⟨s.b, 1, none⟩ = some (.slice aT NT cT)) w' ∧ Hid (Keeps (fun _ => False) Y w')) := fun W0 hl => by
      have hk0 := hl.keeps (Keeps.refl (fun _ => False) Y)
      refine (reads_len s.r most _ _ W0 (hT2.same hk0).one.rd).mono ?_
      rintro e w' ⟨rfl, rfl⟩
      exact ⟨by rw [hNT], HST.out _ hk0, hk0⟩
    have HAllT : Hid (∀ Z W0, Keeps (fun _ => False) Y Z → Like W0 Z → Calls Tryd.prog 15 #[.pointer (some ⟨s.r, 0, none⟩)] W0 fun e w' => ∃ bx, e = .returned (.func (.func 58) #[] #[.pointer (some ⟨bx, 0, none⟩)]) ∧ (fun W : World => W.cell? ⟨s.b, 1, none⟩ = some (.slice aT NT cT)) w' ∧ Hid (w'.heap[bx]? = some (.cells #[.func (.func 42) #[.pointer (some ⟨s.r, 0, none⟩)] #[]] 69 (0, 0)) ∧ Keeps (fun _ => False) Y w')) := fun Z W0 hk hl => by
      have hk0 := hl.keeps hk
      refine (all_reads _ W0).mono ?_
      rintro e w' ⟨rfl, rfl⟩
      exact ⟨_, rfl, HST.out _ (hk0.alloc _), alloc_block _ _, hk0.alloc _⟩
    have HWalkT : Hid (∀ Z bx W0, Keeps (fun _ => False) Y Z → Z.heap[bx]? = some (.cells #[.func (.func 42) #[.pointer (some ⟨s.r, 0, none⟩)] #[]] 69 (0, 0)) → Like W0 Z → Calls Tryd.prog 14 #[.func (.func 58) #[] #[.pointer (some ⟨bx, 0, none⟩)], .slice aT NT cT, .int .i64 0] W0 fun e w' => e = .returned (.bool true) ∧ (fun W : World => W.cell? ⟨s.b, 1, none⟩ = some (.slice aT NT cT)) w' ∧ Hid (Keeps (fun _ => False) Y w')) := fun Z bx W0 hk hbx hl => by
      have hk0 := hl.keeps hk
      have hT0 := hT2.same hk0
      have hp0 : Pairs W0 (.slice aT NT cT) s.es := by rw [← hvT, ← heqT.out]; exact hT0.one.rf.row.pairs
      refine (lwalk bx 42 _ s.es (by have := hT0.one.rd.fit; have := hT0.one.rd.most20; omega) _ 0 (fun _ k => s.v.ownBlock = some k) (0, 0) W0 (enters_of Tryd.func42 (by kernel_rfl) rfl) (by rw [hl.heap]; exact hbx) hp0 (fun M k _ e => .inl (hT0.one.rd.ents.lt e)) (fun W hkW => handed_list ((hT0.same hkW).one.rd))).mono ?_
      rintro e w' ⟨rfl, h2⟩
      exact ⟨rfl, HST.out _ (hk0.trans h2), hk0.trans h2⟩
    have HTT : Hid (Two Fz w Y most s t) := hT2
    have hST0 := HST.out Y (Keeps.refl _ _)
    have hNl : NT ≤ 1048576 := by have := hT2.one.rd.fit; have := hT2.one.rd.most20; omega
    clear hvT hNT hqT HST 
    clear hT2
    go_wp2_with fail
    go_region_held3 (fun W : World => W.cell? ⟨s.b, 1, none⟩ = some (.slice aT NT cT)) (first | assumption | (exact hST0) | go_keep) ((first
      | (go_at_call 32; refine (HLenT.out _ (by exact ⟨rfl, rfl, rfl, rfl⟩)).mono ?_; rintro e Z1 ⟨rfl, hZ1, hH1⟩)
      | (go_at_call 15; refine (HAllT.out _ _ hH1.out (by exact ⟨rfl, rfl, rfl, rfl⟩)).mono ?_; rintro e Z2 ⟨bxT, rfl, hZ2, hH2⟩)
      | (go_at_call 14; refine (HWalkT.out _ _ _ hH2.out.2 hH2.out.1 (by exact ⟨rfl, rfl, rfl, rfl⟩)).mono ?_; rintro e Z3 ⟨rfl, hZ3, hH3⟩)))
    all_goals go_wp2_with fail
    all_goals go_ret
    all_goals exact ⟨rfl, s, rfl, rfl, heqT.out, HTT.out.same hH3.out⟩
end Go.Proofs.YtbgnlenhncbceaaDoor


/-
  One call of the law on a read log and on the document's. No statement of the seat is proved here.
-/
namespace Go.Proofs.YtbgnlenhncbceaaDoor
open Go.RowKit Go.Shelf
attribute [local go_sem] Oper.semAt_some

set_option maxRecDepth 100000 in
set_option maxHeartbeats 400000 in
theorem reads_cut_no (r most : Nat) (es : List (Int × Int)) (v : Value) (n : Int) (w : World) (h : ReadAt w r most es v) (hn : n < 0 ∨ (es.length : Int) < n) :
    Calls Tryd.prog 31 #[.pointer (some ⟨r, 0, none⟩), .int .i64 n] w fun e w' => e = .returned (.int .i64 2) ∧ w' = w := by
  have ht := reads_there r w h.c0
  obtain ⟨a, c, rfl, hc1, hc2⟩ := h.ents.form
  have c2 := h.c2
  clear h
  go_enter Tryd.func31, Tryd.ntmps31
  by_cases h0 : n < 0
  · clear hn
    go_wp2_with (first | (go_at_call 41; refine ht.mono ?_; rintro e w' ⟨rfl, hw'⟩; replace hw' := hw'.symm; subst hw'))
    go_ret
    exact ⟨rfl, rfl⟩
  · replace hn : (es.length : Int) < n := by omega
    go_wp2_with (first | (go_at_call 41; refine ht.mono ?_; rintro e w' ⟨rfl, hw'⟩; replace hw' := hw'.symm; subst hw'))
    go_ret
    exact ⟨rfl, rfl⟩

set_option maxRecDepth 100000 in
set_option maxHeartbeats 4000000 in
theorem reads_step_2 {Fz : Frm} (w X : World) (most : Nat) (s t : Side) (h : Two Fz w X most s t) (heq : s.ls = s.es) (kd on ad wd n : Int) (ac : Option Addr) (cc : Nat) (cs : List Int) (hk2 : kd = 2) :
    Calls Tryd.prog 13 #[.pointer (some ⟨s.r, 0, none⟩), .pointer (some ⟨s.b, 0, none⟩), .agg #[.int .i64 kd, .int .i64 on, .int .u64 ad, .int .u64 wd, .int .i64 n, .slice ac cs.length cc]] X fun e X' => e = .returned (.bool true) ∧ ∃ s', s'.r = s.r ∧ s'.b = s.b ∧ s'.ls = s'.es ∧ Two Fz w X' most s' t := by
  subst hk2
  have hT0 := h.same ((Keeps.refl (fun _ => False) X).alloc (.cells #[.int .i64 2, .int .i64 on, .int .u64 ad, .int .u64 wd, .int .i64 n, .slice ac cs.length cc] 41))
  have hb0 := alloc_block X (.cells #[.int .i64 2, .int .i64 on, .int .u64 ad, .int .u64 wd, .int .i64 n, .slice ac cs.length cc] 41)
  obtain ⟨vw, X1, HR, hrow1, hnew1, hk1⟩ := app_empty s.u s.ls _ hT0.one.rf.row (by rw [heq]; have := h.one.rd.fit; have := h.one.rd.most20; omega)
  have hT1 := hT0.same hk1
  have hb1 := hk1.old hb0 (fun f => f)
  have hT2 := hT1.same ((Keeps.refl (fun _ => False) X1).alloc (.cells #[.func (.func 42) #[.pointer (some ⟨s.r, 0, none⟩)] #[]] 69 (0, 0)))
  have hb2 := alloc_old hb1 (.cells #[.func (.func 42) #[.pointer (some ⟨s.r, 0, none⟩)] #[]] 69 (0, 0))
  have hx2 := alloc_block X1 (.cells #[.func (.func 42) #[.pointer (some ⟨s.r, 0, none⟩)] #[]] 69 (0, 0))
  have hrow2 := hrow1.kept ((Keeps.refl (fun _ => False) X1).alloc (.cells #[.func (.func 42) #[.pointer (some ⟨s.r, 0, none⟩)] #[]] 69 (0, 0))) (fun _ _ f => f)
  obtain ⟨al, cl, hu, _, _⟩ := h.one.rf.row.form
  have c0 : X.cell? ⟨s.b, 1, none⟩ = some (.slice al s.ls.length cl) := by rw [← hu]; exact cell_of_block h.one.rf.box 1
  have hbl := lt_of_block h.one.rf.box
  have hwX := h.kp.size
  rw [hu] at HR
  simp only [World.size_alloc] at HR
  have heqT : Hid (s.ls = s.es) := heq
  clear heq h hT0 hb0 hT1 hb1 hrow1 hk1 hnew1
  go_enter Tryd.func13, Tryd.ntmps13
  go_wp2_with (at_builtin; refine wpList_append_run rfl _ _ 29 rfl rfl rfl HR.out ?_; clear HR)
  refine (all_reads _ X1).mono ?_
  rintro e Y ⟨rfl, hY⟩
  rw [← hY] at hT2 hb2 hx2 hrow2
  obtain ⟨B, hB⟩ : ∃ B, X.heap.size = B := ⟨_, rfl⟩
  obtain ⟨bx, hbx⟩ : ∃ B, X1.heap.size = B := ⟨_, rfl⟩
  rw [hB] at hb2 ⊢
  rw [hbx] at hx2 ⊢
  have HBN : Hid (w.heap.size ≤ B) := by unfold Hid; omega
  clear hY hB hbx c0 hu
  have x0 : Y.cell? ⟨B, 0, none⟩ = some (.int .i64 2) := cell_of_block hb2 0
  obtain ⟨aF, cF, hvF, hcF, _⟩ := hT2.one.rf.row.form
  obtain ⟨NF, hNF⟩ : ∃ N, s.es.length = N := ⟨_, rfl⟩
  have hNl2 : s.ls.length = NF := by rw [heqT.out]; exact hNF
  rw [hNl2] at hvF hcF
  have x4 : Y.cell? ⟨B, 4, none⟩ = some (.int .i64 n) := cell_of_block hb2 4
  have xu : Y.cell? ⟨s.b, 1, none⟩ = some (.slice aF NF cF) := by
    have h1 : Y.cell? ⟨s.b, 1, none⟩ = some s.u := cell_of_block hT2.one.rf.box 1
    rw [hvF] at h1; exact h1
  have hBr : B ≠ s.r := fun e => by
    have h1 := hb2
    rw [e] at h1
    exact absurd (kind_ne h1 hT2.one.rd.box) (by decide)
  have hBb : B ≠ s.b := fun e => by
    have h1 := hb2
    rw [e] at h1
    exact absurd (kind_ne h1 hT2.one.rf.box) (by decide)
  by_cases hout : n < 0 ∨ (s.es.length : Int) < n
  · have hCut := reads_cut_no s.r most s.es s.v n Y hT2.one.rd hout
    rw [hNF] at hout
    have HT2 : Hid (Two Fz w Y most s t) := hT2
    clear hvF hNl2 hNF hb2 hx2 hrow2 hT2 hBr hBb hcF
    by_cases hneg : n < 0
    · clear hout
      go_wp2_with (go_at_call 31; refine hCut.mono ?_; rintro e w' ⟨rfl, hw'⟩; replace hw' := hw'.symm; subst hw')
      clear hCut
      go_quiet (fail)
      obtain ⟨Y3, hY3⟩ : ∃ Z, Z = Y.drewN nq := ⟨_, rfl⟩
      have hl3 : Like Y3 Y := by rw [hY3]; exact like_drewN _ _
      rw [← hY3]
      have hT6 := HT2.out.same (hl3.keeps (Keeps.refl _ _))
      clear hY3 hl3 HT2 x4 xu
      go_wp2_with (go_at_call 8; refine (num_any _ _).mono ?_; rintro e w' ⟨rfl, hw'⟩; replace hw' := hw'.symm; subst hw')
      obtain ⟨aT, cT, hvT, _, _⟩ := hT6.one.rf.row.form
      obtain ⟨NT, hNT⟩ : ∃ N, s.es.length = N := ⟨_, rfl⟩
      have hqT : s.ls.length = NT := by rw [← hNT]; exact congrArg List.length heqT.out
      rw [hqT] at hvT
      have HST : Hid (∀ Z, Keeps (fun _ => False) Y3 Z → (fun W : World => W.cell? ⟨s.b, 1, none⟩ = some (.slice aT NT cT)) Z) := fun Z hk => by
        have h1 : Z.cell? ⟨s.b, 1, none⟩ = some s.u := cell_of_block ((hT6.same hk).one.rf.box) 1
        rw [hvT] at h1; exact h1
      have HLenT : Hid (∀ W0, Like W0 Y3 → Calls Tryd.prog 32 #[.pointer (some ⟨s.r, 0, none⟩)] W0 fun e w' => e = .returned (.int .i64 NT) ∧ (fun W : World => W.cell? ⟨s.b, 1, none⟩ = some (.slice aT NT cT)) w' ∧ Hid (Keeps (fun _ => False) Y3 w')) := fun W0 hl => by
        have hk0 := hl.keeps (Keeps.refl (fun _ => False) Y3)
        refine (reads_len s.r most _ _ W0 (hT6.same hk0).one.rd).mono ?_
        rintro e w' ⟨rfl, rfl⟩
        exact ⟨by rw [hNT], HST.out _ hk0, hk0⟩
      have HAllT : Hid (∀ Z W0, Keeps (fun _ => False) Y3 Z → Like W0 Z → Calls Tryd.prog 15 #[.pointer (some ⟨s.r, 0, none⟩)] W0 fun e w' => ∃ bx, e = .returned (.func (.func 58) #[] #[.pointer (some ⟨bx, 0, none⟩)]) ∧ (fun W : World => W.cell? ⟨s.b, 1, none⟩ = some (.slice aT NT cT)) w' ∧ Hid (w'.heap[bx]? = some (.cells #[.func (.func 42) #[.pointer (some ⟨s.r, 0, none⟩)] #[]] 69 (0, 0)) ∧ Keeps (fun _ => False) Y3 w')) := fun Z W0 hk hl => by
        have hk0 := hl.keeps hk
        refine (all_reads _ W0).mono ?_
        rintro e w' ⟨rfl, rfl⟩
        exact ⟨_, rfl, HST.out _ (hk0.alloc _), alloc_block _ _, hk0.alloc _⟩
      have HWalkT : Hid (∀ Z bx W0, Keeps (fun _ => False) Y3 Z → Z.heap[bx]? = some (.cells #[.func (.func 42) #[.pointer (some ⟨s.r, 0, none⟩)] #[]] 69 (0, 0)) → Like W0 Z → Calls Tryd.prog 14 #[.func (.func 58) #[] #[.pointer (some ⟨bx, 0, none⟩)], .slice aT NT cT, .int .i64 0] W0 fun e w' => e = .returned (.bool true) ∧ (fun W : World => W.cell? ⟨s.b, 1, none⟩ = some (.slice aT NT cT)) w' ∧ Hid (Keeps (fun _ => False) Y3 w')) := fun Z bx W0 hk hbx hl => by
        have hk0 := hl.keeps hk
        have hT0 := hT6.same hk0
        have hp0 : Pairs W0 (.slice aT NT cT) s.es := by rw [← hvT, ← heqT.out]; exact hT0.one.rf.row.pairs
        refine (lwalk bx 42 _ s.es (by have := hT0.one.rd.fit; have := hT0.one.rd.most20; omega) _ 0 (fun _ k => s.v.ownBlock = some k) (0, 0) W0 (enters_of Tryd.func42 (by kernel_rfl) rfl) (by rw [hl.heap]; exact hbx) hp0 (fun M k _ e => .inl (hT0.one.rd.ents.lt e)) (fun W hkW => handed_list ((hT0.same hkW).one.rd))).mono ?_
        rintro e w' ⟨rfl, h2⟩
        exact ⟨rfl, HST.out _ (hk0.trans h2), hk0.trans h2⟩
      have HTT : Hid (Two Fz w Y3 most s t) := hT6
      have hST0 := HST.out Y3 (Keeps.refl _ _)
      have hNl : NT ≤ 1048576 := by have := hT6.one.rd.fit; have := hT6.one.rd.most20; omega
      clear hvT hNT hqT HST 
      clear hT6
      go_wp2_with fail
      go_region_held3 (fun W : World => W.cell? ⟨s.b, 1, none⟩ = some (.slice aT NT cT)) (first | assumption | (exact hST0) | go_keep) ((first
        | (go_at_call 32; refine (HLenT.out _ (by exact ⟨rfl, rfl, rfl, rfl⟩)).mono ?_; rintro e Z1 ⟨rfl, hZ1, hH1⟩)
        | (go_at_call 15; refine (HAllT.out _ _ hH1.out (by exact ⟨rfl, rfl, rfl, rfl⟩)).mono ?_; rintro e Z2 ⟨bxT, rfl, hZ2, hH2⟩)
        | (go_at_call 14; refine (HWalkT.out _ _ _ hH2.out.2 hH2.out.1 (by exact ⟨rfl, rfl, rfl, rfl⟩)).mono ?_; rintro e Z3 ⟨rfl, hZ3, hH3⟩)))
      all_goals go_wp2_with fail
      all_goals go_ret
      all_goals exact ⟨rfl, s, rfl, rfl, heqT.out, HTT.out.same hH3.out⟩
    · replace hout : (NF : Int) < n := by omega
      have hga : decide (n < 0) = false := by simp; omega
      go_wp2_with (go_at_call 31; refine hCut.mono ?_; rintro e w' ⟨rfl, hw'⟩; replace hw' := hw'.symm; subst hw')
      clear hCut
      go_quiet (fail)
      obtain ⟨Y3, hY3⟩ : ∃ Z, Z = Y.drewN nq := ⟨_, rfl⟩
      have hl3 : Like Y3 Y := by rw [hY3]; exact like_drewN _ _
      rw [← hY3]
      have hT6 := HT2.out.same (hl3.keeps (Keeps.refl _ _))
      clear hY3 hl3 HT2 x4 xu
      go_wp2_with (go_at_call 8; refine (num_any _ _).mono ?_; rintro e w' ⟨rfl, hw'⟩; replace hw' := hw'.symm; subst hw')
      obtain ⟨aT, cT, hvT, _, _⟩ := hT6.one.rf.row.form
      obtain ⟨NT, hNT⟩ : ∃ N, s.es.length = N := ⟨_, rfl⟩
      have hqT : s.ls.length = NT := by rw [← hNT]; exact congrArg List.length heqT.out
      rw [hqT] at hvT
      have HST : Hid (∀ Z, Keeps (fun _ => False) Y3 Z → (fun W : World => W.cell? ⟨s.b, 1, none⟩ = some (.slice aT NT cT)) Z) := fun Z hk => by
        have h1 : Z.cell? ⟨s.b, 1, none⟩ = some s.u := cell_of_block ((hT6.same hk).one.rf.box) 1
        rw [hvT] at h1; exact h1
      have HLenT : Hid (∀ W0, Like W0 Y3 → Calls Tryd.prog 32 #[.pointer (some ⟨s.r, 0, none⟩)] W0 fun e w' => e = .returned (.int .i64 NT) ∧ (fun W : World => W.cell? ⟨s.b, 1, none⟩ = some (.slice aT NT cT)) w' ∧ Hid (Keeps (fun _ => False) Y3 w')) := fun W0 hl => by
        have hk0 := hl.keeps (Keeps.refl (fun _ => False) Y3)
        refine (reads_len s.r most _ _ W0 (hT6.same hk0).one.rd).mono ?_
        rintro e w' ⟨rfl, rfl⟩
        exact ⟨by rw [hNT], HST.out _ hk0, hk0⟩
      have HAllT : Hid (∀ Z W0, Keeps (fun _ => False) Y3 Z → Like W0 Z → Calls Tryd.prog 15 #[.pointer (some ⟨s.r, 0, none⟩)] W0 fun e w' => ∃ bx, e = .returned (.func (.func 58) #[] #[.pointer (some ⟨bx, 0, none⟩)]) ∧ (fun W : World => W.cell? ⟨s.b, 1, none⟩ = some (.slice aT NT cT)) w' ∧ Hid (w'.heap[bx]? = some (.cells #[.func (.func 42) #[.pointer (some ⟨s.r, 0, none⟩)] #[]] 69 (0, 0)) ∧ Keeps (fun _ => False) Y3 w')) := fun Z W0 hk hl => by
        have hk0 := hl.keeps hk
        refine (all_reads _ W0).mono ?_
        rintro e w' ⟨rfl, rfl⟩
        exact ⟨_, rfl, HST.out _ (hk0.alloc _), alloc_block _ _, hk0.alloc _⟩
      have HWalkT : Hid (∀ Z bx W0, Keeps (fun _ => False) Y3 Z → Z.heap[bx]? = some (.cells #[.func (.func 42) #[.pointer (some ⟨s.r, 0, none⟩)] #[]] 69 (0, 0)) → Like W0 Z → Calls Tryd.prog 14 #[.func (.func 58) #[] #[.pointer (some ⟨bx, 0, none⟩)], .slice aT NT cT, .int .i64 0] W0 fun e w' => e = .returned (.bool true) ∧ (fun W : World => W.cell? ⟨s.b, 1, none⟩ = some (.slice aT NT cT)) w' ∧ Hid (Keeps (fun _ => False) Y3 w')) := fun Z bx W0 hk hbx hl => by
        have hk0 := hl.keeps hk
        have hT0 := hT6.same hk0
        have hp0 : Pairs W0 (.slice aT NT cT) s.es := by rw [← hvT, ← heqT.out]; exact hT0.one.rf.row.pairs
        refine (lwalk bx 42 _ s.es (by have := hT0.one.rd.fit; have := hT0.one.rd.most20; omega) _ 0 (fun _ k => s.v.ownBlock = some k) (0, 0) W0 (enters_of Tryd.func42 (by kernel_rfl) rfl) (by rw [hl.heap]; exact hbx) hp0 (fun M k _ e => .inl (hT0.one.rd.ents.lt e)) (fun W hkW => handed_list ((hT0.same hkW).one.rd))).mono ?_
        rintro e w' ⟨rfl, h2⟩
        exact ⟨rfl, HST.out _ (hk0.trans h2), hk0.trans h2⟩
      have HTT : Hid (Two Fz w Y3 most s t) := hT6
      have hST0 := HST.out Y3 (Keeps.refl _ _)
      have hNl : NT ≤ 1048576 := by have := hT6.one.rd.fit; have := hT6.one.rd.most20; omega
      clear hvT hNT hqT HST 
      clear hT6
      go_wp2_with fail
      go_region_held3 (fun W : World => W.cell? ⟨s.b, 1, none⟩ = some (.slice aT NT cT)) (first | assumption | (exact hST0) | go_keep) ((first
        | (go_at_call 32; refine (HLenT.out _ (by exact ⟨rfl, rfl, rfl, rfl⟩)).mono ?_; rintro e Z1 ⟨rfl, hZ1, hH1⟩)
        | (go_at_call 15; refine (HAllT.out _ _ hH1.out (by exact ⟨rfl, rfl, rfl, rfl⟩)).mono ?_; rintro e Z2 ⟨bxT, rfl, hZ2, hH2⟩)
        | (go_at_call 14; refine (HWalkT.out _ _ _ hH2.out.2 hH2.out.1 (by exact ⟨rfl, rfl, rfl, rfl⟩)).mono ?_; rintro e Z3 ⟨rfl, hZ3, hH3⟩)))
      all_goals go_wp2_with fail
      all_goals go_ret
      all_goals exact ⟨rfl, s, rfl, rfl, heqT.out, HTT.out.same hH3.out⟩
  · obtain ⟨m, rfl⟩ : ∃ m : Nat, n = m := ⟨n.toNat, by omega⟩
    have hm : m ≤ s.es.length := by omega
    have hCut := reads_cut s.r most s.es s.v m Y hT2.one.rd hm
    have hmN : m ≤ NF := by omega
    have hmN2 : ¬ (NF : Int) < (m : Int) := by omega
    have hmN3 : decide ((NF : Int) < (m : Int)) = false := by simp; omega
    have hm0 : ¬ (m : Int) < 0 := by omega
    have hmx : Tryd.prog.follows .mixedOrders = true := by kernel_rfl
    have HT2 : Hid (Two Fz w Y most s t ∧ Y.heap[B]? = some (.cells #[.int .i64 2, .int .i64 on, .int .u64 ad, .int .u64 wd, .int .i64 m, .slice ac cs.length cc] 41) ∧ B ≠ s.r ∧ B ≠ s.b ∧ s.u = .slice aF NF cF ∧ m ≤ s.es.length ∧ NF ≤ cF ∧ s.es.length = NF) := ⟨hT2, hb2, hBr, hBb, hvF, hm, hcF, hNF⟩
    clear hvF hNl2 hNF hb2 hx2 hrow2 hT2 hBr hBb hcF hout hm
    go_wp2_with fail
    refine hCut.mono ?_
    rintro e Y1 ⟨rfl, a, c, hv, hr1, hk1⟩
    obtain ⟨hT2, hb2, hBr, hBb, hvF, hm, hcF, hNF⟩ := HT2.out
    have hT5 := hT2.cut hv hm hr1 hk1
    have hb5 := hk1.old hb2 hBr
    have y4 : Y1.cell? ⟨B, 4, none⟩ = some (.int .i64 m) := cell_of_block hb5 4
    have yu : Y1.cell? ⟨s.b, 1, none⟩ = some (.slice aF NF cF) := by
      have h1 : Y1.cell? ⟨s.b, 1, none⟩ = some s.u := cell_of_block hT5.one.rf.box 1
      rw [hvF] at h1; exact h1
    have HT5 : Hid (Two Fz w Y1 most { s with es := s.es.take m, v := .slice a m m } t ∧ Y1.heap[B]? = some (.cells #[.int .i64 2, .int .i64 on, .int .u64 ad, .int .u64 wd, .int .i64 m, .slice ac cs.length cc] 41)) := ⟨hT5, hb5⟩
    clear hCut hT2 hb2 hBr hBb hvF hm hcF hNF hT5 hb5 hv hr1 hk1 x4 xu x0
    go_wp2_with fail
    go_quiet (fail)
    obtain ⟨Y3, hY3⟩ : ∃ Z, Z = Y1.drewN nq := ⟨_, rfl⟩
    have hl3 : Like Y3 Y1 := by rw [hY3]; exact like_drewN _ _
    rw [← hY3]
    clear hY3
    have hcl3 : ∀ q : Addr, Y3.drew.cell? q = Y1.cell? q := fun q => World.cell?_of_block (by show Y3.heap[q.block]? = _; rw [hl3.heap])
    have y4' := (hcl3 _).trans y4
    have yu' := (hcl3 _).trans yu
    have hfz : Y3.drew.frozen? ⟨s.b, 1, none⟩ = false := by
      have h1 : Y3.drew.heap[s.b]? = some (.cells #[.int .i64 most, s.u] 36 (0, 0)) := by show Y3.heap[s.b]? = _; rw [hl3.heap]; exact HT5.out.1.one.rf.box
      exact frozen_of_block h1 1
    have HK : Hid (Keeps (fun _ => False) Y1 Y3.drew) := ⟨hl3.os, hl3.tape, hl3.output, by show _ ≤ Y3.heap.size; rw [hl3.heap]; exact Nat.le_refl _, fun i _ _ => by show Y3.heap[i]? = _; rw [hl3.heap]⟩
    have hS3 : (Y3.drew.setCell ⟨s.b, 1, none⟩ (.slice aF m m)).cell? ⟨B, 4, none⟩ = some (.int .i64 m) := (World.cell?_setCell_far Y3.drew ⟨s.b, 1, none⟩ ⟨B, 4, none⟩ _ (fun e => HT2.out.2.2.2.1 e.symm)).trans y4'
    have hsh := run_shut Y3.drew aF NF cF m (by have := HT2.out.2.2.2.2.2.2.1; omega)
    clear y4 yu hcl3 hl3
    go_wp2_with (go_at_call 8; refine (num_any _ _).mono ?_; rintro e w' ⟨rfl, hw'⟩; replace hw' := hw'.symm; subst hw')
    refine wp_held_end (S := fun W => W.cell? ⟨B, 4, none⟩ = some (.int .i64 m)) 13 rfl hmx ?_
    refine held_take (i := 0) (v := .pointer (some ⟨s.b, 0, none⟩)) 69 rfl rfl (by kernel_rfl) (by kernel_rfl) (by kernel_rfl) rfl (fun w' hw' => by go_simp) y4' ?_
    simp only [Act.put, List.setIfInBounds_toArray, List.set_cons_zero, List.set_cons_succ]
    refine held_take (i := 1) (v := .pointer (some ⟨s.b, 0, none⟩)) 70 rfl rfl (by kernel_rfl) (by kernel_rfl) (by kernel_rfl) rfl (fun w' hw' => by go_simp) y4' ?_
    simp only [Act.put, List.setIfInBounds_toArray, List.set_cons_zero, List.set_cons_succ]
    refine held_take (i := 2) (v := .pointer (some ⟨s.b, 0, none⟩)) 71 rfl rfl (by kernel_rfl) (by kernel_rfl) (by kernel_rfl) rfl (fun w' hw' => by go_simp) y4' ?_
    simp only [Act.put, List.setIfInBounds_toArray, List.set_cons_zero, List.set_cons_succ]
    refine held_take (i := 3) (v := .pointer (some ⟨s.b, 1, none⟩)) 72 rfl rfl (by kernel_rfl) (by kernel_rfl) (by kernel_rfl) rfl (fun w' hw' => by go_simp) y4' ?_
    simp only [Act.put, List.setIfInBounds_toArray, List.set_cons_zero, List.set_cons_succ]
    refine held_take (i := 5) (v := .pointer (some ⟨B, 4, none⟩)) 74 rfl rfl (by kernel_rfl) (by kernel_rfl) (by kernel_rfl) rfl (fun w' hw' => by go_simp) y4' ?_
    simp only [Act.put, List.setIfInBounds_toArray, List.set_cons_zero, List.set_cons_succ]
    refine held_take (i := 6) (v := .int .i64 m) 75 rfl rfl (by kernel_rfl) (by kernel_rfl) (by kernel_rfl) rfl (fun w' hw' => by go_simp) y4' ?_
    simp only [Act.put, List.setIfInBounds_toArray, List.set_cons_zero, List.set_cons_succ]
    refine held_take (i := 7) (v := .pointer (some ⟨B, 4, none⟩)) 76 rfl rfl (by kernel_rfl) (by kernel_rfl) (by kernel_rfl) rfl (fun w' hw' => by go_simp) y4' ?_
    simp only [Act.put, List.setIfInBounds_toArray, List.set_cons_zero, List.set_cons_succ]
    refine held_take (i := 8) (v := .int .i64 m) 77 rfl rfl (by kernel_rfl) (by kernel_rfl) (by kernel_rfl) rfl (fun w' hw' => by go_simp) y4' ?_
    simp only [Act.put, List.setIfInBounds_toArray, List.set_cons_zero, List.set_cons_succ]
    refine held_val (i := 4) (v := .slice aF NF cF) (w' := Y3.drew) (some 73) (by kernel_rfl) rfl rfl rfl (by go_simp) y4' ?_
    simp only [Act.put, List.setIfInBounds_toArray, List.set_cons_zero, List.set_cons_succ]
    refine held_val (i := 9) (v := .slice aF m m) (w' := Y3.drew) (some 78) (by kernel_rfl) rfl rfl rfl (by go_simp) y4' ?_
    simp only [Act.put, List.setIfInBounds_toArray, List.set_cons_zero, List.set_cons_succ]
    refine held_take (i := 10) (v := .pointer (some ⟨s.b, 0, none⟩)) 79 rfl rfl (by kernel_rfl) (by kernel_rfl) (by kernel_rfl) rfl (fun w' hw' => by go_simp) y4' ?_
    simp only [Act.put, List.setIfInBounds_toArray, List.set_cons_zero, List.set_cons_succ]
    refine held_take (i := 11) (v := .pointer (some ⟨s.b, 1, none⟩)) 80 rfl rfl (by kernel_rfl) (by kernel_rfl) (by kernel_rfl) rfl (fun w' hw' => by go_simp) y4' ?_
    simp only [Act.put, List.setIfInBounds_toArray, List.set_cons_zero, List.set_cons_succ]
    refine held_none (i := 12) (w' := Y3.drew.setCell ⟨s.b, 1, none⟩ (.slice aF m m)) (by kernel_rfl) rfl rfl rfl (by go_simp) hS3 ?_
    refine held_end (by kernel_rfl) ?_ _
    have hT6 : Two Fz w (Y3.drew.setCell ⟨s.b, 1, none⟩ (.slice aF m m)) most ({ s with es := s.es.take m, v := .slice a m m, ls := s.es.take m, u := .slice aF m m } : Side) t := by
      obtain ⟨hTa, hTb⟩ := HT5.out
      obtain ⟨_, _, _, _, hvF, hm, hcF, hNF⟩ := HT2.out
      have hTc := hTa.same HK.out
      have hks : Keeps (fun k => k = s.b ∨ s.u.ownBlock = some k) Y3.drew (Y3.drew.setCell ⟨s.b, 1, none⟩ (.slice aF m m)) := (Keeps.refl (fun k => k = s.b ∨ s.u.ownBlock = some k) Y3.drew).setCell (p := ⟨s.b, 1, none⟩) (.inr (.inl rfl)) _
      have hks2 : Keeps (fun k => k = s.b) Y3.drew (Y3.drew.setCell ⟨s.b, 1, none⟩ (.slice aF m m)) := (Keeps.refl (fun k => k = s.b) Y3.drew).setCell (p := ⟨s.b, 1, none⟩) (.inr rfl) _
      have hob : (Value.slice aF m m).ownBlock = s.u.ownBlock := by rw [hvF]; cases aF <;> rfl
      have hlt : (s.es.take m).length = m := by rw [List.length_take]; omega
      have hlL : s.ls.length = NF := by rw [heqT.out]; exact hNF
      have hrow : Row Y3.drew 72 2 s.u s.ls.length (entV s.ls) := hTc.one.rf.row
      have hcut := hrow.cut (m := m) (c := m) (by omega) aF cF (by rw [hlL]; exact hvF) ⟨Nat.le_refl _, by omega⟩
      rw [entV_take, heqT.out] at hcut
      have hRef : RefAt (Y3.drew.setCell ⟨s.b, 1, none⟩ (.slice aF m m)) s.b most (s.es.take m) (.slice aF m m) :=
        ⟨block_set hTc.one.rf.box 1 _, by rw [hlt]; exact hcut.kept hks2 (fun q hq e => hTc.one.rf.ner (by show s.u.ownBlock = some s.b; rw [← hob, hq, e]))⟩
      exact hTc.ref (fun e he => hTc.one.pe e he) hRef hks (fun g hg => .inl (by rw [← hob]; exact hg))
    clear HT2 HT5 HK hS3 hsh hfz y4' yu'
    generalize Y3.drew.setCell ⟨s.b, 1, none⟩ (.slice aF m m) = Y6 at hT6 ⊢
    go_wp2_with fail
    obtain ⟨aT, cT, hvT, _, _⟩ := hT6.one.rf.row.form
    obtain ⟨NT, hNT⟩ : ∃ N, ({ s with es := s.es.take m, v := .slice a m m, ls := s.es.take m, u := .slice aF m m } : Side).es.length = N := ⟨_, rfl⟩
    have hqT : ({ s with es := s.es.take m, v := .slice a m m, ls := s.es.take m, u := .slice aF m m } : Side).ls.length = NT := hNT
    rw [hqT] at hvT
    have HST : Hid (∀ Z, Keeps (fun _ => False) Y6 Z → (fun W : World => W.cell? ⟨s.b, 1, none⟩ = some (.slice aT NT cT)) Z) := fun Z hk => by
      have h1 : Z.cell? ⟨s.b, 1, none⟩ = some ({ s with es := s.es.take m, v := .slice a m m, ls := s.es.take m, u := .slice aF m m } : Side).u := cell_of_block ((hT6.same hk).one.rf.box) 1
      rw [hvT] at h1; exact h1
    have HLenT : Hid (∀ W0, Like W0 Y6 → Calls Tryd.prog 32 #[.pointer (some ⟨s.r, 0, none⟩)] W0 fun e w' => e = .returned (.int .i64 NT) ∧ (fun W : World => W.cell? ⟨s.b, 1, none⟩ = some (.slice aT NT cT)) w' ∧ Hid (Keeps (fun _ => False) Y6 w')) := fun W0 hl => by
      have hk0 := hl.keeps (Keeps.refl (fun _ => False) Y6)
      refine (reads_len s.r most _ _ W0 (hT6.same hk0).one.rd).mono ?_
      rintro e w' ⟨rfl, rfl⟩
      exact ⟨by rw [hNT], HST.out _ hk0, hk0⟩
    have HAllT : Hid (∀ Z W0, Keeps (fun _ => False) Y6 Z → Like W0 Z → Calls Tryd.prog 15 #[.pointer (some ⟨s.r, 0, none⟩)] W0 fun e w' => ∃ bx, e = .returned (.func (.func 58) #[] #[.pointer (some ⟨bx, 0, none⟩)]) ∧ (fun W : World => W.cell? ⟨s.b, 1, none⟩ = some (.slice aT NT cT)) w' ∧ Hid (w'.heap[bx]? = some (.cells #[.func (.func 42) #[.pointer (some ⟨s.r, 0, none⟩)] #[]] 69 (0, 0)) ∧ Keeps (fun _ => False) Y6 w')) := fun Z W0 hk hl => by
      have hk0 := hl.keeps hk
      refine (all_reads _ W0).mono ?_
      rintro e w' ⟨rfl, rfl⟩
      exact ⟨_, rfl, HST.out _ (hk0.alloc _), alloc_block _ _, hk0.alloc _⟩
    have HWalkT : Hid (∀ Z bx W0, Keeps (fun _ => False) Y6 Z → Z.heap[bx]? = some (.cells #[.func (.func 42) #[.pointer (some ⟨s.r, 0, none⟩)] #[]] 69 (0, 0)) → Like W0 Z → Calls Tryd.prog 14 #[.func (.func 58) #[] #[.pointer (some ⟨bx, 0, none⟩)], .slice aT NT cT, .int .i64 0] W0 fun e w' => e = .returned (.bool true) ∧ (fun W : World => W.cell? ⟨s.b, 1, none⟩ = some (.slice aT NT cT)) w' ∧ Hid (Keeps (fun _ => False) Y6 w')) := fun Z bx W0 hk hbx hl => by
      have hk0 := hl.keeps hk
      have hT0 := hT6.same hk0
      have hp0 : Pairs W0 (.slice aT NT cT) ({ s with es := s.es.take m, v := .slice a m m, ls := s.es.take m, u := .slice aF m m } : Side).es := by rw [← hvT]; exact hT0.one.rf.row.pairs
      refine (lwalk bx 42 _ ({ s with es := s.es.take m, v := .slice a m m, ls := s.es.take m, u := .slice aF m m } : Side).es (by have := hT0.one.rd.fit; have := hT0.one.rd.most20; omega) _ 0 (fun _ k => ({ s with es := s.es.take m, v := .slice a m m, ls := s.es.take m, u := .slice aF m m } : Side).v.ownBlock = some k) (0, 0) W0 (enters_of Tryd.func42 (by kernel_rfl) rfl) (by rw [hl.heap]; exact hbx) hp0 (fun M k _ e => .inl (hT0.one.rd.ents.lt e)) (fun W hkW => handed_list ((hT0.same hkW).one.rd))).mono ?_
      rintro e w' ⟨rfl, h2⟩
      exact ⟨rfl, HST.out _ (hk0.trans h2), hk0.trans h2⟩
    have HTT : Hid (Two Fz w Y6 most ({ s with es := s.es.take m, v := .slice a m m, ls := s.es.take m, u := .slice aF m m } : Side) t) := hT6
    have hST0 := HST.out Y6 (Keeps.refl _ _)
    have hNl : NT ≤ 1048576 := by have := hT6.one.rd.fit; have := hT6.one.rd.most20; omega
    clear hvT hNT hqT HST 
    clear hT6
    go_wp2_with fail
    go_region_held3 (fun W : World => W.cell? ⟨s.b, 1, none⟩ = some (.slice aT NT cT)) (first | assumption | (exact hST0) | go_keep) ((first
      | (go_at_call 32; refine (HLenT.out _ (by exact ⟨rfl, rfl, rfl, rfl⟩)).mono ?_; rintro e Z1 ⟨rfl, hZ1, hH1⟩)
      | (go_at_call 15; refine (HAllT.out _ _ hH1.out (by exact ⟨rfl, rfl, rfl, rfl⟩)).mono ?_; rintro e Z2 ⟨bxT, rfl, hZ2, hH2⟩)
      | (go_at_call 14; refine (HWalkT.out _ _ _ hH2.out.2 hH2.out.1 (by exact ⟨rfl, rfl, rfl, rfl⟩)).mono ?_; rintro e Z3 ⟨rfl, hZ3, hH3⟩)))
    all_goals go_wp2_with fail
    all_goals go_ret
    all_goals exact ⟨rfl, ({ s with es := s.es.take m, v := .slice a m m, ls := s.es.take m, u := .slice aF m m } : Side), rfl, rfl, rfl, HTT.out.same hH3.out⟩

end Go.Proofs.YtbgnlenhncbceaaDoor


/-
  One call of the law on a read log and on the document's, whatever its kind. No statement of the seat is proved here.
-/
namespace Go.Proofs.YtbgnlenhncbceaaDoor
open Go.RowKit Go.Shelf

theorem reads_step {Fz : Frm} (w X : World) (most : Nat) (s t : Side) (h : Two Fz w X most s t) (heq : s.ls = s.es) (kd on ad wd n : Int) (ac : Option Addr) (cc : Nat) (cs : List Int) (hc : Reads w (.slice ac cs.length cc) cs) (had : 0 ≤ ad) (hcb : cs.length * 8 ≤ 140737488351232) :
    Calls Tryd.prog 13 #[.pointer (some ⟨s.r, 0, none⟩), .pointer (some ⟨s.b, 0, none⟩), .agg #[.int .i64 kd, .int .i64 on, .int .u64 ad, .int .u64 wd, .int .i64 n, .slice ac cs.length cc]] X fun e X' => e = .returned (.bool true) ∧ ∃ s', s'.r = s.r ∧ s'.b = s.b ∧ s'.ls = s'.es ∧ Two Fz w X' most s' t := by
  by_cases hk2 : kd = 2
  · exact reads_step_2 w X most s t h heq kd on ad wd n ac cc cs hk2
  · exact reads_step_but2 w X most s t h heq kd on ad wd n ac cc cs hc had hcb hk2
end Go.Proofs.YtbgnlenhncbceaaDoor
