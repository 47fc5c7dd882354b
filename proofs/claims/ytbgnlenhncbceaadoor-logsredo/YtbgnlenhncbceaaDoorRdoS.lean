
/-
  One call of the law on a redo log and on the document's. No statement of the seat is proved here.
-/
import Derived.Test.YtbgnlenhncbceaaDoorRdoM
namespace Go.Proofs.YtbgnlenhncbceaaDoor
open Go.RowKit Go.Shelf
attribute [local go_sem] Oper.semAt_some

set_option maxRecDepth 100000 in
set_option maxHeartbeats 8000000 in
theorem redo_step (X : World) (r b most : Nat) (L : List (Int × Int)) (Ow Of : Nat → Prop) (h : Pr X r b most L Ow Of) (hL : L.length + 1 < 4398046511104) (kd on ad wd n : Int) (ac : Option Addr) (nc cc : Nat) (had : 0 ≤ ad) :
    Calls Tryd.prog 24 #[.pointer (some ⟨r, 0, none⟩), .pointer (some ⟨b, 0, none⟩), .agg #[.int .i64 kd, .int .i64 on, .int .u64 ad, .int .u64 wd, .int .i64 n, .slice ac nc cc]] X fun e X' => e = .returned (.bool true) ∧ PrTo X X' r b most L Ow Of := by
  have hk0 : Keeps (fun _ => False) X (X.alloc (.cells #[.int .i64 kd, .int .i64 on, .int .u64 ad, .int .u64 wd, .int .i64 n, .slice ac nc cc] 41)) := (Keeps.refl _ X).alloc _
  have hP0 := h.same hk0
  have hb0 := alloc_block X (.cells #[.int .i64 kd, .int .i64 on, .int .u64 ad, .int .u64 wd, .int .i64 n, .slice ac nc cc] 41)
  obtain ⟨v, hra, hro⟩ := id hP0.rf
  have hrd := ref_redo b most L v _ hra (by omega)
  have HB : Hid (∀ q, Ow q ∨ Of q → q ≠ X.heap.size) := fun q hq e => by
    rcases hq with hq | hq
    · have := h.lg.lt hq; omega
    · have := h.rf.lt hq; omega
  clear h hra hro
  go_enter Tryd.func24, Tryd.ntmps24
  go_wp2_with fail
  refine hrd.mono ?_
  rintro e Y ⟨vo, rfl, hrow, hnew, hk1⟩
  have hPY := hP0.same hk1
  have hbY := hk1.old hb0 (fun f => f)
  have HPre : Hid (Keeps (fun _ => False) X Y) := hk0.trans hk1
  obtain ⟨ao, co, rfl, _, _⟩ := hrow.form
  obtain ⟨B, hB⟩ : ∃ B, X.heap.size = B := ⟨_, rfl⟩
  obtain ⟨M, hM⟩ : ∃ N, (redoE L).length = N := ⟨_, rfl⟩
  have hMl : M ≤ 1048576 := by have := hPY.lg.fit; omega
  have HM : Hid ((redoE L).length = M) := hM
  rw [hB] at hbY HB ⊢
  rw [hM] at hrow ⊢
  clear hk0 hk1 hP0 hb0 hrd hB hM hnew
  have x0 : Y.cell? ⟨B, 0, none⟩ = some (.int .i64 kd) := cell_of_block hbY 0
  by_cases hk1 : kd = 1
  · subst hk1
    have HSB : Hid (∀ Z : World, Z.heap[B]? = some (.cells #[.int .i64 1, .int .i64 on, .int .u64 ad, .int .u64 wd, .int .i64 n, .slice ac nc cc] 41) → (fun W : World => W.cell? ⟨B, 2, none⟩ = some (.int .u64 ad) ∧ W.cell? ⟨B, 3, none⟩ = some (.int .u64 wd)) Z) := fun Z hb => ⟨cell_of_block hb 2, cell_of_block hb 3⟩
    have hS10 := HSB.out Y hbY
    by_cases hful : Full most L ad
    · have HA : Hid (∀ W0, Like W0 Y → Calls Tryd.prog 29 #[.pointer (some ⟨r, 0, none⟩), .int .u64 ad, .int .u64 wd] W0 fun e w' => e = .returned (.int .i64 5) ∧ (fun W : World => W.cell? ⟨B, 2, none⟩ = some (.int .u64 ad) ∧ W.cell? ⟨B, 3, none⟩ = some (.int .u64 wd)) w' ∧ Hid (Keeps (fun _ => False) Y w')) := fun W0 hl => by
        have hq := hPY.same (hl.keeps (Keeps.refl (fun _ => False) Y))
        refine (log_put_full r most L Ow ad wd W0 hq.lg hq.tz hful).mono fun e w' ⟨h1, h2⟩ => ?_
        have hk := h2.keeps (hl.keeps (Keeps.refl (fun _ => False) Y))
        exact ⟨h1, HSB.out _ (hk.old hbY (fun f => f)), hk⟩
      have HF : Hid (∀ Z W0, Keeps (fun _ => False) Y Z → Like W0 Z → Calls Tryd.prog 30 #[.pointer (some ⟨b, 0, none⟩), .int .u64 ad, .int .u64 wd] W0 fun e w' => e = .returned (.int .i64 5) ∧ (fun W : World => W.cell? ⟨B, 2, none⟩ = some (.int .u64 ad) ∧ W.cell? ⟨B, 3, none⟩ = some (.int .u64 wd)) w' ∧ Hid (Keeps (fun _ => False) Y w')) := fun Z W0 hz hl => by
        have hk0 := hl.keeps hz
        refine (refo_put_full b most L Of ad wd W0 (hPY.same hk0).rf (by omega) hful).mono fun e w' ⟨h1, h2⟩ => ?_
        have hk := hk0.trans h2
        exact ⟨h1, HSB.out _ (hk.old hbY (fun f => f)), hk⟩
      have HPY : Hid (Pr Y r b most L Ow Of) := hPY
      clear hPY hbY hrow HSB hful HB
      go_wp2_with fail
      go_region_held3 (fun W : World => W.cell? ⟨B, 2, none⟩ = some (.int .u64 ad) ∧ W.cell? ⟨B, 3, none⟩ = some (.int .u64 wd)) (first | assumption | (exact hS10) | go_keep) ((first
        | (go_at_call 29; refine (HA.out _ (by exact ⟨rfl, rfl, rfl, rfl⟩)).mono ?_; rintro e U1 ⟨rfl, hU1, hH1⟩)
        | (go_at_call 8; refine (num_any _ _).mono ?_; rintro e w' ⟨rfl, hw'⟩; replace hw' := hw'.symm; subst hw')
        | (go_at_call 30; refine (HF.out _ _ hH1.out (by exact ⟨rfl, rfl, rfl, rfl⟩)).mono ?_; rintro e U2 ⟨rfl, hU2, hH2⟩)))
      have hQ := HPY.out.same hH2.out
      have HTo : Hid (∀ Z, Keeps (fun _ => False) U2 Z → PrTo X Z r b most L Ow Of) := fun Z k => (HPY.out.to.post (hH2.out.trans k)).pre HPre.out
      clear HPY HA HF hH1 hH2 hU1 hU2 hS10 x0
      obtain ⟨vT, hraT, hroT⟩ := id hQ.rf
      obtain ⟨aT, cT, hvT, _, _⟩ := hraT.row.form
      obtain ⟨NT, hNT⟩ : ∃ N, (L).length = N := ⟨_, rfl⟩
      obtain ⟨MT, hMT⟩ : ∃ N, (redoE (L)).length = N := ⟨_, rfl⟩
      rw [hNT] at hvT
      have hrdT := ref_redo b most (L) vT U2 hraT (by omega)
      have HST : Hid (∀ Z, Keeps (fun _ => False) U2 Z → (fun W : World => W.cell? ⟨b, 1, none⟩ = some (.slice aT NT cT)) Z) := fun Z hk => by
        have h1 : Z.cell? ⟨b, 1, none⟩ = some vT := cell_of_block (hraT.kept hk (fun f => f) (fun _ _ f => f)).box 1
        rw [hvT] at h1; exact h1
      have HQ : Hid (Pr U2 r b most (L) _ _) := hQ
      have hMl : MT ≤ 1048576 := by have := hQ.lg.fit; omega
      have hNl : NT < 4398046511104 := by rw [← hNT]; exact (by omega)
      clear hraT hroT hvT
      go_wp2_with fail
      refine hrdT.mono ?_
      rintro e Z0 ⟨v2, rfl, hrow2, _, hkZ⟩
      obtain ⟨a2, c2, rfl, _, _⟩ := hrow2.form
      have HLenT : Hid (∀ W0, Like W0 Z0 → Calls Tryd.prog 35 #[.pointer (some ⟨r, 0, none⟩)] W0 fun e w' => e = .returned (.int .i64 MT) ∧ (fun W : World => W.cell? ⟨b, 1, none⟩ = some (.slice aT NT cT)) w' ∧ Hid (Keeps (fun _ => False) Z0 w')) := fun W0 hl => by
        have hk0 := hl.keeps (Keeps.refl (fun _ => False) Z0)
        refine (log_len r most _ _ W0 (HQ.out.same (hkZ.trans hk0)).lg).mono ?_
        rintro e w' ⟨rfl, rfl⟩
        exact ⟨by rw [hMT], HST.out _ (hkZ.trans hk0), hk0⟩
      have HMarkT : Hid (∀ Z W0, Keeps (fun _ => False) Z0 Z → Like W0 Z → Calls Tryd.prog 33 #[.pointer (some ⟨r, 0, none⟩)] W0 fun e w' => e = .returned (.int .i64 NT) ∧ (fun W : World => W.cell? ⟨b, 1, none⟩ = some (.slice aT NT cT)) w' ∧ Hid (Keeps (fun _ => False) Z0 w')) := fun Z W0 hk hl => by
        have hk0 := hl.keeps hk
        refine (log_mark r most _ _ W0 (HQ.out.same (hkZ.trans hk0)).lg).mono ?_
        rintro e w' ⟨rfl, rfl⟩
        exact ⟨by rw [hNT], HST.out _ (hkZ.trans hk0), hk0⟩
      have HAllT : Hid (∀ Z W0, Keeps (fun _ => False) Z0 Z → Like W0 Z → Calls Tryd.prog 26 #[.pointer (some ⟨r, 0, none⟩)] W0 fun e w' => ∃ bx, e = .returned (.func (.func 58) #[] #[.pointer (some ⟨bx, 0, none⟩)]) ∧ (fun W : World => W.cell? ⟨b, 1, none⟩ = some (.slice aT NT cT)) w' ∧ Hid (w'.heap[bx]? = some (.cells #[.func (.func 48) #[.pointer (some ⟨r, 0, none⟩)] #[]] 69 (0, 0)) ∧ Keeps (fun _ => False) Z0 w')) := fun Z W0 hk hl => by
        have hk0 := hl.keeps hk
        refine (all_redo _ W0).mono ?_
        rintro e w' ⟨rfl, rfl⟩
        exact ⟨_, rfl, HST.out _ (hkZ.trans (hk0.alloc _)), alloc_block _ _, hk0.alloc _⟩
      rw [hMT] at hrow2 ⊢
      have HWalkT : Hid (∀ Z bx W0, Keeps (fun _ => False) Z0 Z → Z.heap[bx]? = some (.cells #[.func (.func 48) #[.pointer (some ⟨r, 0, none⟩)] #[]] 69 (0, 0)) → Like W0 Z → Calls Tryd.prog 14 #[.func (.func 58) #[] #[.pointer (some ⟨bx, 0, none⟩)], .slice a2 MT c2, .int .i64 0] W0 fun e w' => e = .returned (.bool true) ∧ (fun W : World => W.cell? ⟨b, 1, none⟩ = some (.slice aT NT cT)) w' ∧ Hid (Keeps (fun _ => False) Z0 w')) := fun Z bx W0 hk hbx hl => by
        have hk0 := hl.keeps hk
        have hq0 := HQ.out.same (hkZ.trans hk0)
        have hp0 : Pairs W0 (.slice a2 MT c2) (redoE (L)) := (show Row Z0 72 2 (.slice a2 MT c2) (redoE (L)).length (entV (redoE (L))) from by rw [hMT]; exact hrow2).pairs.keeps hk0
        refine (pr_walk hq0 (by rw [hl.heap]; exact hbx) hp0).mono ?_
        rintro e w' ⟨rfl, h2⟩
        exact ⟨rfl, HST.out _ (hkZ.trans (hk0.trans h2)), hk0.trans h2⟩
      have hST0 := HST.out Z0 hkZ
      have HKZ : Hid (Keeps (fun _ => False) U2 Z0) := hkZ
      clear hrdT HST hrow2 hkZ hNT hMT hQ
      go_wp2_with fail
      go_region_held3 (fun W : World => W.cell? ⟨b, 1, none⟩ = some (.slice aT NT cT)) (first | assumption | (exact hST0) | go_keep) ((first
        | (go_at_call 35; refine (HLenT.out _ (by exact ⟨rfl, rfl, rfl, rfl⟩)).mono ?_; rintro e Z1 ⟨rfl, hZ1, hH1⟩)
        | (go_at_call 33; refine (HMarkT.out _ _ hH1.out (by exact ⟨rfl, rfl, rfl, rfl⟩)).mono ?_; rintro e Z2 ⟨rfl, hZ2, hH2⟩)
        | (go_at_call 26; refine (HAllT.out _ _ hH2.out (by exact ⟨rfl, rfl, rfl, rfl⟩)).mono ?_; rintro e Z3 ⟨bxT, rfl, hZ3, hH3⟩)
        | (go_at_call 14; refine (HWalkT.out _ _ _ hH3.out.2 hH3.out.1 (by exact ⟨rfl, rfl, rfl, rfl⟩)).mono ?_; rintro e Z4 ⟨rfl, hZ4, hH4⟩)))
      all_goals go_wp2_with fail
      all_goals go_ret
      all_goals exact ⟨rfl, HTo.out _ (HKZ.out.trans hH4.out)⟩
    · have HA : Hid (∀ W0, Like W0 Y → Calls Tryd.prog 29 #[.pointer (some ⟨r, 0, none⟩), .int .u64 ad, .int .u64 wd] W0 fun e w' => e = .returned (.int .i64 0) ∧ (fun W : World => W.cell? ⟨B, 2, none⟩ = some (.int .u64 ad) ∧ W.cell? ⟨B, 3, none⟩ = some (.int .u64 wd)) w' ∧ Hid (∃ Ow1, LogAt w' r most (L ++ [(ad, wd)]) Ow1 ∧ (∀ q, Ow1 q → Ow q ∨ Y.heap.size ≤ q) ∧ Keeps Ow Y w')) := fun W0 hl => by
        have hk0 := hl.keeps (Keeps.refl (fun _ => False) Y)
        have hq := hPY.same hk0
        refine (log_put r most L Ow ad wd W0 hq.lg hq.tz (by omega) hful).mono fun e w' ⟨h1, ⟨Ow1, h2, h3⟩, h4⟩ => ?_
        have hk : Keeps Ow Y w' := (hk0.mono (fun _ _ f => f.elim)).trans h4
        exact ⟨h1, HSB.out _ (hk.old hbY (fun e => HB.out _ (.inl e) rfl)), Ow1, h2, fun q hq => (h3 q hq).imp id (fun e => by rw [hl.heap] at e; exact e), hk⟩
      have HF : Hid (∀ Z W0, (∃ Ow1, LogAt Z r most (L ++ [(ad, wd)]) Ow1 ∧ (∀ q, Ow1 q → Ow q ∨ Y.heap.size ≤ q) ∧ Keeps Ow Y Z) → Like W0 Z → Calls Tryd.prog 30 #[.pointer (some ⟨b, 0, none⟩), .int .u64 ad, .int .u64 wd] W0 fun e w' => e = .returned (.int .i64 0) ∧ (fun W : World => W.cell? ⟨B, 2, none⟩ = some (.int .u64 ad) ∧ W.cell? ⟨B, 3, none⟩ = some (.int .u64 wd)) w' ∧ Hid (∃ Ow1 Of1, Pr w' r b most (L ++ [(ad, wd)]) Ow1 Of1 ∧ (∀ q, Ow1 q → Ow q ∨ Y.heap.size ≤ q) ∧ (∀ q, Of1 q → Of q ∨ Y.heap.size ≤ q) ∧ Keeps (fun q => Ow q ∨ Of q) Y w')) := fun Z W0 ⟨Ow1, hz1, hz2, hz3⟩ hl => by
        have hk0 : Keeps Ow Y W0 := hl.keeps hz3
        have hl1 : LogAt W0 r most (L ++ [(ad, wd)]) Ow1 := hz1.like hl
        obtain ⟨q1, q2, q3, q4⟩ := hPY.one hk0 hz2 hl1
        refine (refo_put b most L Of ad wd W0 q1 (by omega) hful).mono fun e w' ⟨h1, ⟨Of1, h2, h3⟩, h4⟩ => ?_
        have hall := hPY.two hk0 hz2 hl1 h4 h3 h2 (fun c hc => by
          rcases List.mem_append.1 hc with hc | hc
          · exact hPY.pl c hc
          · rw [List.mem_singleton.1 hc]; exact had)
        exact ⟨h1, HSB.out _ (hall.2.2.2.old hbY (fun e => HB.out _ e rfl)), Ow1, Of1, hall⟩
      have HPY : Hid (Pr Y r b most L Ow Of) := hPY
      clear hPY hbY hrow HSB hful HB
      go_wp2_with fail
      go_region_held3 (fun W : World => W.cell? ⟨B, 2, none⟩ = some (.int .u64 ad) ∧ W.cell? ⟨B, 3, none⟩ = some (.int .u64 wd)) (first | assumption | (exact hS10) | go_keep) ((first
        | (go_at_call 29; refine (HA.out _ (by exact ⟨rfl, rfl, rfl, rfl⟩)).mono ?_; rintro e U1 ⟨rfl, hU1, hH1⟩)
        | (go_at_call 8; refine (num_any _ _).mono ?_; rintro e w' ⟨rfl, hw'⟩; replace hw' := hw'.symm; subst hw')
        | (go_at_call 30; refine (HF.out _ _ hH1.out (by exact ⟨rfl, rfl, rfl, rfl⟩)).mono ?_; rintro e U2 ⟨rfl, hU2, hH2⟩)))
      obtain ⟨Ow1, Of1, hQ, hn1, hn2, hkU⟩ := hH2.out
      have HTo : Hid (∀ Z, Keeps (fun _ => False) U2 Z → PrTo X Z r b most L Ow Of) := fun Z k => (PrTo.post ⟨_, Ow1, Of1, hQ, hn1, hn2, hkU, by simp⟩ k).pre HPre.out
      clear HPY HA HF hH1 hH2 hU1 hU2 hS10 x0 hn1 hn2 hkU
      obtain ⟨vT, hraT, hroT⟩ := id hQ.rf
      obtain ⟨aT, cT, hvT, _, _⟩ := hraT.row.form
      obtain ⟨NT, hNT⟩ : ∃ N, (L ++ [(ad, wd)]).length = N := ⟨_, rfl⟩
      obtain ⟨MT, hMT⟩ : ∃ N, (redoE (L ++ [(ad, wd)])).length = N := ⟨_, rfl⟩
      rw [hNT] at hvT
      have hrdT := ref_redo b most (L ++ [(ad, wd)]) vT U2 hraT (by simp; omega)
      have HST : Hid (∀ Z, Keeps (fun _ => False) U2 Z → (fun W : World => W.cell? ⟨b, 1, none⟩ = some (.slice aT NT cT)) Z) := fun Z hk => by
        have h1 : Z.cell? ⟨b, 1, none⟩ = some vT := cell_of_block (hraT.kept hk (fun f => f) (fun _ _ f => f)).box 1
        rw [hvT] at h1; exact h1
      have HQ : Hid (Pr U2 r b most (L ++ [(ad, wd)]) _ _) := hQ
      have hMl : MT ≤ 1048576 := by have := hQ.lg.fit; omega
      have hNl : NT < 4398046511104 := by rw [← hNT]; exact (by simp; omega)
      clear hraT hroT hvT
      go_wp2_with fail
      refine hrdT.mono ?_
      rintro e Z0 ⟨v2, rfl, hrow2, _, hkZ⟩
      obtain ⟨a2, c2, rfl, _, _⟩ := hrow2.form
      have HLenT : Hid (∀ W0, Like W0 Z0 → Calls Tryd.prog 35 #[.pointer (some ⟨r, 0, none⟩)] W0 fun e w' => e = .returned (.int .i64 MT) ∧ (fun W : World => W.cell? ⟨b, 1, none⟩ = some (.slice aT NT cT)) w' ∧ Hid (Keeps (fun _ => False) Z0 w')) := fun W0 hl => by
        have hk0 := hl.keeps (Keeps.refl (fun _ => False) Z0)
        refine (log_len r most _ _ W0 (HQ.out.same (hkZ.trans hk0)).lg).mono ?_
        rintro e w' ⟨rfl, rfl⟩
        exact ⟨by rw [hMT], HST.out _ (hkZ.trans hk0), hk0⟩
      have HMarkT : Hid (∀ Z W0, Keeps (fun _ => False) Z0 Z → Like W0 Z → Calls Tryd.prog 33 #[.pointer (some ⟨r, 0, none⟩)] W0 fun e w' => e = .returned (.int .i64 NT) ∧ (fun W : World => W.cell? ⟨b, 1, none⟩ = some (.slice aT NT cT)) w' ∧ Hid (Keeps (fun _ => False) Z0 w')) := fun Z W0 hk hl => by
        have hk0 := hl.keeps hk
        refine (log_mark r most _ _ W0 (HQ.out.same (hkZ.trans hk0)).lg).mono ?_
        rintro e w' ⟨rfl, rfl⟩
        exact ⟨by rw [hNT], HST.out _ (hkZ.trans hk0), hk0⟩
      have HAllT : Hid (∀ Z W0, Keeps (fun _ => False) Z0 Z → Like W0 Z → Calls Tryd.prog 26 #[.pointer (some ⟨r, 0, none⟩)] W0 fun e w' => ∃ bx, e = .returned (.func (.func 58) #[] #[.pointer (some ⟨bx, 0, none⟩)]) ∧ (fun W : World => W.cell? ⟨b, 1, none⟩ = some (.slice aT NT cT)) w' ∧ Hid (w'.heap[bx]? = some (.cells #[.func (.func 48) #[.pointer (some ⟨r, 0, none⟩)] #[]] 69 (0, 0)) ∧ Keeps (fun _ => False) Z0 w')) := fun Z W0 hk hl => by
        have hk0 := hl.keeps hk
        refine (all_redo _ W0).mono ?_
        rintro e w' ⟨rfl, rfl⟩
        exact ⟨_, rfl, HST.out _ (hkZ.trans (hk0.alloc _)), alloc_block _ _, hk0.alloc _⟩
      rw [hMT] at hrow2 ⊢
      have HWalkT : Hid (∀ Z bx W0, Keeps (fun _ => False) Z0 Z → Z.heap[bx]? = some (.cells #[.func (.func 48) #[.pointer (some ⟨r, 0, none⟩)] #[]] 69 (0, 0)) → Like W0 Z → Calls Tryd.prog 14 #[.func (.func 58) #[] #[.pointer (some ⟨bx, 0, none⟩)], .slice a2 MT c2, .int .i64 0] W0 fun e w' => e = .returned (.bool true) ∧ (fun W : World => W.cell? ⟨b, 1, none⟩ = some (.slice aT NT cT)) w' ∧ Hid (Keeps (fun _ => False) Z0 w')) := fun Z bx W0 hk hbx hl => by
        have hk0 := hl.keeps hk
        have hq0 := HQ.out.same (hkZ.trans hk0)
        have hp0 : Pairs W0 (.slice a2 MT c2) (redoE (L ++ [(ad, wd)])) := (show Row Z0 72 2 (.slice a2 MT c2) (redoE (L ++ [(ad, wd)])).length (entV (redoE (L ++ [(ad, wd)]))) from by rw [hMT]; exact hrow2).pairs.keeps hk0
        refine (pr_walk hq0 (by rw [hl.heap]; exact hbx) hp0).mono ?_
        rintro e w' ⟨rfl, h2⟩
        exact ⟨rfl, HST.out _ (hkZ.trans (hk0.trans h2)), hk0.trans h2⟩
      have hST0 := HST.out Z0 hkZ
      have HKZ : Hid (Keeps (fun _ => False) U2 Z0) := hkZ
      clear hrdT HST hrow2 hkZ hNT hMT hQ
      go_wp2_with fail
      go_region_held3 (fun W : World => W.cell? ⟨b, 1, none⟩ = some (.slice aT NT cT)) (first | assumption | (exact hST0) | go_keep) ((first
        | (go_at_call 35; refine (HLenT.out _ (by exact ⟨rfl, rfl, rfl, rfl⟩)).mono ?_; rintro e Z1 ⟨rfl, hZ1, hH1⟩)
        | (go_at_call 33; refine (HMarkT.out _ _ hH1.out (by exact ⟨rfl, rfl, rfl, rfl⟩)).mono ?_; rintro e Z2 ⟨rfl, hZ2, hH2⟩)
        | (go_at_call 26; refine (HAllT.out _ _ hH2.out (by exact ⟨rfl, rfl, rfl, rfl⟩)).mono ?_; rintro e Z3 ⟨bxT, rfl, hZ3, hH3⟩)
        | (go_at_call 14; refine (HWalkT.out _ _ _ hH3.out.2 hH3.out.1 (by exact ⟨rfl, rfl, rfl, rfl⟩)).mono ?_; rintro e Z4 ⟨rfl, hZ4, hH4⟩)))
      all_goals go_wp2_with fail
      all_goals go_ret
      all_goals exact ⟨rfl, HTo.out _ (HKZ.out.trans hH4.out)⟩
  by_cases hk2 : kd = 2
  · subst hk2
    have x4 : Y.cell? ⟨B, 4, none⟩ = some (.int .i64 n) := cell_of_block hbY 4
    obtain ⟨vF, hraF, hroF⟩ := id hPY.rf
    obtain ⟨aF, cF, hvF, hcF, _⟩ := hraF.row.form
    obtain ⟨NF, hNF⟩ : ∃ N, L.length = N := ⟨_, rfl⟩
    have hNl : NF < 4398046511104 := by omega
    rw [hNF] at hvF hcF
    have HU : Hid (∀ Z : World, Z.heap[b]? = Y.heap[b]? → Z.cell? ⟨b, 1, none⟩ = some (.slice aF NF cF) ∧ Z.frozen? ⟨b, 1, none⟩ = false) := fun Z hz => by
      have h0 := hz.trans hraF.box
      have h1 : Z.cell? ⟨b, 1, none⟩ = some vF := cell_of_block h0 1
      rw [hvF] at h1
      exact ⟨h1, frozen_of_block h0 1⟩
    by_cases hout : n < 0 ∨ (L.length : Int) < n
    · have hBk := log_back_no r most L Ow n Y hPY.lg hout
      rw [hNF] at hout
      have HPY : Hid (Pr Y r b most L Ow Of) := hPY
      have HBY : Hid (Y.heap[B]? = some (.cells #[.int .i64 2, .int .i64 on, .int .u64 ad, .int .u64 wd, .int .i64 n, .slice ac nc cc] 41)) := hbY
      have HLT : Hid (b < Y.heap.size) := lt_of_block hraF.box
      clear hvF hNF hbY hrow hPY hraF hroF hcF HB
      by_cases hneg : n < 0
      · clear hout
        have hd0 : decide (n < 0) = true := by simp [hneg]
        go_wp2_with fail
        refine hBk.mono ?_
        rintro e Y1 ⟨rfl, hk1⟩
        have y4 : Y1.cell? ⟨B, 4, none⟩ = some (.int .i64 n) := cell_of_block (hk1.old HBY.out (fun f => f)) 4
        have yu := (HU.out Y1 (hk1.block b HLT.out (fun f => f))).1
        have HK1 : Hid (Keeps (fun _ => False) Y Y1) := hk1
        clear hBk x4 hk1
        go_wp2_with fail
        go_quiet (fail)
        obtain ⟨Y3, hY3⟩ : ∃ Z, Z = Y1.drewN nq := ⟨_, rfl⟩
        have hk3 : Keeps (fun _ => False) Y Y3 := by rw [hY3]; exact (like_drewN _ nq).keeps HK1.out
        rw [← hY3]
        have hQ := HPY.out.same hk3
        have HTo : Hid (∀ Z, Keeps (fun _ => False) Y3 Z → PrTo X Z r b most L Ow Of) := fun Z k => (HPY.out.to.post (hk3.trans k)).pre HPre.out
        clear hY3 HK1 y4 yu hk3 HPY HBY HU HLT x0
        go_wp2_with (go_at_call 8; refine (num_any _ _).mono ?_; rintro e w' ⟨rfl, hw'⟩; replace hw' := hw'.symm; subst hw')
        obtain ⟨vT, hraT, hroT⟩ := id hQ.rf
        obtain ⟨aT, cT, hvT, _, _⟩ := hraT.row.form
        obtain ⟨NT, hNT⟩ : ∃ N, (L).length = N := ⟨_, rfl⟩
        obtain ⟨MT, hMT⟩ : ∃ N, (redoE (L)).length = N := ⟨_, rfl⟩
        rw [hNT] at hvT
        have hrdT := ref_redo b most (L) vT Y3 hraT (by omega)
        have HST : Hid (∀ Z, Keeps (fun _ => False) Y3 Z → (fun W : World => W.cell? ⟨b, 1, none⟩ = some (.slice aT NT cT)) Z) := fun Z hk => by
          have h1 : Z.cell? ⟨b, 1, none⟩ = some vT := cell_of_block (hraT.kept hk (fun f => f) (fun _ _ f => f)).box 1
          rw [hvT] at h1; exact h1
        have HQ : Hid (Pr Y3 r b most (L) _ _) := hQ
        have hMl : MT ≤ 1048576 := by have := hQ.lg.fit; omega
        have hNl : NT < 4398046511104 := by rw [← hNT]; exact (by omega)
        clear hraT hroT hvT
        go_wp2_with fail
        refine hrdT.mono ?_
        rintro e Z0 ⟨v2, rfl, hrow2, _, hkZ⟩
        obtain ⟨a2, c2, rfl, _, _⟩ := hrow2.form
        have HLenT : Hid (∀ W0, Like W0 Z0 → Calls Tryd.prog 35 #[.pointer (some ⟨r, 0, none⟩)] W0 fun e w' => e = .returned (.int .i64 MT) ∧ (fun W : World => W.cell? ⟨b, 1, none⟩ = some (.slice aT NT cT)) w' ∧ Hid (Keeps (fun _ => False) Z0 w')) := fun W0 hl => by
          have hk0 := hl.keeps (Keeps.refl (fun _ => False) Z0)
          refine (log_len r most _ _ W0 (HQ.out.same (hkZ.trans hk0)).lg).mono ?_
          rintro e w' ⟨rfl, rfl⟩
          exact ⟨by rw [hMT], HST.out _ (hkZ.trans hk0), hk0⟩
        have HMarkT : Hid (∀ Z W0, Keeps (fun _ => False) Z0 Z → Like W0 Z → Calls Tryd.prog 33 #[.pointer (some ⟨r, 0, none⟩)] W0 fun e w' => e = .returned (.int .i64 NT) ∧ (fun W : World => W.cell? ⟨b, 1, none⟩ = some (.slice aT NT cT)) w' ∧ Hid (Keeps (fun _ => False) Z0 w')) := fun Z W0 hk hl => by
          have hk0 := hl.keeps hk
          refine (log_mark r most _ _ W0 (HQ.out.same (hkZ.trans hk0)).lg).mono ?_
          rintro e w' ⟨rfl, rfl⟩
          exact ⟨by rw [hNT], HST.out _ (hkZ.trans hk0), hk0⟩
        have HAllT : Hid (∀ Z W0, Keeps (fun _ => False) Z0 Z → Like W0 Z → Calls Tryd.prog 26 #[.pointer (some ⟨r, 0, none⟩)] W0 fun e w' => ∃ bx, e = .returned (.func (.func 58) #[] #[.pointer (some ⟨bx, 0, none⟩)]) ∧ (fun W : World => W.cell? ⟨b, 1, none⟩ = some (.slice aT NT cT)) w' ∧ Hid (w'.heap[bx]? = some (.cells #[.func (.func 48) #[.pointer (some ⟨r, 0, none⟩)] #[]] 69 (0, 0)) ∧ Keeps (fun _ => False) Z0 w')) := fun Z W0 hk hl => by
          have hk0 := hl.keeps hk
          refine (all_redo _ W0).mono ?_
          rintro e w' ⟨rfl, rfl⟩
          exact ⟨_, rfl, HST.out _ (hkZ.trans (hk0.alloc _)), alloc_block _ _, hk0.alloc _⟩
        rw [hMT] at hrow2 ⊢
        have HWalkT : Hid (∀ Z bx W0, Keeps (fun _ => False) Z0 Z → Z.heap[bx]? = some (.cells #[.func (.func 48) #[.pointer (some ⟨r, 0, none⟩)] #[]] 69 (0, 0)) → Like W0 Z → Calls Tryd.prog 14 #[.func (.func 58) #[] #[.pointer (some ⟨bx, 0, none⟩)], .slice a2 MT c2, .int .i64 0] W0 fun e w' => e = .returned (.bool true) ∧ (fun W : World => W.cell? ⟨b, 1, none⟩ = some (.slice aT NT cT)) w' ∧ Hid (Keeps (fun _ => False) Z0 w')) := fun Z bx W0 hk hbx hl => by
          have hk0 := hl.keeps hk
          have hq0 := HQ.out.same (hkZ.trans hk0)
          have hp0 : Pairs W0 (.slice a2 MT c2) (redoE (L)) := (show Row Z0 72 2 (.slice a2 MT c2) (redoE (L)).length (entV (redoE (L))) from by rw [hMT]; exact hrow2).pairs.keeps hk0
          refine (pr_walk hq0 (by rw [hl.heap]; exact hbx) hp0).mono ?_
          rintro e w' ⟨rfl, h2⟩
          exact ⟨rfl, HST.out _ (hkZ.trans (hk0.trans h2)), hk0.trans h2⟩
        have hST0 := HST.out Z0 hkZ
        have HKZ : Hid (Keeps (fun _ => False) Y3 Z0) := hkZ
        clear hrdT HST hrow2 hkZ hNT hMT hQ
        go_wp2_with fail
        go_region_held3 (fun W : World => W.cell? ⟨b, 1, none⟩ = some (.slice aT NT cT)) (first | assumption | (exact hST0) | go_keep) ((first
          | (go_at_call 35; refine (HLenT.out _ (by exact ⟨rfl, rfl, rfl, rfl⟩)).mono ?_; rintro e Z1 ⟨rfl, hZ1, hH1⟩)
          | (go_at_call 33; refine (HMarkT.out _ _ hH1.out (by exact ⟨rfl, rfl, rfl, rfl⟩)).mono ?_; rintro e Z2 ⟨rfl, hZ2, hH2⟩)
          | (go_at_call 26; refine (HAllT.out _ _ hH2.out (by exact ⟨rfl, rfl, rfl, rfl⟩)).mono ?_; rintro e Z3 ⟨bxT, rfl, hZ3, hH3⟩)
          | (go_at_call 14; refine (HWalkT.out _ _ _ hH3.out.2 hH3.out.1 (by exact ⟨rfl, rfl, rfl, rfl⟩)).mono ?_; rintro e Z4 ⟨rfl, hZ4, hH4⟩)))
        all_goals go_wp2_with fail
        all_goals go_ret
        all_goals exact ⟨rfl, HTo.out _ (HKZ.out.trans hH4.out)⟩
      · replace hout : (NF : Int) < n := by omega
        have hn0 : ¬ n < 0 := by omega
        have hd0 : decide (n < 0) = false := by simp; omega
        have hd1 : decide ((NF : Int) < n) = true := by simp; omega
        go_wp2_with fail
        refine hBk.mono ?_
        rintro e Y1 ⟨rfl, hk1⟩
        have y4 : Y1.cell? ⟨B, 4, none⟩ = some (.int .i64 n) := cell_of_block (hk1.old HBY.out (fun f => f)) 4
        have yu := (HU.out Y1 (hk1.block b HLT.out (fun f => f))).1
        have HK1 : Hid (Keeps (fun _ => False) Y Y1) := hk1
        clear hBk x4 hk1
        go_wp2_with fail
        go_quiet (fail)
        obtain ⟨Y3, hY3⟩ : ∃ Z, Z = Y1.drewN nq := ⟨_, rfl⟩
        have hk3 : Keeps (fun _ => False) Y Y3 := by rw [hY3]; exact (like_drewN _ nq).keeps HK1.out
        rw [← hY3]
        have hQ := HPY.out.same hk3
        have HTo : Hid (∀ Z, Keeps (fun _ => False) Y3 Z → PrTo X Z r b most L Ow Of) := fun Z k => (HPY.out.to.post (hk3.trans k)).pre HPre.out
        clear hY3 HK1 y4 yu hk3 HPY HBY HU HLT x0
        go_wp2_with (go_at_call 8; refine (num_any _ _).mono ?_; rintro e w' ⟨rfl, hw'⟩; replace hw' := hw'.symm; subst hw')
        obtain ⟨vT, hraT, hroT⟩ := id hQ.rf
        obtain ⟨aT, cT, hvT, _, _⟩ := hraT.row.form
        obtain ⟨NT, hNT⟩ : ∃ N, (L).length = N := ⟨_, rfl⟩
        obtain ⟨MT, hMT⟩ : ∃ N, (redoE (L)).length = N := ⟨_, rfl⟩
        rw [hNT] at hvT
        have hrdT := ref_redo b most (L) vT Y3 hraT (by omega)
        have HST : Hid (∀ Z, Keeps (fun _ => False) Y3 Z → (fun W : World => W.cell? ⟨b, 1, none⟩ = some (.slice aT NT cT)) Z) := fun Z hk => by
          have h1 : Z.cell? ⟨b, 1, none⟩ = some vT := cell_of_block (hraT.kept hk (fun f => f) (fun _ _ f => f)).box 1
          rw [hvT] at h1; exact h1
        have HQ : Hid (Pr Y3 r b most (L) _ _) := hQ
        have hMl : MT ≤ 1048576 := by have := hQ.lg.fit; omega
        have hNl : NT < 4398046511104 := by rw [← hNT]; exact (by omega)
        clear hraT hroT hvT
        go_wp2_with fail
        refine hrdT.mono ?_
        rintro e Z0 ⟨v2, rfl, hrow2, _, hkZ⟩
        obtain ⟨a2, c2, rfl, _, _⟩ := hrow2.form
        have HLenT : Hid (∀ W0, Like W0 Z0 → Calls Tryd.prog 35 #[.pointer (some ⟨r, 0, none⟩)] W0 fun e w' => e = .returned (.int .i64 MT) ∧ (fun W : World => W.cell? ⟨b, 1, none⟩ = some (.slice aT NT cT)) w' ∧ Hid (Keeps (fun _ => False) Z0 w')) := fun W0 hl => by
          have hk0 := hl.keeps (Keeps.refl (fun _ => False) Z0)
          refine (log_len r most _ _ W0 (HQ.out.same (hkZ.trans hk0)).lg).mono ?_
          rintro e w' ⟨rfl, rfl⟩
          exact ⟨by rw [hMT], HST.out _ (hkZ.trans hk0), hk0⟩
        have HMarkT : Hid (∀ Z W0, Keeps (fun _ => False) Z0 Z → Like W0 Z → Calls Tryd.prog 33 #[.pointer (some ⟨r, 0, none⟩)] W0 fun e w' => e = .returned (.int .i64 NT) ∧ (fun W : World => W.cell? ⟨b, 1, none⟩ = some (.slice aT NT cT)) w' ∧ Hid (Keeps (fun _ => False) Z0 w')) := fun Z W0 hk hl => by
          have hk0 := hl.keeps hk
          refine (log_mark r most _ _ W0 (HQ.out.same (hkZ.trans hk0)).lg).mono ?_
          rintro e w' ⟨rfl, rfl⟩
          exact ⟨by rw [hNT], HST.out _ (hkZ.trans hk0), hk0⟩
        have HAllT : Hid (∀ Z W0, Keeps (fun _ => False) Z0 Z → Like W0 Z → Calls Tryd.prog 26 #[.pointer (some ⟨r, 0, none⟩)] W0 fun e w' => ∃ bx, e = .returned (.func (.func 58) #[] #[.pointer (some ⟨bx, 0, none⟩)]) ∧ (fun W : World => W.cell? ⟨b, 1, none⟩ = some (.slice aT NT cT)) w' ∧ Hid (w'.heap[bx]? = some (.cells #[.func (.func 48) #[.pointer (some ⟨r, 0, none⟩)] #[]] 69 (0, 0)) ∧ Keeps (fun _ => False) Z0 w')) := fun Z W0 hk hl => by
          have hk0 := hl.keeps hk
          refine (all_redo _ W0).mono ?_
          rintro e w' ⟨rfl, rfl⟩
          exact ⟨_, rfl, HST.out _ (hkZ.trans (hk0.alloc _)), alloc_block _ _, hk0.alloc _⟩
        rw [hMT] at hrow2 ⊢
        have HWalkT : Hid (∀ Z bx W0, Keeps (fun _ => False) Z0 Z → Z.heap[bx]? = some (.cells #[.func (.func 48) #[.pointer (some ⟨r, 0, none⟩)] #[]] 69 (0, 0)) → Like W0 Z → Calls Tryd.prog 14 #[.func (.func 58) #[] #[.pointer (some ⟨bx, 0, none⟩)], .slice a2 MT c2, .int .i64 0] W0 fun e w' => e = .returned (.bool true) ∧ (fun W : World => W.cell? ⟨b, 1, none⟩ = some (.slice aT NT cT)) w' ∧ Hid (Keeps (fun _ => False) Z0 w')) := fun Z bx W0 hk hbx hl => by
          have hk0 := hl.keeps hk
          have hq0 := HQ.out.same (hkZ.trans hk0)
          have hp0 : Pairs W0 (.slice a2 MT c2) (redoE (L)) := (show Row Z0 72 2 (.slice a2 MT c2) (redoE (L)).length (entV (redoE (L))) from by rw [hMT]; exact hrow2).pairs.keeps hk0
          refine (pr_walk hq0 (by rw [hl.heap]; exact hbx) hp0).mono ?_
          rintro e w' ⟨rfl, h2⟩
          exact ⟨rfl, HST.out _ (hkZ.trans (hk0.trans h2)), hk0.trans h2⟩
        have hST0 := HST.out Z0 hkZ
        have HKZ : Hid (Keeps (fun _ => False) Y3 Z0) := hkZ
        clear hrdT HST hrow2 hkZ hNT hMT hQ
        go_wp2_with fail
        go_region_held3 (fun W : World => W.cell? ⟨b, 1, none⟩ = some (.slice aT NT cT)) (first | assumption | (exact hST0) | go_keep) ((first
          | (go_at_call 35; refine (HLenT.out _ (by exact ⟨rfl, rfl, rfl, rfl⟩)).mono ?_; rintro e Z1 ⟨rfl, hZ1, hH1⟩)
          | (go_at_call 33; refine (HMarkT.out _ _ hH1.out (by exact ⟨rfl, rfl, rfl, rfl⟩)).mono ?_; rintro e Z2 ⟨rfl, hZ2, hH2⟩)
          | (go_at_call 26; refine (HAllT.out _ _ hH2.out (by exact ⟨rfl, rfl, rfl, rfl⟩)).mono ?_; rintro e Z3 ⟨bxT, rfl, hZ3, hH3⟩)
          | (go_at_call 14; refine (HWalkT.out _ _ _ hH3.out.2 hH3.out.1 (by exact ⟨rfl, rfl, rfl, rfl⟩)).mono ?_; rintro e Z4 ⟨rfl, hZ4, hH4⟩)))
        all_goals go_wp2_with fail
        all_goals go_ret
        all_goals exact ⟨rfl, HTo.out _ (HKZ.out.trans hH4.out)⟩
    · obtain ⟨m, rfl⟩ : ∃ m : Nat, n = m := ⟨n.toNat, by omega⟩
      have hm : m ≤ L.length := by omega
      have hBk := log_back r most L Ow m Y hPY.lg hPY.tz hPY.p0 hm
      have hmN : m ≤ NF := by omega
      have hmN2 : ¬ (NF : Int) < (m : Int) := by omega
      have hmN3 : decide ((NF : Int) < (m : Int)) = false := by simp; omega
      have hm0 : ¬ (m : Int) < 0 := by omega
      have hmd : decide ((m : Int) < 0) = false := by simp
      have hmx : Tryd.prog.follows .mixedOrders = true := by kernel_rfl
      have HA : Hid (Pr Y r b most L Ow Of ∧ Y.heap[B]? = some (.cells #[.int .i64 2, .int .i64 on, .int .u64 ad, .int .u64 wd, .int .i64 m, .slice ac nc cc] 41) ∧ RefAt Y b most L vF ∧ (∀ q, Of q ↔ (q = b ∨ vF.ownBlock = some q)) ∧ vF = .slice aF NF cF ∧ NF ≤ cF ∧ L.length = NF ∧ m ≤ L.length) := ⟨hPY, hbY, hraF, hroF, hvF, hcF, hNF, hm⟩
      clear hvF hcF hNF hbY hrow hPY hraF hroF hout hm
      go_wp2_with fail
      refine hBk.mono ?_
      rintro e Y1 ⟨rfl, ⟨Ow1, hlg1, hsub1⟩, hk1⟩
      have HY1 : Hid (LogAt Y1 r most (L.take m) Ow1 ∧ (∀ q, Ow1 q → Ow q) ∧ Keeps Ow Y Y1 ∧ RefAt Y1 b most L vF) := ⟨hlg1, hsub1, hk1, HA.out.2.2.1.kept hk1 (fun e => HA.out.1.dj b e ((HA.out.2.2.2.1 b).2 (.inl rfl))) (fun g hg e => HA.out.1.dj g e ((HA.out.2.2.2.1 g).2 (.inr hg)))⟩
      have hb5 := hk1.old HA.out.2.1 (fun e => HB.out _ (.inl e) rfl)
      have y4 : Y1.cell? ⟨B, 4, none⟩ = some (.int .i64 m) := cell_of_block hb5 4
      have yu := (HU.out Y1 (HY1.out.2.2.2.box.trans HA.out.2.2.1.box.symm)).1
      clear hBk hlg1 hsub1 hk1 hb5 x4 x0
      go_wp2_with fail
      go_quiet (fail)
      obtain ⟨Y3, hY3⟩ : ∃ Z, Z = Y1.drewN nq := ⟨_, rfl⟩
      have HK : Hid (Keeps (fun _ => False) Y1 Y3.drew) := by rw [hY3]; exact (Like.keeps (a := (Y1.drewN nq).drew) (b := Y1) ⟨rfl, rfl, rfl, rfl⟩ (Keeps.refl _ Y1))
      have hh3 : Y3.heap = Y1.heap := by rw [hY3]; rfl
      rw [← hY3]
      clear hY3
      have hcl3 : ∀ q : Addr, Y3.drew.cell? q = Y1.cell? q := fun q => World.cell?_of_block (by show Y3.heap[q.block]? = _; rw [hh3])
      have y4' := (hcl3 _).trans y4
      have yu' := (hcl3 _).trans yu
      have hfz : Y3.drew.frozen? ⟨b, 1, none⟩ = false := (HU.out Y3.drew (by show Y3.heap[b]? = _; rw [hh3]; exact HY1.out.2.2.2.box.trans HA.out.2.2.1.box.symm)).2
      have hBb : B ≠ b := fun e => HB.out b (.inr ((HA.out.2.2.2.1 b).2 (.inl rfl))) e.symm
      have hS3 : (Y3.drew.setCell ⟨b, 1, none⟩ (.slice aF m m)).cell? ⟨B, 4, none⟩ = some (.int .i64 m) := (World.cell?_setCell_far Y3.drew ⟨b, 1, none⟩ ⟨B, 4, none⟩ _ (fun e => hBb e.symm)).trans y4'
      have hsh := run_shut Y3.drew aF NF cF m (by have := HA.out.2.2.2.2.2.1; omega)
      clear y4 yu hcl3 hh3 hBb
      go_wp2_with (go_at_call 8; refine (num_any _ _).mono ?_; rintro e w' ⟨rfl, hw'⟩; replace hw' := hw'.symm; subst hw')
      refine wp_held_end (S := fun W => W.cell? ⟨B, 4, none⟩ = some (.int .i64 m)) 13 rfl hmx ?_
      refine held_take (i := 0) (v := .pointer (some ⟨b, 0, none⟩)) 63 rfl rfl (by kernel_rfl) (by kernel_rfl) (by kernel_rfl) rfl (fun w' hw' => by go_simp) y4' ?_
      simp only [Act.put, List.setIfInBounds_toArray, List.set_cons_zero, List.set_cons_succ]
      refine held_take (i := 1) (v := .pointer (some ⟨b, 0, none⟩)) 64 rfl rfl (by kernel_rfl) (by kernel_rfl) (by kernel_rfl) rfl (fun w' hw' => by go_simp) y4' ?_
      simp only [Act.put, List.setIfInBounds_toArray, List.set_cons_zero, List.set_cons_succ]
      refine held_take (i := 2) (v := .pointer (some ⟨b, 0, none⟩)) 65 rfl rfl (by kernel_rfl) (by kernel_rfl) (by kernel_rfl) rfl (fun w' hw' => by go_simp) y4' ?_
      simp only [Act.put, List.setIfInBounds_toArray, List.set_cons_zero, List.set_cons_succ]
      refine held_take (i := 3) (v := .pointer (some ⟨b, 1, none⟩)) 66 rfl rfl (by kernel_rfl) (by kernel_rfl) (by kernel_rfl) rfl (fun w' hw' => by go_simp) y4' ?_
      simp only [Act.put, List.setIfInBounds_toArray, List.set_cons_zero, List.set_cons_succ]
      refine held_take (i := 5) (v := .pointer (some ⟨B, 4, none⟩)) 68 rfl rfl (by kernel_rfl) (by kernel_rfl) (by kernel_rfl) rfl (fun w' hw' => by go_simp) y4' ?_
      simp only [Act.put, List.setIfInBounds_toArray, List.set_cons_zero, List.set_cons_succ]
      refine held_take (i := 6) (v := .int .i64 m) 69 rfl rfl (by kernel_rfl) (by kernel_rfl) (by kernel_rfl) rfl (fun w' hw' => by go_simp) y4' ?_
      simp only [Act.put, List.setIfInBounds_toArray, List.set_cons_zero, List.set_cons_succ]
      refine held_take (i := 7) (v := .pointer (some ⟨B, 4, none⟩)) 70 rfl rfl (by kernel_rfl) (by kernel_rfl) (by kernel_rfl) rfl (fun w' hw' => by go_simp) y4' ?_
      simp only [Act.put, List.setIfInBounds_toArray, List.set_cons_zero, List.set_cons_succ]
      refine held_take (i := 8) (v := .int .i64 m) 71 rfl rfl (by kernel_rfl) (by kernel_rfl) (by kernel_rfl) rfl (fun w' hw' => by go_simp) y4' ?_
      simp only [Act.put, List.setIfInBounds_toArray, List.set_cons_zero, List.set_cons_succ]
      refine held_val (i := 4) (v := .slice aF NF cF) (w' := Y3.drew) (some 67) (by kernel_rfl) rfl rfl rfl (by go_simp) y4' ?_
      simp only [Act.put, List.setIfInBounds_toArray, List.set_cons_zero, List.set_cons_succ]
      refine held_val (i := 9) (v := .slice aF m m) (w' := Y3.drew) (some 72) (by kernel_rfl) rfl rfl rfl (by go_simp) y4' ?_
      simp only [Act.put, List.setIfInBounds_toArray, List.set_cons_zero, List.set_cons_succ]
      refine held_take (i := 10) (v := .pointer (some ⟨b, 0, none⟩)) 73 rfl rfl (by kernel_rfl) (by kernel_rfl) (by kernel_rfl) rfl (fun w' hw' => by go_simp) y4' ?_
      simp only [Act.put, List.setIfInBounds_toArray, List.set_cons_zero, List.set_cons_succ]
      refine held_take (i := 11) (v := .pointer (some ⟨b, 1, none⟩)) 74 rfl rfl (by kernel_rfl) (by kernel_rfl) (by kernel_rfl) rfl (fun w' hw' => by go_simp) y4' ?_
      simp only [Act.put, List.setIfInBounds_toArray, List.set_cons_zero, List.set_cons_succ]
      refine held_none (i := 12) (w' := Y3.drew.setCell ⟨b, 1, none⟩ (.slice aF m m)) (by kernel_rfl) rfl rfl rfl (by go_simp) hS3 ?_
      refine held_end (by kernel_rfl) ?_ _
      have hall := cut_state HA.out.1 HA.out.2.2.2.1 HA.out.2.2.2.2.1 HA.out.2.2.2.2.2.1 HA.out.2.2.2.2.2.2.1 HA.out.2.2.2.2.2.2.2 HY1.out.1 HY1.out.2.1 HY1.out.2.2.1 HY1.out.2.2.2 HK.out
      obtain ⟨hQ, hn1, hn2, hkU⟩ := hall
      have hlt : (L.take m).length ≤ L.length + 1 := by rw [List.length_take]; omega
      clear HA HY1 HK hS3 hsh hfz y4' yu' HU HB
      generalize Y3.drew.setCell ⟨b, 1, none⟩ (.slice aF m m) = Y6 at hQ hkU ⊢
      have HTo : Hid (∀ Z, Keeps (fun _ => False) Y6 Z → PrTo X Z r b most L Ow Of) := fun Z k => (PrTo.post ⟨_, _, _, hQ, hn1, hn2, hkU, hlt⟩ k).pre HPre.out
      clear hn1 hn2 hkU hlt
      obtain ⟨vT, hraT, hroT⟩ := id hQ.rf
      obtain ⟨aT, cT, hvT, _, _⟩ := hraT.row.form
      obtain ⟨NT, hNT⟩ : ∃ N, (L.take m).length = N := ⟨_, rfl⟩
      obtain ⟨MT, hMT⟩ : ∃ N, (redoE (L.take m)).length = N := ⟨_, rfl⟩
      rw [hNT] at hvT
      have hrdT := ref_redo b most (L.take m) vT Y6 hraT (by rw [List.length_take]; omega)
      have HST : Hid (∀ Z, Keeps (fun _ => False) Y6 Z → (fun W : World => W.cell? ⟨b, 1, none⟩ = some (.slice aT NT cT)) Z) := fun Z hk => by
        have h1 : Z.cell? ⟨b, 1, none⟩ = some vT := cell_of_block (hraT.kept hk (fun f => f) (fun _ _ f => f)).box 1
        rw [hvT] at h1; exact h1
      have HQ : Hid (Pr Y6 r b most (L.take m) _ _) := hQ
      have hMl : MT ≤ 1048576 := by have := hQ.lg.fit; omega
      have hNl : NT < 4398046511104 := by rw [← hNT]; exact (by rw [List.length_take]; omega)
      clear hraT hroT hvT
      go_wp2_with fail
      refine hrdT.mono ?_
      rintro e Z0 ⟨v2, rfl, hrow2, _, hkZ⟩
      obtain ⟨a2, c2, rfl, _, _⟩ := hrow2.form
      have HLenT : Hid (∀ W0, Like W0 Z0 → Calls Tryd.prog 35 #[.pointer (some ⟨r, 0, none⟩)] W0 fun e w' => e = .returned (.int .i64 MT) ∧ (fun W : World => W.cell? ⟨b, 1, none⟩ = some (.slice aT NT cT)) w' ∧ Hid (Keeps (fun _ => False) Z0 w')) := fun W0 hl => by
        have hk0 := hl.keeps (Keeps.refl (fun _ => False) Z0)
        refine (log_len r most _ _ W0 (HQ.out.same (hkZ.trans hk0)).lg).mono ?_
        rintro e w' ⟨rfl, rfl⟩
        exact ⟨by rw [hMT], HST.out _ (hkZ.trans hk0), hk0⟩
      have HMarkT : Hid (∀ Z W0, Keeps (fun _ => False) Z0 Z → Like W0 Z → Calls Tryd.prog 33 #[.pointer (some ⟨r, 0, none⟩)] W0 fun e w' => e = .returned (.int .i64 NT) ∧ (fun W : World => W.cell? ⟨b, 1, none⟩ = some (.slice aT NT cT)) w' ∧ Hid (Keeps (fun _ => False) Z0 w')) := fun Z W0 hk hl => by
        have hk0 := hl.keeps hk
        refine (log_mark r most _ _ W0 (HQ.out.same (hkZ.trans hk0)).lg).mono ?_
        rintro e w' ⟨rfl, rfl⟩
        exact ⟨by rw [hNT], HST.out _ (hkZ.trans hk0), hk0⟩
      have HAllT : Hid (∀ Z W0, Keeps (fun _ => False) Z0 Z → Like W0 Z → Calls Tryd.prog 26 #[.pointer (some ⟨r, 0, none⟩)] W0 fun e w' => ∃ bx, e = .returned (.func (.func 58) #[] #[.pointer (some ⟨bx, 0, none⟩)]) ∧ (fun W : World => W.cell? ⟨b, 1, none⟩ = some (.slice aT NT cT)) w' ∧ Hid (w'.heap[bx]? = some (.cells #[.func (.func 48) #[.pointer (some ⟨r, 0, none⟩)] #[]] 69 (0, 0)) ∧ Keeps (fun _ => False) Z0 w')) := fun Z W0 hk hl => by
        have hk0 := hl.keeps hk
        refine (all_redo _ W0).mono ?_
        rintro e w' ⟨rfl, rfl⟩
        exact ⟨_, rfl, HST.out _ (hkZ.trans (hk0.alloc _)), alloc_block _ _, hk0.alloc _⟩
      rw [hMT] at hrow2 ⊢
      have HWalkT : Hid (∀ Z bx W0, Keeps (fun _ => False) Z0 Z → Z.heap[bx]? = some (.cells #[.func (.func 48) #[.pointer (some ⟨r, 0, none⟩)] #[]] 69 (0, 0)) → Like W0 Z → Calls Tryd.prog 14 #[.func (.func 58) #[] #[.pointer (some ⟨bx, 0, none⟩)], .slice a2 MT c2, .int .i64 0] W0 fun e w' => e = .returned (.bool true) ∧ (fun W : World => W.cell? ⟨b, 1, none⟩ = some (.slice aT NT cT)) w' ∧ Hid (Keeps (fun _ => False) Z0 w')) := fun Z bx W0 hk hbx hl => by
        have hk0 := hl.keeps hk
        have hq0 := HQ.out.same (hkZ.trans hk0)
        have hp0 : Pairs W0 (.slice a2 MT c2) (redoE (L.take m)) := (show Row Z0 72 2 (.slice a2 MT c2) (redoE (L.take m)).length (entV (redoE (L.take m))) from by rw [hMT]; exact hrow2).pairs.keeps hk0
        refine (pr_walk hq0 (by rw [hl.heap]; exact hbx) hp0).mono ?_
        rintro e w' ⟨rfl, h2⟩
        exact ⟨rfl, HST.out _ (hkZ.trans (hk0.trans h2)), hk0.trans h2⟩
      have hST0 := HST.out Z0 hkZ
      have HKZ : Hid (Keeps (fun _ => False) Y6 Z0) := hkZ
      clear hrdT HST hrow2 hkZ hNT hMT hQ
      go_wp2_with fail
      go_region_held3 (fun W : World => W.cell? ⟨b, 1, none⟩ = some (.slice aT NT cT)) (first | assumption | (exact hST0) | go_keep) ((first
        | (go_at_call 35; refine (HLenT.out _ (by exact ⟨rfl, rfl, rfl, rfl⟩)).mono ?_; rintro e Z1 ⟨rfl, hZ1, hH1⟩)
        | (go_at_call 33; refine (HMarkT.out _ _ hH1.out (by exact ⟨rfl, rfl, rfl, rfl⟩)).mono ?_; rintro e Z2 ⟨rfl, hZ2, hH2⟩)
        | (go_at_call 26; refine (HAllT.out _ _ hH2.out (by exact ⟨rfl, rfl, rfl, rfl⟩)).mono ?_; rintro e Z3 ⟨bxT, rfl, hZ3, hH3⟩)
        | (go_at_call 14; refine (HWalkT.out _ _ _ hH3.out.2 hH3.out.1 (by exact ⟨rfl, rfl, rfl, rfl⟩)).mono ?_; rintro e Z4 ⟨rfl, hZ4, hH4⟩)))
      all_goals go_wp2_with fail
      all_goals go_ret
      all_goals exact ⟨rfl, HTo.out _ (HKZ.out.trans hH4.out)⟩
  by_cases hk4 : kd = 4
  · subst hk4
    have x4 : Y.cell? ⟨B, 4, none⟩ = some (.int .i64 n) := cell_of_block hbY 4
    have HTo : Hid (∀ Z, Keeps (fun _ => False) Y Z → PrTo X Z r b most L Ow Of) := fun Z k => (hPY.to.post k).pre HPre.out
    have hP : Pairs Y (.slice ao M co) (redoE L) := (show Row Y 72 2 (.slice ao M co) (redoE L).length (entV (redoE L)) from by rw [HM.out]; exact hrow).pairs
    have hAt := log_at_any r most L Ow n Y hPY.lg
    have HPY : Hid (Pr Y r b most L Ow Of) := hPY
    by_cases hout : n < 0 ∨ ((redoE L).length : Int) ≤ n
    · obtain ⟨q1, q2⟩ := atC_no hout
      rw [q1, q2] at hAt
      rw [HM.out] at hout
      have HBY : Hid (Y.heap[B]? = some (.cells #[.int .i64 4, .int .i64 on, .int .u64 ad, .int .u64 wd, .int .i64 n, .slice ac nc cc] 41)) := hbY
      clear q1 q2 hP hbY hrow hPY HB
      by_cases hneg : n < 0
      · clear hout
        have hge : decide (n ≥ 0) = false := by simp; omega
        go_wp2_with fail
        refine hAt.mono ?_
        rintro e Y1 ⟨rfl, hk1⟩
        have hk2 := hk1.alloc (.cells #[.int .u64 0, .int .u64 0] 72)
        have hb3 := alloc_block Y1 (.cells #[.int .u64 0, .int .u64 0] 72)
        have y4 : (Y1.alloc (.cells #[.int .u64 0, .int .u64 0] 72)).cell? ⟨B, 4, none⟩ = some (.int .i64 n) := cell_of_block (hk2.old HBY.out (fun f => f)) 4
        have z0 : (Y1.alloc (.cells #[.int .u64 0, .int .u64 0] 72)).cell? ⟨Y1.heap.size, 0, none⟩ = some (.int .u64 0) := cell_of_block hb3 0
        have z1 : (Y1.alloc (.cells #[.int .u64 0, .int .u64 0] 72)).cell? ⟨Y1.heap.size, 1, none⟩ = some (.int .u64 0) := cell_of_block hb3 1
        have HK2 : Hid (Keeps (fun _ => False) Y (Y1.alloc (.cells #[.int .u64 0, .int .u64 0] 72))) := hk2
        clear hAt x4 hk1 hk2 hb3
        go_wp2_with fail
        go_quiet (fail)
        obtain ⟨Y4, hY4⟩ : ∃ Z, Z = (Y1.alloc (.cells #[.int .u64 0, .int .u64 0] 72)).drewN nq := ⟨_, rfl⟩
        have hk4 : Keeps (fun _ => False) Y Y4 := by rw [hY4]; exact (like_drewN _ nq).keeps HK2.out
        rw [← hY4]
        have hQ := HPY.out.same hk4
        replace HTo : Hid (∀ Z, Keeps (fun _ => False) Y4 Z → PrTo X Z r b most L Ow Of) := fun Z k => HTo.out Z (hk4.trans k)
        clear hY4 HK2 y4 z0 z1 hk4 HPY HBY x0
        obtain ⟨vT, hraT, hroT⟩ := id hQ.rf
        obtain ⟨aT, cT, hvT, _, _⟩ := hraT.row.form
        obtain ⟨NT, hNT⟩ : ∃ N, (L).length = N := ⟨_, rfl⟩
        obtain ⟨MT, hMT⟩ : ∃ N, (redoE (L)).length = N := ⟨_, rfl⟩
        rw [hNT] at hvT
        have hrdT := ref_redo b most (L) vT Y4 hraT (by omega)
        have HST : Hid (∀ Z, Keeps (fun _ => False) Y4 Z → (fun W : World => W.cell? ⟨b, 1, none⟩ = some (.slice aT NT cT)) Z) := fun Z hk => by
          have h1 : Z.cell? ⟨b, 1, none⟩ = some vT := cell_of_block (hraT.kept hk (fun f => f) (fun _ _ f => f)).box 1
          rw [hvT] at h1; exact h1
        have HQ : Hid (Pr Y4 r b most (L) _ _) := hQ
        have hMl : MT ≤ 1048576 := by have := hQ.lg.fit; omega
        have hNl : NT < 4398046511104 := by rw [← hNT]; exact (by omega)
        clear hraT hroT hvT
        go_wp2_with fail
        refine hrdT.mono ?_
        rintro e Z0 ⟨v2, rfl, hrow2, _, hkZ⟩
        obtain ⟨a2, c2, rfl, _, _⟩ := hrow2.form
        have HLenT : Hid (∀ W0, Like W0 Z0 → Calls Tryd.prog 35 #[.pointer (some ⟨r, 0, none⟩)] W0 fun e w' => e = .returned (.int .i64 MT) ∧ (fun W : World => W.cell? ⟨b, 1, none⟩ = some (.slice aT NT cT)) w' ∧ Hid (Keeps (fun _ => False) Z0 w')) := fun W0 hl => by
          have hk0 := hl.keeps (Keeps.refl (fun _ => False) Z0)
          refine (log_len r most _ _ W0 (HQ.out.same (hkZ.trans hk0)).lg).mono ?_
          rintro e w' ⟨rfl, rfl⟩
          exact ⟨by rw [hMT], HST.out _ (hkZ.trans hk0), hk0⟩
        have HMarkT : Hid (∀ Z W0, Keeps (fun _ => False) Z0 Z → Like W0 Z → Calls Tryd.prog 33 #[.pointer (some ⟨r, 0, none⟩)] W0 fun e w' => e = .returned (.int .i64 NT) ∧ (fun W : World => W.cell? ⟨b, 1, none⟩ = some (.slice aT NT cT)) w' ∧ Hid (Keeps (fun _ => False) Z0 w')) := fun Z W0 hk hl => by
          have hk0 := hl.keeps hk
          refine (log_mark r most _ _ W0 (HQ.out.same (hkZ.trans hk0)).lg).mono ?_
          rintro e w' ⟨rfl, rfl⟩
          exact ⟨by rw [hNT], HST.out _ (hkZ.trans hk0), hk0⟩
        have HAllT : Hid (∀ Z W0, Keeps (fun _ => False) Z0 Z → Like W0 Z → Calls Tryd.prog 26 #[.pointer (some ⟨r, 0, none⟩)] W0 fun e w' => ∃ bx, e = .returned (.func (.func 58) #[] #[.pointer (some ⟨bx, 0, none⟩)]) ∧ (fun W : World => W.cell? ⟨b, 1, none⟩ = some (.slice aT NT cT)) w' ∧ Hid (w'.heap[bx]? = some (.cells #[.func (.func 48) #[.pointer (some ⟨r, 0, none⟩)] #[]] 69 (0, 0)) ∧ Keeps (fun _ => False) Z0 w')) := fun Z W0 hk hl => by
          have hk0 := hl.keeps hk
          refine (all_redo _ W0).mono ?_
          rintro e w' ⟨rfl, rfl⟩
          exact ⟨_, rfl, HST.out _ (hkZ.trans (hk0.alloc _)), alloc_block _ _, hk0.alloc _⟩
        rw [hMT] at hrow2 ⊢
        have HWalkT : Hid (∀ Z bx W0, Keeps (fun _ => False) Z0 Z → Z.heap[bx]? = some (.cells #[.func (.func 48) #[.pointer (some ⟨r, 0, none⟩)] #[]] 69 (0, 0)) → Like W0 Z → Calls Tryd.prog 14 #[.func (.func 58) #[] #[.pointer (some ⟨bx, 0, none⟩)], .slice a2 MT c2, .int .i64 0] W0 fun e w' => e = .returned (.bool true) ∧ (fun W : World => W.cell? ⟨b, 1, none⟩ = some (.slice aT NT cT)) w' ∧ Hid (Keeps (fun _ => False) Z0 w')) := fun Z bx W0 hk hbx hl => by
          have hk0 := hl.keeps hk
          have hq0 := HQ.out.same (hkZ.trans hk0)
          have hp0 : Pairs W0 (.slice a2 MT c2) (redoE (L)) := (show Row Z0 72 2 (.slice a2 MT c2) (redoE (L)).length (entV (redoE (L))) from by rw [hMT]; exact hrow2).pairs.keeps hk0
          refine (pr_walk hq0 (by rw [hl.heap]; exact hbx) hp0).mono ?_
          rintro e w' ⟨rfl, h2⟩
          exact ⟨rfl, HST.out _ (hkZ.trans (hk0.trans h2)), hk0.trans h2⟩
        have hST0 := HST.out Z0 hkZ
        have HKZ : Hid (Keeps (fun _ => False) Y4 Z0) := hkZ
        clear hrdT HST hrow2 hkZ hNT hMT hQ
        go_wp2_with fail
        go_region_held3 (fun W : World => W.cell? ⟨b, 1, none⟩ = some (.slice aT NT cT)) (first | assumption | (exact hST0) | go_keep) ((first
          | (go_at_call 35; refine (HLenT.out _ (by exact ⟨rfl, rfl, rfl, rfl⟩)).mono ?_; rintro e Z1 ⟨rfl, hZ1, hH1⟩)
          | (go_at_call 33; refine (HMarkT.out _ _ hH1.out (by exact ⟨rfl, rfl, rfl, rfl⟩)).mono ?_; rintro e Z2 ⟨rfl, hZ2, hH2⟩)
          | (go_at_call 26; refine (HAllT.out _ _ hH2.out (by exact ⟨rfl, rfl, rfl, rfl⟩)).mono ?_; rintro e Z3 ⟨bxT, rfl, hZ3, hH3⟩)
          | (go_at_call 14; refine (HWalkT.out _ _ _ hH3.out.2 hH3.out.1 (by exact ⟨rfl, rfl, rfl, rfl⟩)).mono ?_; rintro e Z4 ⟨rfl, hZ4, hH4⟩)))
        all_goals go_wp2_with fail
        all_goals go_ret
        all_goals exact ⟨rfl, HTo.out _ (HKZ.out.trans hH4.out)⟩
      · have hge : n ≥ 0 := by omega
        replace hout : (M : Int) ≤ n := by omega
        have hlt : ¬ n < (M : Int) := by omega
        have hga : decide (n < (M : Int)) = false := by simp; omega
        go_wp2_with fail
        refine hAt.mono ?_
        rintro e Y1 ⟨rfl, hk1⟩
        have hk2 := hk1.alloc (.cells #[.int .u64 0, .int .u64 0] 72)
        have hb3 := alloc_block Y1 (.cells #[.int .u64 0, .int .u64 0] 72)
        have y4 : (Y1.alloc (.cells #[.int .u64 0, .int .u64 0] 72)).cell? ⟨B, 4, none⟩ = some (.int .i64 n) := cell_of_block (hk2.old HBY.out (fun f => f)) 4
        have z0 : (Y1.alloc (.cells #[.int .u64 0, .int .u64 0] 72)).cell? ⟨Y1.heap.size, 0, none⟩ = some (.int .u64 0) := cell_of_block hb3 0
        have z1 : (Y1.alloc (.cells #[.int .u64 0, .int .u64 0] 72)).cell? ⟨Y1.heap.size, 1, none⟩ = some (.int .u64 0) := cell_of_block hb3 1
        have HK2 : Hid (Keeps (fun _ => False) Y (Y1.alloc (.cells #[.int .u64 0, .int .u64 0] 72))) := hk2
        clear hAt x4 hk1 hk2 hb3
        go_wp2_with fail
        go_quiet (fail)
        obtain ⟨Y4, hY4⟩ : ∃ Z, Z = (Y1.alloc (.cells #[.int .u64 0, .int .u64 0] 72)).drewN nq := ⟨_, rfl⟩
        have hk4 : Keeps (fun _ => False) Y Y4 := by rw [hY4]; exact (like_drewN _ nq).keeps HK2.out
        rw [← hY4]
        have hQ := HPY.out.same hk4
        replace HTo : Hid (∀ Z, Keeps (fun _ => False) Y4 Z → PrTo X Z r b most L Ow Of) := fun Z k => HTo.out Z (hk4.trans k)
        clear hY4 HK2 y4 z0 z1 hk4 HPY HBY x0
        obtain ⟨vT, hraT, hroT⟩ := id hQ.rf
        obtain ⟨aT, cT, hvT, _, _⟩ := hraT.row.form
        obtain ⟨NT, hNT⟩ : ∃ N, (L).length = N := ⟨_, rfl⟩
        obtain ⟨MT, hMT⟩ : ∃ N, (redoE (L)).length = N := ⟨_, rfl⟩
        rw [hNT] at hvT
        have hrdT := ref_redo b most (L) vT Y4 hraT (by omega)
        have HST : Hid (∀ Z, Keeps (fun _ => False) Y4 Z → (fun W : World => W.cell? ⟨b, 1, none⟩ = some (.slice aT NT cT)) Z) := fun Z hk => by
          have h1 : Z.cell? ⟨b, 1, none⟩ = some vT := cell_of_block (hraT.kept hk (fun f => f) (fun _ _ f => f)).box 1
          rw [hvT] at h1; exact h1
        have HQ : Hid (Pr Y4 r b most (L) _ _) := hQ
        have hMl : MT ≤ 1048576 := by have := hQ.lg.fit; omega
        have hNl : NT < 4398046511104 := by rw [← hNT]; exact (by omega)
        clear hraT hroT hvT
        go_wp2_with fail
        refine hrdT.mono ?_
        rintro e Z0 ⟨v2, rfl, hrow2, _, hkZ⟩
        obtain ⟨a2, c2, rfl, _, _⟩ := hrow2.form
        have HLenT : Hid (∀ W0, Like W0 Z0 → Calls Tryd.prog 35 #[.pointer (some ⟨r, 0, none⟩)] W0 fun e w' => e = .returned (.int .i64 MT) ∧ (fun W : World => W.cell? ⟨b, 1, none⟩ = some (.slice aT NT cT)) w' ∧ Hid (Keeps (fun _ => False) Z0 w')) := fun W0 hl => by
          have hk0 := hl.keeps (Keeps.refl (fun _ => False) Z0)
          refine (log_len r most _ _ W0 (HQ.out.same (hkZ.trans hk0)).lg).mono ?_
          rintro e w' ⟨rfl, rfl⟩
          exact ⟨by rw [hMT], HST.out _ (hkZ.trans hk0), hk0⟩
        have HMarkT : Hid (∀ Z W0, Keeps (fun _ => False) Z0 Z → Like W0 Z → Calls Tryd.prog 33 #[.pointer (some ⟨r, 0, none⟩)] W0 fun e w' => e = .returned (.int .i64 NT) ∧ (fun W : World => W.cell? ⟨b, 1, none⟩ = some (.slice aT NT cT)) w' ∧ Hid (Keeps (fun _ => False) Z0 w')) := fun Z W0 hk hl => by
          have hk0 := hl.keeps hk
          refine (log_mark r most _ _ W0 (HQ.out.same (hkZ.trans hk0)).lg).mono ?_
          rintro e w' ⟨rfl, rfl⟩
          exact ⟨by rw [hNT], HST.out _ (hkZ.trans hk0), hk0⟩
        have HAllT : Hid (∀ Z W0, Keeps (fun _ => False) Z0 Z → Like W0 Z → Calls Tryd.prog 26 #[.pointer (some ⟨r, 0, none⟩)] W0 fun e w' => ∃ bx, e = .returned (.func (.func 58) #[] #[.pointer (some ⟨bx, 0, none⟩)]) ∧ (fun W : World => W.cell? ⟨b, 1, none⟩ = some (.slice aT NT cT)) w' ∧ Hid (w'.heap[bx]? = some (.cells #[.func (.func 48) #[.pointer (some ⟨r, 0, none⟩)] #[]] 69 (0, 0)) ∧ Keeps (fun _ => False) Z0 w')) := fun Z W0 hk hl => by
          have hk0 := hl.keeps hk
          refine (all_redo _ W0).mono ?_
          rintro e w' ⟨rfl, rfl⟩
          exact ⟨_, rfl, HST.out _ (hkZ.trans (hk0.alloc _)), alloc_block _ _, hk0.alloc _⟩
        rw [hMT] at hrow2 ⊢
        have HWalkT : Hid (∀ Z bx W0, Keeps (fun _ => False) Z0 Z → Z.heap[bx]? = some (.cells #[.func (.func 48) #[.pointer (some ⟨r, 0, none⟩)] #[]] 69 (0, 0)) → Like W0 Z → Calls Tryd.prog 14 #[.func (.func 58) #[] #[.pointer (some ⟨bx, 0, none⟩)], .slice a2 MT c2, .int .i64 0] W0 fun e w' => e = .returned (.bool true) ∧ (fun W : World => W.cell? ⟨b, 1, none⟩ = some (.slice aT NT cT)) w' ∧ Hid (Keeps (fun _ => False) Z0 w')) := fun Z bx W0 hk hbx hl => by
          have hk0 := hl.keeps hk
          have hq0 := HQ.out.same (hkZ.trans hk0)
          have hp0 : Pairs W0 (.slice a2 MT c2) (redoE (L)) := (show Row Z0 72 2 (.slice a2 MT c2) (redoE (L)).length (entV (redoE (L))) from by rw [hMT]; exact hrow2).pairs.keeps hk0
          refine (pr_walk hq0 (by rw [hl.heap]; exact hbx) hp0).mono ?_
          rintro e w' ⟨rfl, h2⟩
          exact ⟨rfl, HST.out _ (hkZ.trans (hk0.trans h2)), hk0.trans h2⟩
        have hST0 := HST.out Z0 hkZ
        have HKZ : Hid (Keeps (fun _ => False) Y4 Z0) := hkZ
        clear hrdT HST hrow2 hkZ hNT hMT hQ
        go_wp2_with fail
        go_region_held3 (fun W : World => W.cell? ⟨b, 1, none⟩ = some (.slice aT NT cT)) (first | assumption | (exact hST0) | go_keep) ((first
          | (go_at_call 35; refine (HLenT.out _ (by exact ⟨rfl, rfl, rfl, rfl⟩)).mono ?_; rintro e Z1 ⟨rfl, hZ1, hH1⟩)
          | (go_at_call 33; refine (HMarkT.out _ _ hH1.out (by exact ⟨rfl, rfl, rfl, rfl⟩)).mono ?_; rintro e Z2 ⟨rfl, hZ2, hH2⟩)
          | (go_at_call 26; refine (HAllT.out _ _ hH2.out (by exact ⟨rfl, rfl, rfl, rfl⟩)).mono ?_; rintro e Z3 ⟨bxT, rfl, hZ3, hH3⟩)
          | (go_at_call 14; refine (HWalkT.out _ _ _ hH3.out.2 hH3.out.1 (by exact ⟨rfl, rfl, rfl, rfl⟩)).mono ?_; rintro e Z4 ⟨rfl, hZ4, hH4⟩)))
        all_goals go_wp2_with fail
        all_goals go_ret
        all_goals exact ⟨rfl, HTo.out _ (HKZ.out.trans hH4.out)⟩
    · obtain ⟨k, rfl⟩ : ∃ k : Nat, n = k := ⟨n.toNat, by omega⟩
      have hkl : k < (redoE L).length := by omega
      obtain ⟨q1, q2⟩ := atC_yes (es := redoE L) hkl
      obtain ⟨g, off, x, y, hal, hx, HC⟩ := hP.fixed hkl
      subst hal
      obtain ⟨_, hx'⟩ := List.getElem?_eq_some_iff.1 hx
      rw [q1, q2, hx'] at hAt
      dsimp only at hAt
      rw [HM.out] at hkl
      have hkl2 : (k : Int) < (M : Int) := by omega
      have hk0 : (0 : Int) ≤ (k : Int) := by omega
      have HBY : Hid (Y.heap[B]? = some (.cells #[.int .i64 4, .int .i64 on, .int .u64 ad, .int .u64 wd, .int .i64 k, .slice ac nc cc] 41)) := hbY
      clear q1 q2 hP hx hx' hout hbY hrow hPY HB
      go_wp2_with fail
      refine hAt.mono ?_
      rintro e Y1 ⟨rfl, hk1⟩
      have hk2 := hk1.alloc (.cells #[.int .u64 x, .int .u64 y] 72)
      have hb3 := alloc_block Y1 (.cells #[.int .u64 x, .int .u64 y] 72)
      have y4 : (Y1.alloc (.cells #[.int .u64 x, .int .u64 y] 72)).cell? ⟨B, 4, none⟩ = some (.int .i64 k) := cell_of_block (hk2.old HBY.out (fun f => f)) 4
      have z0 : (Y1.alloc (.cells #[.int .u64 x, .int .u64 y] 72)).cell? ⟨Y1.heap.size, 0, none⟩ = some (.int .u64 x) := cell_of_block hb3 0
      have z1 : (Y1.alloc (.cells #[.int .u64 x, .int .u64 y] 72)).cell? ⟨Y1.heap.size, 1, none⟩ = some (.int .u64 y) := cell_of_block hb3 1
      obtain ⟨p0, p1⟩ := HC.out _ hk2
      have HK2 : Hid (Keeps (fun _ => False) Y (Y1.alloc (.cells #[.int .u64 x, .int .u64 y] 72))) := hk2
      clear hAt x4 hk1 hk2 hb3
      go_wp2_with fail
      go_quiet (fail)
      obtain ⟨Y4, hY4⟩ : ∃ Z, Z = (Y1.alloc (.cells #[.int .u64 x, .int .u64 y] 72)).drewN nq := ⟨_, rfl⟩
      have hk4 : Keeps (fun _ => False) Y Y4 := by rw [hY4]; exact (like_drewN _ nq).keeps HK2.out
      rw [← hY4]
      have hQ := HPY.out.same hk4
      replace HTo : Hid (∀ Z, Keeps (fun _ => False) Y4 Z → PrTo X Z r b most L Ow Of) := fun Z k => HTo.out Z (hk4.trans k)
      clear hY4 HK2 y4 z0 z1 hk4 HPY HBY x0 p0 p1 HC
      obtain ⟨vT, hraT, hroT⟩ := id hQ.rf
      obtain ⟨aT, cT, hvT, _, _⟩ := hraT.row.form
      obtain ⟨NT, hNT⟩ : ∃ N, (L).length = N := ⟨_, rfl⟩
      obtain ⟨MT, hMT⟩ : ∃ N, (redoE (L)).length = N := ⟨_, rfl⟩
      rw [hNT] at hvT
      have hrdT := ref_redo b most (L) vT Y4 hraT (by omega)
      have HST : Hid (∀ Z, Keeps (fun _ => False) Y4 Z → (fun W : World => W.cell? ⟨b, 1, none⟩ = some (.slice aT NT cT)) Z) := fun Z hk => by
        have h1 : Z.cell? ⟨b, 1, none⟩ = some vT := cell_of_block (hraT.kept hk (fun f => f) (fun _ _ f => f)).box 1
        rw [hvT] at h1; exact h1
      have HQ : Hid (Pr Y4 r b most (L) _ _) := hQ
      have hMl : MT ≤ 1048576 := by have := hQ.lg.fit; omega
      have hNl : NT < 4398046511104 := by rw [← hNT]; exact (by omega)
      clear hraT hroT hvT
      go_wp2_with fail
      refine hrdT.mono ?_
      rintro e Z0 ⟨v2, rfl, hrow2, _, hkZ⟩
      obtain ⟨a2, c2, rfl, _, _⟩ := hrow2.form
      have HLenT : Hid (∀ W0, Like W0 Z0 → Calls Tryd.prog 35 #[.pointer (some ⟨r, 0, none⟩)] W0 fun e w' => e = .returned (.int .i64 MT) ∧ (fun W : World => W.cell? ⟨b, 1, none⟩ = some (.slice aT NT cT)) w' ∧ Hid (Keeps (fun _ => False) Z0 w')) := fun W0 hl => by
        have hk0 := hl.keeps (Keeps.refl (fun _ => False) Z0)
        refine (log_len r most _ _ W0 (HQ.out.same (hkZ.trans hk0)).lg).mono ?_
        rintro e w' ⟨rfl, rfl⟩
        exact ⟨by rw [hMT], HST.out _ (hkZ.trans hk0), hk0⟩
      have HMarkT : Hid (∀ Z W0, Keeps (fun _ => False) Z0 Z → Like W0 Z → Calls Tryd.prog 33 #[.pointer (some ⟨r, 0, none⟩)] W0 fun e w' => e = .returned (.int .i64 NT) ∧ (fun W : World => W.cell? ⟨b, 1, none⟩ = some (.slice aT NT cT)) w' ∧ Hid (Keeps (fun _ => False) Z0 w')) := fun Z W0 hk hl => by
        have hk0 := hl.keeps hk
        refine (log_mark r most _ _ W0 (HQ.out.same (hkZ.trans hk0)).lg).mono ?_
        rintro e w' ⟨rfl, rfl⟩
        exact ⟨by rw [hNT], HST.out _ (hkZ.trans hk0), hk0⟩
      have HAllT : Hid (∀ Z W0, Keeps (fun _ => False) Z0 Z → Like W0 Z → Calls Tryd.prog 26 #[.pointer (some ⟨r, 0, none⟩)] W0 fun e w' => ∃ bx, e = .returned (.func (.func 58) #[] #[.pointer (some ⟨bx, 0, none⟩)]) ∧ (fun W : World => W.cell? ⟨b, 1, none⟩ = some (.slice aT NT cT)) w' ∧ Hid (w'.heap[bx]? = some (.cells #[.func (.func 48) #[.pointer (some ⟨r, 0, none⟩)] #[]] 69 (0, 0)) ∧ Keeps (fun _ => False) Z0 w')) := fun Z W0 hk hl => by
        have hk0 := hl.keeps hk
        refine (all_redo _ W0).mono ?_
        rintro e w' ⟨rfl, rfl⟩
        exact ⟨_, rfl, HST.out _ (hkZ.trans (hk0.alloc _)), alloc_block _ _, hk0.alloc _⟩
      rw [hMT] at hrow2 ⊢
      have HWalkT : Hid (∀ Z bx W0, Keeps (fun _ => False) Z0 Z → Z.heap[bx]? = some (.cells #[.func (.func 48) #[.pointer (some ⟨r, 0, none⟩)] #[]] 69 (0, 0)) → Like W0 Z → Calls Tryd.prog 14 #[.func (.func 58) #[] #[.pointer (some ⟨bx, 0, none⟩)], .slice a2 MT c2, .int .i64 0] W0 fun e w' => e = .returned (.bool true) ∧ (fun W : World => W.cell? ⟨b, 1, none⟩ = some (.slice aT NT cT)) w' ∧ Hid (Keeps (fun _ => False) Z0 w')) := fun Z bx W0 hk hbx hl => by
        have hk0 := hl.keeps hk
        have hq0 := HQ.out.same (hkZ.trans hk0)
        have hp0 : Pairs W0 (.slice a2 MT c2) (redoE (L)) := (show Row Z0 72 2 (.slice a2 MT c2) (redoE (L)).length (entV (redoE (L))) from by rw [hMT]; exact hrow2).pairs.keeps hk0
        refine (pr_walk hq0 (by rw [hl.heap]; exact hbx) hp0).mono ?_
        rintro e w' ⟨rfl, h2⟩
        exact ⟨rfl, HST.out _ (hkZ.trans (hk0.trans h2)), hk0.trans h2⟩
      have hST0 := HST.out Z0 hkZ
      have HKZ : Hid (Keeps (fun _ => False) Y4 Z0) := hkZ
      clear hrdT HST hrow2 hkZ hNT hMT hQ
      go_wp2_with fail
      go_region_held3 (fun W : World => W.cell? ⟨b, 1, none⟩ = some (.slice aT NT cT)) (first | assumption | (exact hST0) | go_keep) ((first
        | (go_at_call 35; refine (HLenT.out _ (by exact ⟨rfl, rfl, rfl, rfl⟩)).mono ?_; rintro e Z1 ⟨rfl, hZ1, hH1⟩)
        | (go_at_call 33; refine (HMarkT.out _ _ hH1.out (by exact ⟨rfl, rfl, rfl, rfl⟩)).mono ?_; rintro e Z2 ⟨rfl, hZ2, hH2⟩)
        | (go_at_call 26; refine (HAllT.out _ _ hH2.out (by exact ⟨rfl, rfl, rfl, rfl⟩)).mono ?_; rintro e Z3 ⟨bxT, rfl, hZ3, hH3⟩)
        | (go_at_call 14; refine (HWalkT.out _ _ _ hH3.out.2 hH3.out.1 (by exact ⟨rfl, rfl, rfl, rfl⟩)).mono ?_; rintro e Z4 ⟨rfl, hZ4, hH4⟩)))
      all_goals go_wp2_with fail
      all_goals go_ret
      all_goals exact ⟨rfl, HTo.out _ (HKZ.out.trans hH4.out)⟩
  by_cases hk5 : kd = 5
  · subst hk5
    have x4 : Y.cell? ⟨B, 4, none⟩ = some (.int .i64 n) := cell_of_block hbY 4
    have HTo : Hid (∀ Z, Keeps (fun _ => False) Y Z → PrTo X Z r b most L Ow Of) := fun Z k => (hPY.to.post k).pre HPre.out
    have HW : Hid (∀ Z bx m, Keeps (fun _ => False) Y Z → Z.heap[bx]? = some (.cells #[.func (.func 48) #[.pointer (some ⟨r, 0, none⟩)] #[]] 69 (0, 0)) → Calls Tryd.prog 14 #[.func (.func 58) #[] #[.pointer (some ⟨bx, 0, none⟩)], .slice ao M co, .int .i64 m] Z fun e w' => e = .returned (.bool true) ∧ Keeps (fun _ => False) Z w') := fun Z bx m hk hbx => pr_walk (hPY.same hk) hbx ((show Row Y 72 2 (.slice ao M co) (redoE L).length (entV (redoE L)) from by rw [HM.out]; exact hrow).pairs.keeps hk)
    have hka : Keeps (fun _ => False) Y (Y.alloc (.cells #[.func (.func 48) #[.pointer (some ⟨r, 0, none⟩)] #[]] 69)) := (Keeps.refl _ Y).alloc _
    have hbx0 := alloc_block Y (.cells #[.func (.func 48) #[.pointer (some ⟨r, 0, none⟩)] #[]] 69)
    have x4' : (Y.alloc (.cells #[.func (.func 48) #[.pointer (some ⟨r, 0, none⟩)] #[]] 69)).cell? ⟨B, 4, none⟩ = some (.int .i64 n) := cell_of_block (alloc_old hbY _) 4
    have HPY : Hid (Pr Y r b most L Ow Of) := hPY
    clear hbY hrow x4 hPY
    go_wp2_with (go_at_call 26; refine (all_redo _ _).mono ?_; rintro e w' ⟨rfl, hw'⟩; replace hw' := hw'.symm; subst hw')
    refine (HW.out _ Y.heap.size n hka hbx0).mono ?_
    rintro e Y1 ⟨rfl, hky1⟩
    have hky1' := hka.trans hky1
    have hbx1 := hky1.old hbx0 (fun f => f)
    clear hka hbx0 x4' hky1
    go_wp2_with fail
    refine (HW.out _ Y.heap.size 0 hky1' hbx1).mono ?_
    rintro e Y2 ⟨rfl, hky2⟩
    have hQ := HPY.out.same (hky1'.trans hky2)
    replace HTo : Hid (∀ Z, Keeps (fun _ => False) Y2 Z → PrTo X Z r b most L Ow Of) := fun Z k => HTo.out Z ((hky1'.trans hky2).trans k)
    clear hbx1 hky1' hky2 HPY HW x0
    obtain ⟨vT, hraT, hroT⟩ := id hQ.rf
    obtain ⟨aT, cT, hvT, _, _⟩ := hraT.row.form
    obtain ⟨NT, hNT⟩ : ∃ N, (L).length = N := ⟨_, rfl⟩
    obtain ⟨MT, hMT⟩ : ∃ N, (redoE (L)).length = N := ⟨_, rfl⟩
    rw [hNT] at hvT
    have hrdT := ref_redo b most (L) vT Y2 hraT (by omega)
    have HST : Hid (∀ Z, Keeps (fun _ => False) Y2 Z → (fun W : World => W.cell? ⟨b, 1, none⟩ = some (.slice aT NT cT)) Z) := fun Z hk => by
      have h1 : Z.cell? ⟨b, 1, none⟩ = some vT := cell_of_block (hraT.kept hk (fun f => f) (fun _ _ f => f)).box 1
      rw [hvT] at h1; exact h1
    have HQ : Hid (Pr Y2 r b most (L) _ _) := hQ
    have hMl : MT ≤ 1048576 := by have := hQ.lg.fit; omega
    have hNl : NT < 4398046511104 := by rw [← hNT]; exact (by omega)
    clear hraT hroT hvT
    go_wp2_with fail
    refine hrdT.mono ?_
    rintro e Z0 ⟨v2, rfl, hrow2, _, hkZ⟩
    obtain ⟨a2, c2, rfl, _, _⟩ := hrow2.form
    have HLenT : Hid (∀ W0, Like W0 Z0 → Calls Tryd.prog 35 #[.pointer (some ⟨r, 0, none⟩)] W0 fun e w' => e = .returned (.int .i64 MT) ∧ (fun W : World => W.cell? ⟨b, 1, none⟩ = some (.slice aT NT cT)) w' ∧ Hid (Keeps (fun _ => False) Z0 w')) := fun W0 hl => by
      have hk0 := hl.keeps (Keeps.refl (fun _ => False) Z0)
      refine (log_len r most _ _ W0 (HQ.out.same (hkZ.trans hk0)).lg).mono ?_
      rintro e w' ⟨rfl, rfl⟩
      exact ⟨by rw [hMT], HST.out _ (hkZ.trans hk0), hk0⟩
    have HMarkT : Hid (∀ Z W0, Keeps (fun _ => False) Z0 Z → Like W0 Z → Calls Tryd.prog 33 #[.pointer (some ⟨r, 0, none⟩)] W0 fun e w' => e = .returned (.int .i64 NT) ∧ (fun W : World => W.cell? ⟨b, 1, none⟩ = some (.slice aT NT cT)) w' ∧ Hid (Keeps (fun _ => False) Z0 w')) := fun Z W0 hk hl => by
      have hk0 := hl.keeps hk
      refine (log_mark r most _ _ W0 (HQ.out.same (hkZ.trans hk0)).lg).mono ?_
      rintro e w' ⟨rfl, rfl⟩
      exact ⟨by rw [hNT], HST.out _ (hkZ.trans hk0), hk0⟩
    have HAllT : Hid (∀ Z W0, Keeps (fun _ => False) Z0 Z → Like W0 Z → Calls Tryd.prog 26 #[.pointer (some ⟨r, 0, none⟩)] W0 fun e w' => ∃ bx, e = .returned (.func (.func 58) #[] #[.pointer (some ⟨bx, 0, none⟩)]) ∧ (fun W : World => W.cell? ⟨b, 1, none⟩ = some (.slice aT NT cT)) w' ∧ Hid (w'.heap[bx]? = some (.cells #[.func (.func 48) #[.pointer (some ⟨r, 0, none⟩)] #[]] 69 (0, 0)) ∧ Keeps (fun _ => False) Z0 w')) := fun Z W0 hk hl => by
      have hk0 := hl.keeps hk
      refine (all_redo _ W0).mono ?_
      rintro e w' ⟨rfl, rfl⟩
      exact ⟨_, rfl, HST.out _ (hkZ.trans (hk0.alloc _)), alloc_block _ _, hk0.alloc _⟩
    rw [hMT] at hrow2 ⊢
    have HWalkT : Hid (∀ Z bx W0, Keeps (fun _ => False) Z0 Z → Z.heap[bx]? = some (.cells #[.func (.func 48) #[.pointer (some ⟨r, 0, none⟩)] #[]] 69 (0, 0)) → Like W0 Z → Calls Tryd.prog 14 #[.func (.func 58) #[] #[.pointer (some ⟨bx, 0, none⟩)], .slice a2 MT c2, .int .i64 0] W0 fun e w' => e = .returned (.bool true) ∧ (fun W : World => W.cell? ⟨b, 1, none⟩ = some (.slice aT NT cT)) w' ∧ Hid (Keeps (fun _ => False) Z0 w')) := fun Z bx W0 hk hbx hl => by
      have hk0 := hl.keeps hk
      have hq0 := HQ.out.same (hkZ.trans hk0)
      have hp0 : Pairs W0 (.slice a2 MT c2) (redoE (L)) := (show Row Z0 72 2 (.slice a2 MT c2) (redoE (L)).length (entV (redoE (L))) from by rw [hMT]; exact hrow2).pairs.keeps hk0
      refine (pr_walk hq0 (by rw [hl.heap]; exact hbx) hp0).mono ?_
      rintro e w' ⟨rfl, h2⟩
      exact ⟨rfl, HST.out _ (hkZ.trans (hk0.trans h2)), hk0.trans h2⟩
    have hST0 := HST.out Z0 hkZ
    have HKZ : Hid (Keeps (fun _ => False) Y2 Z0) := hkZ
    clear hrdT HST hrow2 hkZ hNT hMT hQ
    go_wp2_with fail
    go_region_held3 (fun W : World => W.cell? ⟨b, 1, none⟩ = some (.slice aT NT cT)) (first | assumption | (exact hST0) | go_keep) ((first
      | (go_at_call 35; refine (HLenT.out _ (by exact ⟨rfl, rfl, rfl, rfl⟩)).mono ?_; rintro e Z1 ⟨rfl, hZ1, hH1⟩)
      | (go_at_call 33; refine (HMarkT.out _ _ hH1.out (by exact ⟨rfl, rfl, rfl, rfl⟩)).mono ?_; rintro e Z2 ⟨rfl, hZ2, hH2⟩)
      | (go_at_call 26; refine (HAllT.out _ _ hH2.out (by exact ⟨rfl, rfl, rfl, rfl⟩)).mono ?_; rintro e Z3 ⟨bxT, rfl, hZ3, hH3⟩)
      | (go_at_call 14; refine (HWalkT.out _ _ _ hH3.out.2 hH3.out.1 (by exact ⟨rfl, rfl, rfl, rfl⟩)).mono ?_; rintro e Z4 ⟨rfl, hZ4, hH4⟩)))
    all_goals go_wp2_with fail
    all_goals go_ret
    all_goals exact ⟨rfl, HTo.out _ (HKZ.out.trans hH4.out)⟩
  by_cases hk7 : kd = 7
  · subst hk7
    have x2 : Y.cell? ⟨B, 2, none⟩ = some (.int .u64 ad) := cell_of_block hbY 2
    have hg1 := log_get r most L Ow ad Y hPY.lg hPY.tz
    have hg2 := refo_get b most L Of ad Y hPY.rf (by omega)
    have HTo : Hid (∀ Z, Keeps (fun _ => False) Y Z → PrTo X Z r b most L Ow Of) := fun Z k => (hPY.to.post k).pre HPre.out
    generalize (if idxE (redoE L) ad < (redoE L).length then wordE (redoE L) ad else 0) = G at hg1 hg2
    generalize decide (idxE (redoE L) ad < (redoE L).length) = g at hg1 hg2
    have z1 : (G != G) = false := by simp
    have z2 : (g != g) = false := by simp
    clear hbY hrow
    go_wp2_with (go_at_call 37; refine hg1.mono ?_; rintro e w' ⟨rfl, hw'⟩; replace hw' := hw'.symm; subst hw')
    refine hg2.mono ?_
    rintro e Y1 ⟨rfl, hk7⟩
    have hQ := hPY.same hk7
    replace HTo : Hid (∀ Z, Keeps (fun _ => False) Y1 Z → PrTo X Z r b most L Ow Of) := fun Z k => HTo.out Z (hk7.trans k)
    clear hg1 hg2 hPY hk7 x0 x2
    obtain ⟨vT, hraT, hroT⟩ := id hQ.rf
    obtain ⟨aT, cT, hvT, _, _⟩ := hraT.row.form
    obtain ⟨NT, hNT⟩ : ∃ N, (L).length = N := ⟨_, rfl⟩
    obtain ⟨MT, hMT⟩ : ∃ N, (redoE (L)).length = N := ⟨_, rfl⟩
    rw [hNT] at hvT
    have hrdT := ref_redo b most (L) vT Y1 hraT (by omega)
    have HST : Hid (∀ Z, Keeps (fun _ => False) Y1 Z → (fun W : World => W.cell? ⟨b, 1, none⟩ = some (.slice aT NT cT)) Z) := fun Z hk => by
      have h1 : Z.cell? ⟨b, 1, none⟩ = some vT := cell_of_block (hraT.kept hk (fun f => f) (fun _ _ f => f)).box 1
      rw [hvT] at h1; exact h1
    have HQ : Hid (Pr Y1 r b most (L) _ _) := hQ
    have hMl : MT ≤ 1048576 := by have := hQ.lg.fit; omega
    have hNl : NT < 4398046511104 := by rw [← hNT]; exact (by omega)
    clear hraT hroT hvT
    go_wp2_with fail
    refine hrdT.mono ?_
    rintro e Z0 ⟨v2, rfl, hrow2, _, hkZ⟩
    obtain ⟨a2, c2, rfl, _, _⟩ := hrow2.form
    have HLenT : Hid (∀ W0, Like W0 Z0 → Calls Tryd.prog 35 #[.pointer (some ⟨r, 0, none⟩)] W0 fun e w' => e = .returned (.int .i64 MT) ∧ (fun W : World => W.cell? ⟨b, 1, none⟩ = some (.slice aT NT cT)) w' ∧ Hid (Keeps (fun _ => False) Z0 w')) := fun W0 hl => by
      have hk0 := hl.keeps (Keeps.refl (fun _ => False) Z0)
      refine (log_len r most _ _ W0 (HQ.out.same (hkZ.trans hk0)).lg).mono ?_
      rintro e w' ⟨rfl, rfl⟩
      exact ⟨by rw [hMT], HST.out _ (hkZ.trans hk0), hk0⟩
    have HMarkT : Hid (∀ Z W0, Keeps (fun _ => False) Z0 Z → Like W0 Z → Calls Tryd.prog 33 #[.pointer (some ⟨r, 0, none⟩)] W0 fun e w' => e = .returned (.int .i64 NT) ∧ (fun W : World => W.cell? ⟨b, 1, none⟩ = some (.slice aT NT cT)) w' ∧ Hid (Keeps (fun _ => False) Z0 w')) := fun Z W0 hk hl => by
      have hk0 := hl.keeps hk
      refine (log_mark r most _ _ W0 (HQ.out.same (hkZ.trans hk0)).lg).mono ?_
      rintro e w' ⟨rfl, rfl⟩
      exact ⟨by rw [hNT], HST.out _ (hkZ.trans hk0), hk0⟩
    have HAllT : Hid (∀ Z W0, Keeps (fun _ => False) Z0 Z → Like W0 Z → Calls Tryd.prog 26 #[.pointer (some ⟨r, 0, none⟩)] W0 fun e w' => ∃ bx, e = .returned (.func (.func 58) #[] #[.pointer (some ⟨bx, 0, none⟩)]) ∧ (fun W : World => W.cell? ⟨b, 1, none⟩ = some (.slice aT NT cT)) w' ∧ Hid (w'.heap[bx]? = some (.cells #[.func (.func 48) #[.pointer (some ⟨r, 0, none⟩)] #[]] 69 (0, 0)) ∧ Keeps (fun _ => False) Z0 w')) := fun Z W0 hk hl => by
      have hk0 := hl.keeps hk
      refine (all_redo _ W0).mono ?_
      rintro e w' ⟨rfl, rfl⟩
      exact ⟨_, rfl, HST.out _ (hkZ.trans (hk0.alloc _)), alloc_block _ _, hk0.alloc _⟩
    rw [hMT] at hrow2 ⊢
    have HWalkT : Hid (∀ Z bx W0, Keeps (fun _ => False) Z0 Z → Z.heap[bx]? = some (.cells #[.func (.func 48) #[.pointer (some ⟨r, 0, none⟩)] #[]] 69 (0, 0)) → Like W0 Z → Calls Tryd.prog 14 #[.func (.func 58) #[] #[.pointer (some ⟨bx, 0, none⟩)], .slice a2 MT c2, .int .i64 0] W0 fun e w' => e = .returned (.bool true) ∧ (fun W : World => W.cell? ⟨b, 1, none⟩ = some (.slice aT NT cT)) w' ∧ Hid (Keeps (fun _ => False) Z0 w')) := fun Z bx W0 hk hbx hl => by
      have hk0 := hl.keeps hk
      have hq0 := HQ.out.same (hkZ.trans hk0)
      have hp0 : Pairs W0 (.slice a2 MT c2) (redoE (L)) := (show Row Z0 72 2 (.slice a2 MT c2) (redoE (L)).length (entV (redoE (L))) from by rw [hMT]; exact hrow2).pairs.keeps hk0
      refine (pr_walk hq0 (by rw [hl.heap]; exact hbx) hp0).mono ?_
      rintro e w' ⟨rfl, h2⟩
      exact ⟨rfl, HST.out _ (hkZ.trans (hk0.trans h2)), hk0.trans h2⟩
    have hST0 := HST.out Z0 hkZ
    have HKZ : Hid (Keeps (fun _ => False) Y1 Z0) := hkZ
    clear hrdT HST hrow2 hkZ hNT hMT hQ
    go_wp2_with fail
    go_region_held3 (fun W : World => W.cell? ⟨b, 1, none⟩ = some (.slice aT NT cT)) (first | assumption | (exact hST0) | go_keep) ((first
      | (go_at_call 35; refine (HLenT.out _ (by exact ⟨rfl, rfl, rfl, rfl⟩)).mono ?_; rintro e Z1 ⟨rfl, hZ1, hH1⟩)
      | (go_at_call 33; refine (HMarkT.out _ _ hH1.out (by exact ⟨rfl, rfl, rfl, rfl⟩)).mono ?_; rintro e Z2 ⟨rfl, hZ2, hH2⟩)
      | (go_at_call 26; refine (HAllT.out _ _ hH2.out (by exact ⟨rfl, rfl, rfl, rfl⟩)).mono ?_; rintro e Z3 ⟨bxT, rfl, hZ3, hH3⟩)
      | (go_at_call 14; refine (HWalkT.out _ _ _ hH3.out.2 hH3.out.1 (by exact ⟨rfl, rfl, rfl, rfl⟩)).mono ?_; rintro e Z4 ⟨rfl, hZ4, hH4⟩)))
    all_goals go_wp2_with fail
    all_goals go_ret
    all_goals exact ⟨rfl, HTo.out _ (HKZ.out.trans hH4.out)⟩
  · have hQ := hPY
    have HTo : Hid (∀ Z, Keeps (fun _ => False) Y Z → PrTo X Z r b most L Ow Of) := fun Z k => (hPY.to.post k).pre HPre.out
    clear hPY hbY hrow
    obtain ⟨vT, hraT, hroT⟩ := id hQ.rf
    obtain ⟨aT, cT, hvT, _, _⟩ := hraT.row.form
    obtain ⟨NT, hNT⟩ : ∃ N, (L).length = N := ⟨_, rfl⟩
    obtain ⟨MT, hMT⟩ : ∃ N, (redoE (L)).length = N := ⟨_, rfl⟩
    rw [hNT] at hvT
    have hrdT := ref_redo b most (L) vT Y hraT (by omega)
    have HST : Hid (∀ Z, Keeps (fun _ => False) Y Z → (fun W : World => W.cell? ⟨b, 1, none⟩ = some (.slice aT NT cT)) Z) := fun Z hk => by
      have h1 : Z.cell? ⟨b, 1, none⟩ = some vT := cell_of_block (hraT.kept hk (fun f => f) (fun _ _ f => f)).box 1
      rw [hvT] at h1; exact h1
    have HQ : Hid (Pr Y r b most (L) _ _) := hQ
    have hMl : MT ≤ 1048576 := by have := hQ.lg.fit; omega
    have hNl : NT < 4398046511104 := by rw [← hNT]; exact (by omega)
    clear hraT hroT hvT
    go_wp2_with fail
    refine hrdT.mono ?_
    rintro e Z0 ⟨v2, rfl, hrow2, _, hkZ⟩
    obtain ⟨a2, c2, rfl, _, _⟩ := hrow2.form
    have HLenT : Hid (∀ W0, Like W0 Z0 → Calls Tryd.prog 35 #[.pointer (some ⟨r, 0, none⟩)] W0 fun e w' => e = .returned (.int .i64 MT) ∧ (fun W : World => W.cell? ⟨b, 1, none⟩ = some (.slice aT NT cT)) w' ∧ Hid (Keeps (fun _ => False) Z0 w')) := fun W0 hl => by
      have hk0 := hl.keeps (Keeps.refl (fun _ => False) Z0)
      refine (log_len r most _ _ W0 (HQ.out.same (hkZ.trans hk0)).lg).mono ?_
      rintro e w' ⟨rfl, rfl⟩
      exact ⟨by rw [hMT], HST.out _ (hkZ.trans hk0), hk0⟩
    have HMarkT : Hid (∀ Z W0, Keeps (fun _ => False) Z0 Z → Like W0 Z → Calls Tryd.prog 33 #[.pointer (some ⟨r, 0, none⟩)] W0 fun e w' => e = .returned (.int .i64 NT) ∧ (fun W : World => W.cell? ⟨b, 1, none⟩ = some (.slice aT NT cT)) w' ∧ Hid (Keeps (fun _ => False) Z0 w')) := fun Z W0 hk hl => by
      have hk0 := hl.keeps hk
      refine (log_mark r most _ _ W0 (HQ.out.same (hkZ.trans hk0)).lg).mono ?_
      rintro e w' ⟨rfl, rfl⟩
      exact ⟨by rw [hNT], HST.out _ (hkZ.trans hk0), hk0⟩
    have HAllT : Hid (∀ Z W0, Keeps (fun _ => False) Z0 Z → Like W0 Z → Calls Tryd.prog 26 #[.pointer (some ⟨r, 0, none⟩)] W0 fun e w' => ∃ bx, e = .returned (.func (.func 58) #[] #[.pointer (some ⟨bx, 0, none⟩)]) ∧ (fun W : World => W.cell? ⟨b, 1, none⟩ = some (.slice aT NT cT)) w' ∧ Hid (w'.heap[bx]? = some (.cells #[.func (.func 48) #[.pointer (some ⟨r, 0, none⟩)] #[]] 69 (0, 0)) ∧ Keeps (fun _ => False) Z0 w')) := fun Z W0 hk hl => by
      have hk0 := hl.keeps hk
      refine (all_redo _ W0).mono ?_
      rintro e w' ⟨rfl, rfl⟩
      exact ⟨_, rfl, HST.out _ (hkZ.trans (hk0.alloc _)), alloc_block _ _, hk0.alloc _⟩
    rw [hMT] at hrow2 ⊢
    have HWalkT : Hid (∀ Z bx W0, Keeps (fun _ => False) Z0 Z → Z.heap[bx]? = some (.cells #[.func (.func 48) #[.pointer (some ⟨r, 0, none⟩)] #[]] 69 (0, 0)) → Like W0 Z → Calls Tryd.prog 14 #[.func (.func 58) #[] #[.pointer (some ⟨bx, 0, none⟩)], .slice a2 MT c2, .int .i64 0] W0 fun e w' => e = .returned (.bool true) ∧ (fun W : World => W.cell? ⟨b, 1, none⟩ = some (.slice aT NT cT)) w' ∧ Hid (Keeps (fun _ => False) Z0 w')) := fun Z bx W0 hk hbx hl => by
      have hk0 := hl.keeps hk
      have hq0 := HQ.out.same (hkZ.trans hk0)
      have hp0 : Pairs W0 (.slice a2 MT c2) (redoE (L)) := (show Row Z0 72 2 (.slice a2 MT c2) (redoE (L)).length (entV (redoE (L))) from by rw [hMT]; exact hrow2).pairs.keeps hk0
      refine (pr_walk hq0 (by rw [hl.heap]; exact hbx) hp0).mono ?_
      rintro e w' ⟨rfl, h2⟩
      exact ⟨rfl, HST.out _ (hkZ.trans (hk0.trans h2)), hk0.trans h2⟩
    have hST0 := HST.out Z0 hkZ
    have HKZ : Hid (Keeps (fun _ => False) Y Z0) := hkZ
    clear hrdT HST hrow2 hkZ hNT hMT hQ
    go_wp2_with fail
    go_region_held3 (fun W : World => W.cell? ⟨b, 1, none⟩ = some (.slice aT NT cT)) (first | assumption | (exact hST0) | go_keep) ((first
      | (go_at_call 35; refine (HLenT.out _ (by exact ⟨rfl, rfl, rfl, rfl⟩)).mono ?_; rintro e Z1 ⟨rfl, hZ1, hH1⟩)
      | (go_at_call 33; refine (HMarkT.out _ _ hH1.out (by exact ⟨rfl, rfl, rfl, rfl⟩)).mono ?_; rintro e Z2 ⟨rfl, hZ2, hH2⟩)
      | (go_at_call 26; refine (HAllT.out _ _ hH2.out (by exact ⟨rfl, rfl, rfl, rfl⟩)).mono ?_; rintro e Z3 ⟨bxT, rfl, hZ3, hH3⟩)
      | (go_at_call 14; refine (HWalkT.out _ _ _ hH3.out.2 hH3.out.1 (by exact ⟨rfl, rfl, rfl, rfl⟩)).mono ?_; rintro e Z4 ⟨rfl, hZ4, hH4⟩)))
    all_goals go_wp2_with fail
    all_goals go_ret
    all_goals exact ⟨rfl, HTo.out _ (HKZ.out.trans hH4.out)⟩
end Go.Proofs.YtbgnlenhncbceaaDoor
