/-
  No statement of the seat is proved here. (Several texts in one: OpQ.)
-/
import Derived.Test.YthmiainhaebjiaaGreatDoorM18EvDa

/- A walk of sights (layer 16). No statement of the seat is proved here. -/
namespace Go.Proofs.YthmiainhaebjiaaGreatDoor
open Go.RowKit Go.Shelf

theorem wp_held_end {P : Program} {ops : Array Oper} {Q : Exit → Act → World → Prop} {id : Nat} {a : Act} {w : World} {S : World → Prop} (N : Nat) (hN : ops.size = N) (hm : P.follows .mixedOrders = true)
    (h : wpAnyH P .any ops (atEnd (Q .normal)) S N (Array.replicate N false) a w.drew) : (Code.region id ops true).wp P Q a w := by
  subst hN
  exact Code.wp_mono (fun e a w h => by cases e <;> first | exact h | exact h.elim) (wp_region_held hm h)
theorem wpList_store_run {P : Program} {ops : Array Oper} {rest : List Oper} {op : Oper} {a : Act} {w w' : World} {Q : Exit → Act → World → Prop} (hgd : op.guard = none) (ty : TypeId) (x y : Operand) (ho : op.op = .store ty x y) {p v : Value} (hx : a.eval x = p) (hy : a.eval y = v)
    (hr : (Instr.storeAt ty p v).run P w = .ok () w') (h : wpList P ops Q rest (a.put op.dst undef) w') : wpList P ops Q (op :: rest) a w :=
  wpList_plain hgd fun _ hK => by
    unfold Oper.wp execOp
    simp only [ho, hx, hy, hr, Sem.run_bind, Result.andThen_ok]
    exact hK _ _ h
theorem lastT_nil : lastT [] = -1 := rfl
theorem lastT_at {l : List Int} (h : 0 < l.length) : lastT l = l[l.length - 1] := by
  unfold lastT
  rw [List.getLast?_eq_getElem?, List.getElem?_eq_getElem (by omega)]; rfl
set_option maxRecDepth 100000 in
set_option maxHeartbeats 8000000 in
theorem sights_any (pb mb b2 : Nat) (vF vT vB vW : Value) (F : List Int) (T : List Ty) (X Y : List Bx) (f : Int → Option Sl) (w : World) (h : PaAt w pb mb b2 vF vT vB vW F T X Y f) (u : PuA F T X Y) :
    Calls Tryz.prog 35 #[.pointer (some ⟨pb, 0, none⟩)] w fun ex w' => ∃ v, ex = .returned v ∧ SR w' w.heap.size v (sgK F (Y.map (·.p)) T (X.map (·.p)) T.length) ∧ Keeps (fun _ => False) w w' := by
  obtain ⟨ta, tc, rfl, htc⟩ := h.tr.shape
  obtain ⟨xa, cx, rfl, hxc⟩ := h.bl.shape
  have hTl : T.length ≤ 1050000 := by have := u.tl; have := u.xl; omega
  have HH : Hid (∀ Z, Keeps (fun _ => False) w Z → PaAt Z pb mb b2 vF (.slice ta T.length tc) (.slice xa X.length cx) vW F T X Y f) := fun Z k => h.keeps k
  have HU : Hid (PuA F T X Y) := u
  have HTX : Hid (T.length = X.length) := u.tl
  have p1 : w.cell? ⟨pb, 1, none⟩ = some (.slice ta T.length tc) := by rw [cell_of_block h.blk]; rfl
  have O0 := OwnR.nil Sg.cl 10 56 w
  have hpw : pb < w.heap.size := lt_of_block h.blk
  clear h u
  go_enter Tryz.func35, Tryz.ntmps35
  go_wp2_with fail
  clear p1
  go_loopw [3, 13] (fun u3 u13 wr => ∃ (k : Nat), u13 = .int .i64 k ∧ k ≤ T.length ∧ SR wr w.heap.size u3 (sgK F (Y.map (·.p)) T (X.map (·.p)) k) ∧ Keeps (fun _ => False) w wr) (fun _ u _ => T.length - (intOf u).toNat)
  case atStart => exact ⟨0, rfl, Nat.zero_le _, O0, Keeps.refl _ _⟩
  case round =>
    clear O0
    obtain ⟨k, rfl, hk, hO, kr⟩ := hrel
    by_cases hlt : k < T.length
    · have hki : (k : Int) < T.length := by omega
      have hk0 : (0 : Int) ≤ k := by omega
      have hkX : k < X.length := by have := HTX.out; omega
      have hkXi : (k : Int) < (X.length : Int) := by omega
      have hP := HH.out wr kr
      obtain ⟨g, off, rfl, hc⟩ := hP.tr.at k hlt
      obtain ⟨gx, ox, rfl, hcx⟩ := hP.bl.at k hkX
      have hsK := sgK_succ F (Y.map (·.p)) T (X.map (·.p)) k hlt (by simpa using hkX)
      rw [List.getElem_map] at hsK
      have hkl := sgK_len F (Y.map (·.p)) T (X.map (·.p)) k
      have htle := HU.out.tle _ (List.getElem_mem hlt)
      have hinr := (HU.out.inr _ (List.getElem_mem hkX)).1
      have hrl := (HU.out.rl _ (List.getElem_mem hkX)).1
      have hrd := fun Z kz => (HH.out Z kz).rd _ (List.getElem_mem hkX)
      have HX0 : Hid (∀ Z, Keeps (fun _ => False) w Z → ∀ f v, (Bx.cb (X[k]))[f]? = some v → Z.cell? ⟨gx, ox + k * 9 + f, none⟩ = some v) := fun Z kz f v hv => by
        obtain ⟨g', o', e, h1⟩ := (HH.out Z kz).bl.at k hkX
        simp only [Option.some.injEq, Addr.mk.injEq, and_true] at e
        obtain ⟨rfl, rfl⟩ := e
        exact h1 f v hv
      have oO : Hid (SR wr w.heap.size u3 (sgK F (Y.map (·.p)) T (X.map (·.p)) k)) := hO
      generalize ht : T[k]'hlt = t at *
      generalize hx : X[k]'hkX = x at *
      clear ht hx
      obtain ⟨tth, tfi, tla, tsn, thow, trd, twr⟩ := t
      dsimp only at htle
      have y0 := hc 0 _ rfl
      have y1 := hc 1 _ rfl
      have y2 := hc 2 _ rfl
      have y3 := hc 3 _ rfl
      have y4 := hc 4 _ rfl
      have y5 := hc 5 _ rfl
      have y6 := hc 6 _ rfl
      dsimp only at y0 y1 y2 y3 y4 y5 y6
      simp only [Nat.add_zero] at y0
      obtain ⟨fr, hfr⟩ : ∃ fr, fr = cntL (Y.map (·.p)) tfi := ⟨_, rfl⟩
      obtain ⟨up, hup⟩ : ∃ up, up = cntL (Y.map (·.p)) (tla + 1) := ⟨_, rfl⟩
      have hfu : fr ≤ up := by rw [hfr, hup]; exact cntL_mono _ (by omega)
      have hupY : up ≤ (Y.map (·.p)).length := by rw [hup]; exact cntL_le _ _
      have hYl := HU.out.yl
      have wla : IntKind.i64.wrap (tla + 1) = tla + 1 := by rw [IntKind.wrap_i64]; omega
      have kT := (Keeps.refl (fun _ => False) wr).alloc (.cells #[.int .i64 tth, .int .i64 tfi, .int .i64 tla, .int .u64 tsn, .int .i64 thow, .int .i64 trd, .int .i64 twr] 54)
      have kS := (Keeps.refl (fun _ => False) (wr.alloc (.cells #[.int .i64 tth, .int .i64 tfi, .int .i64 tla, .int .u64 tsn, .int .i64 thow, .int .i64 trd, .int .i64 twr] 54))).alloc (.cells #[.int .i64 tth, .int .i64 tfi, .int .i64 tla, .int .u64 tsn, .int .i64 thow, .int .i64 trd, .int .i64 twr, .int .i64 0, .int .i64 0, .int .i64 (-1)] 56)
      have bA := (MapKept.heap_alloc (wr.alloc (.cells #[.int .i64 tth, .int .i64 tfi, .int .i64 tla, .int .u64 tsn, .int .i64 thow, .int .i64 trd, .int .i64 twr] 54)) (.cells #[.int .i64 tth, .int .i64 tfi, .int .i64 tla, .int .u64 tsn, .int .i64 thow, .int .i64 trd, .int .i64 twr, .int .i64 0, .int .i64 0, .int .i64 (-1)] 56)).1
      have hsT : (wr.alloc (.cells #[.int .i64 tth, .int .i64 tfi, .int .i64 tla, .int .u64 tsn, .int .i64 thow, .int .i64 trd, .int .i64 twr] 54)).heap.size = wr.heap.size + 1 := by simp
      have hsS : ((wr.alloc (.cells #[.int .i64 tth, .int .i64 tfi, .int .i64 tla, .int .u64 tsn, .int .i64 thow, .int .i64 trd, .int .i64 twr] 54)).alloc (.cells #[.int .i64 tth, .int .i64 tfi, .int .i64 tla, .int .u64 tsn, .int .i64 thow, .int .i64 trd, .int .i64 twr, .int .i64 0, .int .i64 0, .int .i64 (-1)] 56)).heap.size = wr.heap.size + 2 := by simp
      rw [hsT] at bA
      have KA := (kr.trans kT).trans kS
      have oA := (hO.keeps kT (fun _ _ f => f)).keeps kS (fun _ _ f => f)
      obtain ⟨bs, hbs⟩ : ∃ bs, bs = wr.heap.size + 1 := ⟨_, rfl⟩
      rw [← hbs] at bA
      have HBS : Hid (bs = wr.heap.size + 1 ∧ w.heap.size ≤ wr.heap.size) := ⟨hbs, kr.size⟩
      have hT0 : wr.heap.size + 1 = bs := hbs.symm
      clear hbs
      obtain ⟨A, hA⟩ : ∃ A, A = (wr.alloc (.cells #[.int .i64 tth, .int .i64 tfi, .int .i64 tla, .int .u64 tsn, .int .i64 thow, .int .i64 trd, .int .i64 twr] 54)).alloc (.cells #[.int .i64 tth, .int .i64 tfi, .int .i64 tla, .int .u64 tsn, .int .i64 thow, .int .i64 trd, .int .i64 twr, .int .i64 0, .int .i64 0, .int .i64 (-1)] 56) := ⟨_, rfl⟩
      rw [← hA] at bA KA oA hsS
      have HAA : Hid (A = _) := hA
      have hpbs : pb ≠ bs := by have := HBS.out; omega
      have HAh : Hid (∀ Z t, Keeps (fun q => q = bs) A Z → Calls Tryz.prog 60 #[.pointer (some ⟨pb, 0, none⟩), .int .i64 t] Z fun ex w' => ex = .returned (.int .i64 (cntL (Y.map (·.p)) t : Int)) ∧ Keeps (fun _ => False) Z w') := fun Z t kz => by
        have kz2 : Keeps (fun _ => False) w Z := KA.young kz (fun q e => by have := HBS.out; omega)
        have hz := HH.out Z kz2
        exact ahead_cnt pb vW Y t (by have := HU.out.yl; omega) HU.out.up Z (by rw [cell_of_block hz.blk]; rfl) hz.wr
      have S60 : Keeps (fun q => q = bs) A (A.drew) ∧ (A.drew).cell? ⟨bs, 1, none⟩ = some (.int .i64 tfi) ∧ (A.drew).cell? ⟨bs, 2, none⟩ = some (.int .i64 tla) := ⟨(Keeps.refl _ A).drew, by rw [cell_of_block (w := A.drew) bA]; rfl, by rw [cell_of_block (w := A.drew) bA]; rfl⟩
      have HSK : Hid (sgK F (Y.map (·.p)) T (X.map (·.p)) (k + 1) = sgK F (Y.map (·.p)) T (X.map (·.p)) k ++ [⟨⟨tth, tfi, tla, tsn, thow, trd, twr⟩, (fr : Int), (up : Int), lastT (togL F (Y.map (·.p)) fr up x.p.rs)⟩]) := by rw [hsK, hfr, hup]; rfl
      have HSn : Hid (∀ Z, Keeps (fun _ => False) w Z → Calls Tryz.prog 54 #[.agg x.cb.toArray] Z fun ex w' => ∃ u, ex = .returned u ∧ CR w' Z.heap.size u x.p.rs ∧ Keeps (fun _ => False) Z w') := fun Z kz => seen_any x (by omega) Z (hrd Z kz)
      have HTg : Hid (∀ Z u, Keeps (fun _ => False) w Z → ElsAt clC 2 Z u x.p.rs → Calls Tryz.prog 29 #[.pointer (some ⟨pb, 0, none⟩), .int .i64 (fr : Int), .int .i64 (up : Int), u] Z fun ex w' => ∃ v, ex = .returned v ∧ NR w' Z.heap.size v (togL F (Y.map (·.p)) fr up x.p.rs) ∧ Keeps (fun _ => False) Z w') := fun Z u kz hu => by
        have := together_any pb mb b2 vF F f (Y.map (·.p)) fr (up - fr) (by omega) x.p.rs u (by omega) hinr Z ((HH.out Z kz).pa HU.out) hu
        rw [show fr + (up - fr) = up by omega] at this
        exact this
      have htog : (togL F (Y.map (·.p)) fr up x.p.rs).length ≤ 1050001 := by
        unfold togL
        rw [List.length_map]
        exact Nat.le_trans (List.length_filter_le _ _) (by simp at hupY ⊢; omega)
      generalize togL F (Y.map (·.p)) fr up x.p.rs = tg at *
      obtain ⟨⟨pth, pkd, pfi, pla, pnu, pwr, per, prs, pws, psi, plk⟩, ⟨ra, rn, rc⟩, ⟨sa, sn, sc⟩⟩ := x
      change Hid (∀ Z, Keeps (fun _ => False) w Z → Calls Tryz.prog 54 #[.agg #[.int .i64 pth, .int .i64 pkd, .int .i64 pfi, .int .i64 pla, .int .u64 pnu, .bool pwr, .int .i64 per, .slice ra rn rc, .slice sa sn sc]] Z _) at HSn
      have HYl : Hid (Y.length ≤ 1050000) := hYl
      have HFU : Hid (fr = cntL (Y.map (·.p)) tfi ∧ up = cntL (Y.map (·.p)) (tla + 1)) := ⟨hfr, hup⟩
      clear hfr hup hsK hc hcx hrd hinr hrl hP hT0 kT kS hsT hO htle hYl hfu hupY
      go_wp2_with fail
      rw [show wr.heap.size + 1 = bs from HBS.out.1.symm, ← hA]
      clear y0 y1 y2 y3 y4 y5 y6 hA
      refine wp_held_end (S := fun W => Keeps (fun q => q = bs) A W ∧ W.cell? ⟨bs, 1, none⟩ = some (.int .i64 tfi) ∧ W.cell? ⟨bs, 2, none⟩ = some (.int .i64 tla)) 15 rfl hmxp ?_
      simp only [Array.replicate_succ, Array.replicate_zero, List.push_toArray, List.nil_append, List.cons_append]
      refine held_take (i := 0) (v := (.pointer (some ⟨pb, 0, none⟩))) 20 rfl rfl (by kernel_rfl) (by kernel_rfl) (by kernel_rfl) rfl (fun w' hw' => by obtain ⟨q0, q1, q2⟩ := hw'; go_simp) S60 ?_
      simp only [Act.put, List.setIfInBounds_toArray, List.set_cons_zero, List.set_cons_succ]
      refine held_take (i := 1) (v := (.pointer (some ⟨bs, 0, none⟩))) 21 rfl rfl (by kernel_rfl) (by kernel_rfl) (by kernel_rfl) rfl (fun w' hw' => by obtain ⟨q0, q1, q2⟩ := hw'; go_simp) S60 ?_
      simp only [Act.put, List.setIfInBounds_toArray, List.set_cons_zero, List.set_cons_succ]
      refine held_take (i := 2) (v := (.pointer (some ⟨bs, 1, none⟩))) 22 rfl rfl (by kernel_rfl) (by kernel_rfl) (by kernel_rfl) rfl (fun w' hw' => by obtain ⟨q0, q1, q2⟩ := hw'; go_simp) S60 ?_
      simp only [Act.put, List.setIfInBounds_toArray, List.set_cons_zero, List.set_cons_succ]
      refine held_take (i := 3) (v := (.int .i64 tfi)) 23 rfl rfl (by kernel_rfl) (by kernel_rfl) (by kernel_rfl) rfl (fun w' hw' => by obtain ⟨q0, q1, q2⟩ := hw'; go_simp) S60 ?_
      simp only [Act.put, List.setIfInBounds_toArray, List.set_cons_zero, List.set_cons_succ]
      refine held_take (i := 5) (v := (.pointer (some ⟨pb, 0, none⟩))) 25 rfl rfl (by kernel_rfl) (by kernel_rfl) (by kernel_rfl) rfl (fun w' hw' => by obtain ⟨q0, q1, q2⟩ := hw'; go_simp) S60 ?_
      simp only [Act.put, List.setIfInBounds_toArray, List.set_cons_zero, List.set_cons_succ]
      refine held_take (i := 6) (v := (.pointer (some ⟨bs, 0, none⟩))) 26 rfl rfl (by kernel_rfl) (by kernel_rfl) (by kernel_rfl) rfl (fun w' hw' => by obtain ⟨q0, q1, q2⟩ := hw'; go_simp) S60 ?_
      simp only [Act.put, List.setIfInBounds_toArray, List.set_cons_zero, List.set_cons_succ]
      refine held_take (i := 7) (v := (.pointer (some ⟨bs, 2, none⟩))) 27 rfl rfl (by kernel_rfl) (by kernel_rfl) (by kernel_rfl) rfl (fun w' hw' => by obtain ⟨q0, q1, q2⟩ := hw'; go_simp) S60 ?_
      simp only [Act.put, List.setIfInBounds_toArray, List.set_cons_zero, List.set_cons_succ]
      refine held_take (i := 8) (v := (.int .i64 tla)) 28 rfl rfl (by kernel_rfl) (by kernel_rfl) (by kernel_rfl) rfl (fun w' hw' => by obtain ⟨q0, q1, q2⟩ := hw'; go_simp) S60 ?_
      simp only [Act.put, List.setIfInBounds_toArray, List.set_cons_zero, List.set_cons_succ]
      refine held_take (i := 9) (v := (.int .i64 (tla + 1))) 29 rfl rfl (by kernel_rfl) (by kernel_rfl) (by kernel_rfl) rfl (fun w' hw' => by obtain ⟨q0, q1, q2⟩ := hw'; go_simp) S60 ?_
      simp only [Act.put, List.setIfInBounds_toArray, List.set_cons_zero, List.set_cons_succ]
      refine held_call (i := 4) (f := 60) (args := #[.pointer (some ⟨pb, 0, none⟩), .int .i64 tfi]) 24 (by kernel_rfl) rfl rfl rfl (by go_simp) ((HAh.out A.drew tfi S60.1).mono ?_)
      rintro ex w2 ⟨rfl, k2⟩
      have S61 : Keeps (fun q => q = bs) A (w2) ∧ (w2).cell? ⟨bs, 1, none⟩ = some (.int .i64 tfi) ∧ (w2).cell? ⟨bs, 2, none⟩ = some (.int .i64 tla) := ⟨S60.1.trans (k2.mono fun _ _ f => f.elim), k2.cellB (fun f => f) S60.2.1, k2.cellB (fun f => f) S60.2.2⟩
      refine ⟨_, rfl, S61, ?_⟩
      simp only [Act.put, List.setIfInBounds_toArray, List.set_cons_zero, List.set_cons_succ]
      refine held_take (i := 11) (v := (.pointer (some ⟨bs, 7, none⟩))) 31 rfl rfl (by kernel_rfl) (by kernel_rfl) (by kernel_rfl) rfl (fun w' hw' => by obtain ⟨q0, q1, q2⟩ := hw'; go_simp) S61 ?_
      simp only [Act.put, List.setIfInBounds_toArray, List.set_cons_zero, List.set_cons_succ]
      refine held_call (i := 10) (f := 60) (args := #[.pointer (some ⟨pb, 0, none⟩), .int .i64 (tla + 1)]) 30 (by kernel_rfl) rfl rfl rfl (by go_simp) ((HAh.out w2 (tla + 1) S61.1).mono ?_)
      rintro ex w3 ⟨rfl, k3⟩
      have S62 : Keeps (fun q => q = bs) A (w3) ∧ (w3).cell? ⟨bs, 1, none⟩ = some (.int .i64 tfi) ∧ (w3).cell? ⟨bs, 2, none⟩ = some (.int .i64 tla) := ⟨S61.1.trans (k3.mono fun _ _ f => f.elim), k3.cellB (fun f => f) S61.2.1, k3.cellB (fun f => f) S61.2.2⟩
      refine ⟨_, rfl, S62, ?_⟩
      simp only [Act.put, List.setIfInBounds_toArray, List.set_cons_zero, List.set_cons_succ]
      have b3 := ((k2.trans k3).block bs (lt_of_block (w := A.drew) bA) (fun f => f)).trans bA
      have kS1 := (Keeps.refl (fun q => q = bs) w3).setCell (p := ⟨bs, 7, none⟩) (.inr rfl) (.int .i64 (cntL (Y.map (·.p)) tfi : Int))
      have b4 := block_set b3 7 (.int .i64 (cntL (Y.map (·.p)) tfi : Int))
      have kS2 := (Keeps.refl (fun q => q = bs) (w3.setCell ⟨bs, 7, none⟩ (.int .i64 (cntL (Y.map (·.p)) tfi : Int)))).setCell (p := ⟨bs, 8, none⟩) (.inr rfl) (.int .i64 (cntL (Y.map (·.p)) (tla + 1) : Int))
      have b5 := block_set b4 8 (.int .i64 (cntL (Y.map (·.p)) (tla + 1) : Int))
      have h7 : w3.cell? ⟨bs, 7, none⟩ = some (.int .i64 0) := by rw [cell_of_block b3]; rfl
      have h8 : (w3.setCell ⟨bs, 7, none⟩ (.int .i64 (cntL (Y.map (·.p)) tfi : Int))).cell? ⟨bs, 8, none⟩ = some (.int .i64 0) := by rw [cell_of_block b4]; rfl
      have f7 : w3.frozen? ⟨bs, 7, none⟩ = false := frozen_of_block b3 _
      have f8 : (w3.setCell ⟨bs, 7, none⟩ (.int .i64 (cntL (Y.map (·.p)) tfi : Int))).frozen? ⟨bs, 8, none⟩ = false := frozen_of_block b4 _
      have S63 : Keeps (fun q => q = bs) A (w3.setCell ⟨bs, 7, none⟩ (.int .i64 (cntL (Y.map (·.p)) tfi : Int))) ∧ (w3.setCell ⟨bs, 7, none⟩ (.int .i64 (cntL (Y.map (·.p)) tfi : Int))).cell? ⟨bs, 1, none⟩ = some (.int .i64 tfi) ∧ (w3.setCell ⟨bs, 7, none⟩ (.int .i64 (cntL (Y.map (·.p)) tfi : Int))).cell? ⟨bs, 2, none⟩ = some (.int .i64 tla) := ⟨S62.1.trans kS1, by rw [cell_of_block b4]; rfl, by rw [cell_of_block b4]; rfl⟩
      have S64 : Keeps (fun q => q = bs) A ((w3.setCell ⟨bs, 7, none⟩ (.int .i64 (cntL (Y.map (·.p)) tfi : Int))).setCell ⟨bs, 8, none⟩ (.int .i64 (cntL (Y.map (·.p)) (tla + 1) : Int))) ∧ ((w3.setCell ⟨bs, 7, none⟩ (.int .i64 (cntL (Y.map (·.p)) tfi : Int))).setCell ⟨bs, 8, none⟩ (.int .i64 (cntL (Y.map (·.p)) (tla + 1) : Int))).cell? ⟨bs, 1, none⟩ = some (.int .i64 tfi) ∧ ((w3.setCell ⟨bs, 7, none⟩ (.int .i64 (cntL (Y.map (·.p)) tfi : Int))).setCell ⟨bs, 8, none⟩ (.int .i64 (cntL (Y.map (·.p)) (tla + 1) : Int))).cell? ⟨bs, 2, none⟩ = some (.int .i64 tla) := ⟨S63.1.trans kS2, by rw [cell_of_block b5]; rfl, by rw [cell_of_block b5]; rfl⟩
      refine held_none (i := 12) (w' := w3.setCell ⟨bs, 7, none⟩ (.int .i64 (cntL (Y.map (·.p)) tfi : Int))) (by kernel_rfl) rfl rfl rfl (by go_simp) S63 ?_
      refine held_take (i := 13) (v := (.pointer (some ⟨bs, 8, none⟩))) 32 rfl rfl (by kernel_rfl) (by kernel_rfl) (by kernel_rfl) rfl (fun w' hw' => by obtain ⟨q0, q1, q2⟩ := hw'; go_simp) S63 ?_
      simp only [Act.put, List.setIfInBounds_toArray, List.set_cons_zero, List.set_cons_succ]
      refine held_none (i := 14) (w' := (w3.setCell ⟨bs, 7, none⟩ (.int .i64 (cntL (Y.map (·.p)) tfi : Int))).setCell ⟨bs, 8, none⟩ (.int .i64 (cntL (Y.map (·.p)) (tla + 1) : Int))) (by kernel_rfl) rfl rfl rfl (by go_simp) S64 ?_
      refine held_end (by kernel_rfl) ?_ _
      rw [← HFU.out.1, ← HFU.out.2] at *
      have bC : ((w3.setCell ⟨bs, 7, none⟩ (.int .i64 (fr : Int))).setCell ⟨bs, 8, none⟩ (.int .i64 (up : Int))).heap[bs]? = some (.cells #[.int .i64 tth, .int .i64 tfi, .int .i64 tla, .int .u64 tsn, .int .i64 thow, .int .i64 trd, .int .i64 twr, .int .i64 (fr : Int), .int .i64 (up : Int), .int .i64 (-1)] 56 (0, 0)) := b5
      have KAC : Keeps (fun q => q = bs) A ((w3.setCell ⟨bs, 7, none⟩ (.int .i64 (fr : Int))).setCell ⟨bs, 8, none⟩ (.int .i64 (up : Int))) := S64.1
      have hnr : ∀ q, u3.ownBlock = some q → q ≠ bs := fun q hq e => by have := (own_block oO.out.own hq).1; have := HBS.out; omega
      have oC := oA.keeps KAC (fun q hq e => hnr q hq e)
      have KC : Keeps (fun _ => False) w ((w3.setCell ⟨bs, 7, none⟩ (.int .i64 (fr : Int))).setCell ⟨bs, 8, none⟩ (.int .i64 (up : Int))) := KA.young KAC (fun q e => by have := HBS.out; omega)
      have hCs := KAC.size
      clear S60 S61 S62 S63 S64 h7 h8 f7 f8 kS1 kS2 b3 b4 b5 k2 k3 bA oA KA KAC HAh HAA HFU
      generalize (w3.setCell ⟨bs, 7, none⟩ (.int .i64 (fr : Int))).setCell ⟨bs, 8, none⟩ (.int .i64 (up : Int)) = C at *
      have HCX : Hid (∀ Z, Keeps (fun _ => False) C Z → Keeps (fun _ => False) w Z) := fun Z kz => KC.trans kz
      have S70 : Keeps (fun _ => False) C (C.drew) ∧ (C.drew).cell? ⟨bs, 7, none⟩ = some (.int .i64 (fr : Int)) ∧ (C.drew).cell? ⟨bs, 8, none⟩ = some (.int .i64 (up : Int)) ∧ (C.drew).cell? ⟨pb, 2, none⟩ = some (.slice (some ⟨gx, ox, none⟩) X.length cx) ∧ (C.drew).cell? ⟨gx, ox + k * 9, none⟩ = some (.int .i64 pth) ∧ (C.drew).cell? ⟨gx, ox + k * 9 + 1, none⟩ = some (.int .i64 pkd) ∧ (C.drew).cell? ⟨gx, ox + k * 9 + 2, none⟩ = some (.int .i64 pfi) ∧ (C.drew).cell? ⟨gx, ox + k * 9 + 3, none⟩ = some (.int .i64 pla) ∧ (C.drew).cell? ⟨gx, ox + k * 9 + 4, none⟩ = some (.int .u64 pnu) ∧ (C.drew).cell? ⟨gx, ox + k * 9 + 5, none⟩ = some (.bool pwr) ∧ (C.drew).cell? ⟨gx, ox + k * 9 + 6, none⟩ = some (.int .i64 per) ∧ (C.drew).cell? ⟨gx, ox + k * 9 + 7, none⟩ = some (.slice ra rn rc) ∧ (C.drew).cell? ⟨gx, ox + k * 9 + 8, none⟩ = some (.slice sa sn sc) := ⟨(Keeps.refl _ C).drew, by rw [cell_of_block (w := C.drew) bC]; rfl, by rw [cell_of_block (w := C.drew) bC]; rfl, by rw [cell_of_block (w := C.drew) (HH.out C KC).blk]; rfl, HX0.out C.drew KC.drew 0 _ rfl, HX0.out C.drew KC.drew 1 _ rfl, HX0.out C.drew KC.drew 2 _ rfl, HX0.out C.drew KC.drew 3 _ rfl, HX0.out C.drew KC.drew 4 _ rfl, HX0.out C.drew KC.drew 5 _ rfl, HX0.out C.drew KC.drew 6 _ rfl, HX0.out C.drew KC.drew 7 _ rfl, HX0.out C.drew KC.drew 8 _ rfl⟩
      go_wp2_with fail
      refine wp_held_end (S := fun W => Keeps (fun _ => False) C W ∧ W.cell? ⟨bs, 7, none⟩ = some (.int .i64 (fr : Int)) ∧ W.cell? ⟨bs, 8, none⟩ = some (.int .i64 (up : Int)) ∧ W.cell? ⟨pb, 2, none⟩ = some (.slice (some ⟨gx, ox, none⟩) X.length cx) ∧ W.cell? ⟨gx, ox + k * 9, none⟩ = some (.int .i64 pth) ∧ W.cell? ⟨gx, ox + k * 9 + 1, none⟩ = some (.int .i64 pkd) ∧ W.cell? ⟨gx, ox + k * 9 + 2, none⟩ = some (.int .i64 pfi) ∧ W.cell? ⟨gx, ox + k * 9 + 3, none⟩ = some (.int .i64 pla) ∧ W.cell? ⟨gx, ox + k * 9 + 4, none⟩ = some (.int .u64 pnu) ∧ W.cell? ⟨gx, ox + k * 9 + 5, none⟩ = some (.bool pwr) ∧ W.cell? ⟨gx, ox + k * 9 + 6, none⟩ = some (.int .i64 per) ∧ W.cell? ⟨gx, ox + k * 9 + 7, none⟩ = some (.slice ra rn rc) ∧ W.cell? ⟨gx, ox + k * 9 + 8, none⟩ = some (.slice sa sn sc)) 15 rfl hmxp ?_
      simp only [Array.replicate_succ, Array.replicate_zero, List.push_toArray, List.nil_append, List.cons_append]
      refine held_take (i := 0) (v := (.pointer (some ⟨pb, 0, none⟩))) 33 rfl rfl (by kernel_rfl) (by kernel_rfl) (by kernel_rfl) rfl (fun w' hw' => by obtain ⟨q0, q1, q2, q3, q4, q5, q6, q7, q8, q9, q10, q11, q12⟩ := hw'; go_simp) S70 ?_
      simp only [Act.put, List.setIfInBounds_toArray, List.set_cons_zero, List.set_cons_succ]
      refine held_take (i := 1) (v := (.pointer (some ⟨bs, 7, none⟩))) 34 rfl rfl (by kernel_rfl) (by kernel_rfl) (by kernel_rfl) rfl (fun w' hw' => by obtain ⟨q0, q1, q2, q3, q4, q5, q6, q7, q8, q9, q10, q11, q12⟩ := hw'; go_simp) S70 ?_
      simp only [Act.put, List.setIfInBounds_toArray, List.set_cons_zero, List.set_cons_succ]
      refine held_take (i := 2) (v := (.int .i64 (fr : Int))) 35 rfl rfl (by kernel_rfl) (by kernel_rfl) (by kernel_rfl) rfl (fun w' hw' => by obtain ⟨q0, q1, q2, q3, q4, q5, q6, q7, q8, q9, q10, q11, q12⟩ := hw'; go_simp) S70 ?_
      simp only [Act.put, List.setIfInBounds_toArray, List.set_cons_zero, List.set_cons_succ]
      refine held_take (i := 3) (v := (.pointer (some ⟨bs, 8, none⟩))) 36 rfl rfl (by kernel_rfl) (by kernel_rfl) (by kernel_rfl) rfl (fun w' hw' => by obtain ⟨q0, q1, q2, q3, q4, q5, q6, q7, q8, q9, q10, q11, q12⟩ := hw'; go_simp) S70 ?_
      simp only [Act.put, List.setIfInBounds_toArray, List.set_cons_zero, List.set_cons_succ]
      refine held_take (i := 4) (v := (.int .i64 (up : Int))) 37 rfl rfl (by kernel_rfl) (by kernel_rfl) (by kernel_rfl) rfl (fun w' hw' => by obtain ⟨q0, q1, q2, q3, q4, q5, q6, q7, q8, q9, q10, q11, q12⟩ := hw'; go_simp) S70 ?_
      simp only [Act.put, List.setIfInBounds_toArray, List.set_cons_zero, List.set_cons_succ]
      refine held_take (i := 5) (v := (.pointer (some ⟨pb, 0, none⟩))) 38 rfl rfl (by kernel_rfl) (by kernel_rfl) (by kernel_rfl) rfl (fun w' hw' => by obtain ⟨q0, q1, q2, q3, q4, q5, q6, q7, q8, q9, q10, q11, q12⟩ := hw'; go_simp) S70 ?_
      simp only [Act.put, List.setIfInBounds_toArray, List.set_cons_zero, List.set_cons_succ]
      refine held_take (i := 6) (v := (.pointer (some ⟨pb, 0, none⟩))) 39 rfl rfl (by kernel_rfl) (by kernel_rfl) (by kernel_rfl) rfl (fun w' hw' => by obtain ⟨q0, q1, q2, q3, q4, q5, q6, q7, q8, q9, q10, q11, q12⟩ := hw'; go_simp) S70 ?_
      simp only [Act.put, List.setIfInBounds_toArray, List.set_cons_zero, List.set_cons_succ]
      refine held_take (i := 7) (v := (.pointer (some ⟨pb, 2, none⟩))) 40 rfl rfl (by kernel_rfl) (by kernel_rfl) (by kernel_rfl) rfl (fun w' hw' => by obtain ⟨q0, q1, q2, q3, q4, q5, q6, q7, q8, q9, q10, q11, q12⟩ := hw'; go_simp) S70 ?_
      simp only [Act.put, List.setIfInBounds_toArray, List.set_cons_zero, List.set_cons_succ]
      refine held_take (i := 8) (v := (.slice (some ⟨gx, ox, none⟩) X.length cx)) 41 rfl rfl (by kernel_rfl) (by kernel_rfl) (by kernel_rfl) rfl (fun w' hw' => by obtain ⟨q0, q1, q2, q3, q4, q5, q6, q7, q8, q9, q10, q11, q12⟩ := hw'; go_simp) S70 ?_
      simp only [Act.put, List.setIfInBounds_toArray, List.set_cons_zero, List.set_cons_succ]
      refine held_take (i := 9) (v := (.int .i64 (k : Int))) 42 rfl rfl (by kernel_rfl) (by kernel_rfl) (by kernel_rfl) rfl (fun w' hw' => by obtain ⟨q0, q1, q2, q3, q4, q5, q6, q7, q8, q9, q10, q11, q12⟩ := hw'; go_simp) S70 ?_
      simp only [Act.put, List.setIfInBounds_toArray, List.set_cons_zero, List.set_cons_succ]
      refine held_take (i := 10) (v := (.pointer (some ⟨gx, ox + k * 9, none⟩))) 43 rfl rfl (by kernel_rfl) (by kernel_rfl) (by kernel_rfl) rfl (fun w' hw' => by obtain ⟨q0, q1, q2, q3, q4, q5, q6, q7, q8, q9, q10, q11, q12⟩ := hw'; go_simp) S70 ?_
      simp only [Act.put, List.setIfInBounds_toArray, List.set_cons_zero, List.set_cons_succ]
      refine held_take (i := 11) (v := (.agg #[.int .i64 pth, .int .i64 pkd, .int .i64 pfi, .int .i64 pla, .int .u64 pnu, .bool pwr, .int .i64 per, .slice ra rn rc, .slice sa sn sc])) 44 rfl rfl (by kernel_rfl) (by kernel_rfl) (by kernel_rfl) rfl (fun w' hw' => by obtain ⟨q0, q1, q2, q3, q4, q5, q6, q7, q8, q9, q10, q11, q12⟩ := hw'; go_simp) S70 ?_
      simp only [Act.put, List.setIfInBounds_toArray, List.set_cons_zero, List.set_cons_succ]
      refine held_call (i := 12) (f := 54) (args := #[.agg #[.int .i64 pth, .int .i64 pkd, .int .i64 pfi, .int .i64 pla, .int .u64 pnu, .bool pwr, .int .i64 per, .slice ra rn rc, .slice sa sn sc]]) 45 (by kernel_rfl) rfl rfl rfl (by go_simp) ((HSn.out C.drew (HCX.out _ S70.1)).mono ?_)
      rintro ex w2 ⟨u, rfl, hu, k2⟩
      have S71 : Keeps (fun _ => False) C (w2) ∧ (w2).cell? ⟨bs, 7, none⟩ = some (.int .i64 (fr : Int)) ∧ (w2).cell? ⟨bs, 8, none⟩ = some (.int .i64 (up : Int)) ∧ (w2).cell? ⟨pb, 2, none⟩ = some (.slice (some ⟨gx, ox, none⟩) X.length cx) ∧ (w2).cell? ⟨gx, ox + k * 9, none⟩ = some (.int .i64 pth) ∧ (w2).cell? ⟨gx, ox + k * 9 + 1, none⟩ = some (.int .i64 pkd) ∧ (w2).cell? ⟨gx, ox + k * 9 + 2, none⟩ = some (.int .i64 pfi) ∧ (w2).cell? ⟨gx, ox + k * 9 + 3, none⟩ = some (.int .i64 pla) ∧ (w2).cell? ⟨gx, ox + k * 9 + 4, none⟩ = some (.int .u64 pnu) ∧ (w2).cell? ⟨gx, ox + k * 9 + 5, none⟩ = some (.bool pwr) ∧ (w2).cell? ⟨gx, ox + k * 9 + 6, none⟩ = some (.int .i64 per) ∧ (w2).cell? ⟨gx, ox + k * 9 + 7, none⟩ = some (.slice ra rn rc) ∧ (w2).cell? ⟨gx, ox + k * 9 + 8, none⟩ = some (.slice sa sn sc) := ⟨S70.1.trans k2, k2.cellB (fun f => f) S70.2.1, k2.cellB (fun f => f) S70.2.2.1, k2.cellB (fun f => f) S70.2.2.2.1, k2.cellB (fun f => f) S70.2.2.2.2.1, k2.cellB (fun f => f) S70.2.2.2.2.2.1, k2.cellB (fun f => f) S70.2.2.2.2.2.2.1, k2.cellB (fun f => f) S70.2.2.2.2.2.2.2.1, k2.cellB (fun f => f) S70.2.2.2.2.2.2.2.2.1, k2.cellB (fun f => f) S70.2.2.2.2.2.2.2.2.2.1, k2.cellB (fun f => f) S70.2.2.2.2.2.2.2.2.2.2.1, k2.cellB (fun f => f) S70.2.2.2.2.2.2.2.2.2.2.2.1, k2.cellB (fun f => f) S70.2.2.2.2.2.2.2.2.2.2.2.2⟩
      refine ⟨_, rfl, S71, ?_⟩
      simp only [Act.put, List.setIfInBounds_toArray, List.set_cons_zero, List.set_cons_succ]
      refine held_call (i := 13) (f := 29) (args := #[.pointer (some ⟨pb, 0, none⟩), .int .i64 (fr : Int), .int .i64 (up : Int), u]) 46 (by kernel_rfl) rfl rfl rfl (by go_simp) ((HTg.out w2 u (HCX.out _ S71.1) (hu.els cl_len)).mono ?_)
      rintro ex w3 ⟨tv, rfl, htv, k3⟩
      have S72 : Keeps (fun _ => False) C (w3) ∧ (w3).cell? ⟨bs, 7, none⟩ = some (.int .i64 (fr : Int)) ∧ (w3).cell? ⟨bs, 8, none⟩ = some (.int .i64 (up : Int)) ∧ (w3).cell? ⟨pb, 2, none⟩ = some (.slice (some ⟨gx, ox, none⟩) X.length cx) ∧ (w3).cell? ⟨gx, ox + k * 9, none⟩ = some (.int .i64 pth) ∧ (w3).cell? ⟨gx, ox + k * 9 + 1, none⟩ = some (.int .i64 pkd) ∧ (w3).cell? ⟨gx, ox + k * 9 + 2, none⟩ = some (.int .i64 pfi) ∧ (w3).cell? ⟨gx, ox + k * 9 + 3, none⟩ = some (.int .i64 pla) ∧ (w3).cell? ⟨gx, ox + k * 9 + 4, none⟩ = some (.int .u64 pnu) ∧ (w3).cell? ⟨gx, ox + k * 9 + 5, none⟩ = some (.bool pwr) ∧ (w3).cell? ⟨gx, ox + k * 9 + 6, none⟩ = some (.int .i64 per) ∧ (w3).cell? ⟨gx, ox + k * 9 + 7, none⟩ = some (.slice ra rn rc) ∧ (w3).cell? ⟨gx, ox + k * 9 + 8, none⟩ = some (.slice sa sn sc) := ⟨S71.1.trans k3, k3.cellB (fun f => f) S71.2.1, k3.cellB (fun f => f) S71.2.2.1, k3.cellB (fun f => f) S71.2.2.2.1, k3.cellB (fun f => f) S71.2.2.2.2.1, k3.cellB (fun f => f) S71.2.2.2.2.2.1, k3.cellB (fun f => f) S71.2.2.2.2.2.2.1, k3.cellB (fun f => f) S71.2.2.2.2.2.2.2.1, k3.cellB (fun f => f) S71.2.2.2.2.2.2.2.2.1, k3.cellB (fun f => f) S71.2.2.2.2.2.2.2.2.2.1, k3.cellB (fun f => f) S71.2.2.2.2.2.2.2.2.2.2.1, k3.cellB (fun f => f) S71.2.2.2.2.2.2.2.2.2.2.2.1, k3.cellB (fun f => f) S71.2.2.2.2.2.2.2.2.2.2.2.2⟩
      refine ⟨_, rfl, S72, ?_⟩
      simp only [Act.put, List.setIfInBounds_toArray, List.set_cons_zero, List.set_cons_succ]
      refine held_take (i := 14) (v := (tv)) 7 rfl rfl (by kernel_rfl) (by kernel_rfl) (by kernel_rfl) rfl (fun w' hw' => by obtain ⟨q0, q1, q2, q3, q4, q5, q6, q7, q8, q9, q10, q11, q12⟩ := hw'; go_simp) S72 ?_
      simp only [Act.put, List.setIfInBounds_toArray, List.set_cons_zero, List.set_cons_succ]
      refine held_end (by kernel_rfl) ?_ _
      have KE := S72.1
      have bE := (KE.block bs (lt_of_block bC) (fun f => f)).trans bC
      have oE := oC.keeps KE (fun _ _ f => f)
      have K0 := KC.trans KE
      have hes : w.heap.size ≤ w3.heap.size := K0.size
      have hls := lt_of_block bE
      clear S70 S71 S72 hu k2 k3 bC oC KC HSn HTg HCX HX0 KE
      obtain ⟨tva, tvc, rfl⟩ := htv.form
      obtain ⟨ub, uc, hu3⟩ := oE.form
      rw [hkl] at hu3
      subst hu3
      by_cases h0 : tg.length = 0
      · have htg : tg = [] := List.length_eq_zero_iff.1 h0
        subst htg
        rw [lastT_nil] at HSK
        obtain ⟨v', w5, r1, r2, r3⟩ := oE.push sg_len sg_one (by decide) Tryz.underlying46 info_sg rfl (by decide) (ty := 46) ⟨⟨tth, tfi, tla, tsn, thow, trd, twr⟩, (fr : Int), (up : Int), -1⟩ (cs := #[.int .i64 tth, .int .i64 tfi, .int .i64 tla, .int .u64 tsn, .int .i64 thow, .int .i64 trd, .int .i64 twr, .int .i64 (fr : Int), .int .i64 (up : Int), .int .i64 (-1)]) rfl (by rw [hkl]; omega)
        rw [← HSK.out] at r2
        have K5 := OwnR.kept r3 K0 oE
        obtain ⟨⟨za, zn, zc⟩, rfl, -⟩ := sl_of r2
        dsimp only [Sl.v] at r1
        have HA : Hid (_ = _) := r1
        have HF : Hid (SR w5 w.heap.size (.slice za zn zc) (sgK F (Y.map (·.p)) T (X.map (·.p)) (k + 1)) ∧ Keeps (fun _ => False) w w5) := ⟨r2, K5⟩
        have z0 : w3.cell? ⟨bs, 0, none⟩ = some (.int .i64 tth) := by rw [cell_of_block bE]; rfl
        have z1 : w3.cell? ⟨bs, 1, none⟩ = some (.int .i64 tfi) := by rw [cell_of_block bE]; rfl
        have z2 : w3.cell? ⟨bs, 2, none⟩ = some (.int .i64 tla) := by rw [cell_of_block bE]; rfl
        have z3 : w3.cell? ⟨bs, 3, none⟩ = some (.int .u64 tsn) := by rw [cell_of_block bE]; rfl
        have z4 : w3.cell? ⟨bs, 4, none⟩ = some (.int .i64 thow) := by rw [cell_of_block bE]; rfl
        have z5 : w3.cell? ⟨bs, 5, none⟩ = some (.int .i64 trd) := by rw [cell_of_block bE]; rfl
        have z6 : w3.cell? ⟨bs, 6, none⟩ = some (.int .i64 twr) := by rw [cell_of_block bE]; rfl
        have z7 : w3.cell? ⟨bs, 7, none⟩ = some (.int .i64 (fr : Int)) := by rw [cell_of_block bE]; rfl
        have z8 : w3.cell? ⟨bs, 8, none⟩ = some (.int .i64 (up : Int)) := by rw [cell_of_block bE]; rfl
        have z9 : w3.cell? ⟨bs, 9, none⟩ = some (.int .i64 (-1)) := by rw [cell_of_block bE]; rfl
        clear r1 r2 r3 oE K5 K0 htv HSK bE
        go_wp2_with (at_builtin; refine wpList_append_run rfl _ _ 46 rfl rfl rfl HA.out ?_)
        go_roundw
        · exact ⟨k + 1, by simp, by omega, HF.out⟩
        · simp [intOf]; omega
      · have hpos : 0 < tg.length := by omega
        have hla := lastT_at hpos
        obtain ⟨gt, ct, cur, hv, _, _, _⟩ := htv.at hpos
        injection hv with e1 _ e3
        subst e1 e3
        have tcl := (NR.cell htv (tg.length - 1) (by omega)).1
        rw [← hla] at tcl
        generalize lastT tg = av at *
        have hgt : 0 < (tg.length : Int) := by omega
        have wt1 : IntKind.i64.wrap ((tg.length : Int) - 1) = ((tg.length - 1 : Nat) : Int) := by rw [IntKind.wrap_i64]; omega
        obtain ⟨mm, hmm⟩ : ∃ mm : Nat, mm = tg.length - 1 := ⟨_, rfl⟩
        rw [← hmm] at tcl wt1
        have hmm0 : (0 : Int) ≤ (mm : Int) := by omega
        have hmm1 : (mm : Int) < (tg.length : Int) := by omega
        clear hla hmm hpos h0
        have c9 : w3.cell? ⟨bs, 9, none⟩ = some (.int .i64 (-1)) := by rw [cell_of_block bE]; rfl
        have f9 : w3.frozen? ⟨bs, 9, none⟩ = false := frozen_of_block bE _
        obtain ⟨Z, hZ⟩ : ∃ Z, Z = w3.setCell ⟨bs, 9, none⟩ (.int .i64 av) := ⟨_, rfl⟩
        have hr9 : (Instr.storeAt 3 (.pointer (some ⟨bs, 9, none⟩)) (.int .i64 av)).run Tryz.prog w3 = .ok () Z := by rw [hZ]; go_simp
        have HR : Hid (_ = _) := hr9
        have bF := block_set bE 9 (.int .i64 av)
        change (w3.setCell ⟨bs, 9, none⟩ (.int .i64 av)).heap[bs]? = some (.cells #[.int .i64 tth, .int .i64 tfi, .int .i64 tla, .int .u64 tsn, .int .i64 thow, .int .i64 trd, .int .i64 twr, .int .i64 (fr : Int), .int .i64 (up : Int), .int .i64 av] 56 (0, 0)) at bF
        have kF := (Keeps.refl (fun q => q = bs) w3).setCell (p := ⟨bs, 9, none⟩) (.inr rfl) (.int .i64 av)
        rw [← hZ] at bF kF
        have oF := oE.keeps kF (fun q hq e => hnr q hq e)
        have KF : Keeps (fun _ => False) w Z := K0.young kF (fun q e => by have := HBS.out; omega)
        obtain ⟨v', w5, r1, r2, r3⟩ := oF.push sg_len sg_one (by decide) Tryz.underlying46 info_sg rfl (by decide) (ty := 46) ⟨⟨tth, tfi, tla, tsn, thow, trd, twr⟩, (fr : Int), (up : Int), av⟩ (cs := #[.int .i64 tth, .int .i64 tfi, .int .i64 tla, .int .u64 tsn, .int .i64 thow, .int .i64 trd, .int .i64 twr, .int .i64 (fr : Int), .int .i64 (up : Int), .int .i64 av]) rfl (by rw [hkl]; omega)
        rw [← HSK.out] at r2
        have K5 := OwnR.kept r3 KF oF
        obtain ⟨⟨za, zn, zc⟩, rfl, -⟩ := sl_of r2
        dsimp only [Sl.v] at r1
        have HA : Hid (_ = _) := r1
        have HF : Hid (SR w5 w.heap.size (.slice za zn zc) (sgK F (Y.map (·.p)) T (X.map (·.p)) (k + 1)) ∧ Keeps (fun _ => False) w w5) := ⟨r2, K5⟩
        have z0 : Z.cell? ⟨bs, 0, none⟩ = some (.int .i64 tth) := by rw [cell_of_block bF]; rfl
        have z1 : Z.cell? ⟨bs, 1, none⟩ = some (.int .i64 tfi) := by rw [cell_of_block bF]; rfl
        have z2 : Z.cell? ⟨bs, 2, none⟩ = some (.int .i64 tla) := by rw [cell_of_block bF]; rfl
        have z3 : Z.cell? ⟨bs, 3, none⟩ = some (.int .u64 tsn) := by rw [cell_of_block bF]; rfl
        have z4 : Z.cell? ⟨bs, 4, none⟩ = some (.int .i64 thow) := by rw [cell_of_block bF]; rfl
        have z5 : Z.cell? ⟨bs, 5, none⟩ = some (.int .i64 trd) := by rw [cell_of_block bF]; rfl
        have z6 : Z.cell? ⟨bs, 6, none⟩ = some (.int .i64 twr) := by rw [cell_of_block bF]; rfl
        have z7 : Z.cell? ⟨bs, 7, none⟩ = some (.int .i64 (fr : Int)) := by rw [cell_of_block bF]; rfl
        have z8 : Z.cell? ⟨bs, 8, none⟩ = some (.int .i64 (up : Int)) := by rw [cell_of_block bF]; rfl
        have z9 : Z.cell? ⟨bs, 9, none⟩ = some (.int .i64 av) := by rw [cell_of_block bF]; rfl
        clear hr9 hZ c9 f9
        clear r1 r2 r3 oE oF K5 K0 KF kF htv HSK bE bF
        go_wp2_with (first | (refine wpList_store_run rfl 3 _ _ rfl rfl rfl HR.out ?_) | (at_builtin; refine wpList_append_run rfl _ _ 46 rfl rfl rfl HA.out ?_))
        go_roundw
        · exact ⟨k + 1, by simp, by omega, HF.out⟩
        · simp [intOf]; omega
    · obtain rfl : k = T.length := by omega
      have HF : Hid (SR wr w.heap.size u3 (sgK F (Y.map (·.p)) T (X.map (·.p)) T.length)) := hO
      obtain ⟨ub, uc, rfl⟩ := hO.form
      clear hO
      go_wp2_with fail
      go_ret
      exact ⟨_, rfl, HF.out, kr⟩
end Go.Proofs.YthmiainhaebjiaaGreatDoor
