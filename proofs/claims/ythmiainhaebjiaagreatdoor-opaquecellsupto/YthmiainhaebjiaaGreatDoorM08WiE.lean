/-
  No statement of the seat is proved here. (Several texts in one: WiE.)
-/
import Derived.Test.YthmiainhaebjiaaGreatDoorM05WiB
import Derived.Test.YthmiainhaebjiaaGreatDoorM06OpC
import Derived.Deep.RegionHeld3

/- A walk of note (package witness). No statement of the seat is proved here. -/
namespace Go.Proofs.YthmiainhaebjiaaGreatDoor
open Go.RowKit Go.Shelf

theorem off_cell {w : World} {g a b : Nat} {u v : Value} (hne : a ≠ b) (h : w.cell? ⟨g, b, none⟩ = some v) : (w.setCell ⟨g, a, none⟩ u).cell? ⟨g, b, none⟩ = some v := by
  rw [World.cell?_setCell_other]
  · exact h
  · intro e; exact hne (congrArg Addr.off e)
theorem far_cell {w : World} {g g' a b : Nat} {u v : Value} (hne : ¬ g = g') (h : w.cell? ⟨g', b, none⟩ = some v) : (w.setCell ⟨g, a, none⟩ u).cell? ⟨g', b, none⟩ = some v := (World.cell?_setCell_far _ _ _ _ hne).trans h
abbrev Prs (w : World) (base : Nat) (v : Value) (X : List Bx) : Prop := RwL Bx.cp 11 137 w base v X
/-- One block of a row has turned into another. -/
structure Nst (base g N cap : Nat) (X : List Bx) (n : Nat) (w : World) (Y : Bx) (W : World) : Prop where
  row : Prs W base (.slice (some ⟨g, 0, none⟩) N cap) (X.set n Y)
  kp : Keeps (fun q => base ≤ q) w W
  kx : ∀ b, b < w.heap.size → b ≠ g → b ∉ ows X → W.heap[b]? = w.heap[b]?
  ox : ∀ q ∈ Y.ow, q ∈ ows X ∨ w.heap.size ≤ q
section
variable {base g N cap n : Nat} {X : List Bx} {w W : World} {Y : Bx}
theorem Nst.start (h : Prs w base (.slice (some ⟨g, 0, none⟩) N cap) X) (hn : n < X.length) : Nst base g N cap X n w (X[n]) w := ⟨by rw [List.set_getElem_self]; exact h, Keeps.refl _ _, fun _ _ _ _ => rfl, fun q hq => .inl (List.mem_flatMap.2 ⟨_, List.getElem_mem hn, hq⟩)⟩
theorem Nst.quiet {W' : World} (h : Nst base g N cap X n w Y W) (k : Keeps (fun _ => False) W W') : Nst base g N cap X n w Y W' := ⟨h.row.keeps k (fun _ _ _ f => f), h.kp.trans (k.mono fun _ _ f => f.elim), fun b hb hg ho => (k.block b (Nat.lt_of_lt_of_le hb h.kp.size) (fun f => f)).trans (h.kx b hb hg ho), h.ox⟩
theorem Nst.gb (h : Nst base g N cap X n w Y W) : g < W.heap.size ∧ base ≤ g := own_block h.row.own.own rfl
theorem Nst.cell (h : Nst base g N cap X n w Y W) (hn : n < X.length) (f : Nat) (y : Bx) (u : Value) (hf : f < 11) (hy : y.cp = Y.cp.set f u) (hr : y.r = Y.r) (hs : y.s = Y.s) (h1 : y.p.rs = Y.p.rs) (h2 : y.p.ws = Y.p.ws) : Nst base g N cap X n w y (W.setCell ⟨g, n * 11 + f, none⟩ u) := by
  have hn' : n < (X.set n Y).length := by simpa using hn
  have e : (X.set n Y)[n]'hn' = Y := List.getElem_set_self hn'
  have := h.row.set cp_len n f y u hn' hf (by rw [e]; exact hy) (by rw [e]; exact hr) (by rw [e]; exact hs) (by rw [e]; exact h1) (by rw [e]; exact h2)
  rw [List.set_set] at this
  exact ⟨this, h.kp.setCell (.inr h.gb.2) u, fun b hb hg ho => (((Keeps.refl (fun q => q = g) W).setCell (p := ⟨g, n * 11 + f, none⟩) (.inr rfl) u).block b (Nat.lt_of_lt_of_le hb h.kp.size) hg).trans (h.kx b hb hg ho), fun q hq => h.ox q (by unfold Bx.ow at hq ⊢; rw [hr, hs] at hq; exact hq)⟩
theorem Nst.reads {W1 : World} (h : Nst base g N cap X n w Y W) (hn : n < X.length) (y : Bx) (hy : y.cp = Y.cp.set 7 y.r.v) (hs : y.s = Y.s) (h2 : y.p.ws = Y.p.ws) (hI : EnR W1 base y.r.v y.p.rs) (gr : Grew W W1 Y.r.v y.r.v) : Nst base g N cap X n w y (W1.setCell ⟨g, n * 11 + 7, none⟩ y.r.v) := by
  have hn' : n < (X.set n Y).length := by simpa using hn
  have e : (X.set n Y)[n]'hn' = Y := List.getElem_set_self hn'
  have := h.row.reads cp_len n 7 y hn' (by decide) (by rw [e]; exact hy) (by rw [e]; exact hs) (by rw [e]; exact h2) hI (by rw [e]; exact gr)
  rw [List.set_set] at this
  have grown : ∀ {q : Nat}, q ∈ y.r.v.ownBlock.toList → q ∈ ows X ∨ w.heap.size ≤ q := fun {q} hq => by
    have hq := Option.mem_toList.1 hq
    rcases gr.own with e | e
    · exact h.ox q (by unfold Bx.ow; exact List.mem_append_left _ (by rw [← e, hq]; simp))
    · have h1 := e q hq
      have h2 := h.kp.size
      omega
  refine ⟨this.1, h.kp.trans this.2, fun b hb hg ho => ?_, fun q hq => ?_⟩
  · have hlt := Nat.lt_of_lt_of_le hb h.kp.size
    refine ((((Keeps.refl (fun q => q = g) W1).setCell (p := ⟨g, n * 11 + 7, none⟩) (.inr rfl) _).block b (Nat.lt_of_lt_of_le hlt gr.keeps.size) hg).trans (gr.keeps.block b hlt fun e => ?_)).trans (h.kx b hb hg ho)
    rcases h.ox b (by unfold Bx.ow; exact List.mem_append_left _ (by rw [e]; simp)) with q | q
    · exact ho q
    · omega
  · unfold Bx.ow at hq
    rcases List.mem_append.1 hq with hq | hq
    · exact grown hq
    · rw [hs] at hq; exact h.ox q (by unfold Bx.ow; exact List.mem_append_right _ hq)
theorem Nst.writes {W1 : World} (h : Nst base g N cap X n w Y W) (hn : n < X.length) (y : Bx) (hy : y.cp = Y.cp.set 8 y.s.v) (hs : y.r = Y.r) (h2 : y.p.rs = Y.p.rs) (hI : EnR W1 base y.s.v y.p.ws) (gr : Grew W W1 Y.s.v y.s.v) : Nst base g N cap X n w y (W1.setCell ⟨g, n * 11 + 8, none⟩ y.s.v) := by
  have hn' : n < (X.set n Y).length := by simpa using hn
  have e : (X.set n Y)[n]'hn' = Y := List.getElem_set_self hn'
  have := h.row.writes cp_len n 8 y hn' (by decide) (by rw [e]; exact hy) (by rw [e]; exact hs) (by rw [e]; exact h2) hI (by rw [e]; exact gr)
  rw [List.set_set] at this
  have grown : ∀ {q : Nat}, q ∈ y.s.v.ownBlock.toList → q ∈ ows X ∨ w.heap.size ≤ q := fun {q} hq => by
    have hq := Option.mem_toList.1 hq
    rcases gr.own with e | e
    · exact h.ox q (by unfold Bx.ow; exact List.mem_append_right _ (by rw [← e, hq]; simp))
    · have h1 := e q hq
      have h2 := h.kp.size
      omega
  refine ⟨this.1, h.kp.trans this.2, fun b hb hg ho => ?_, fun q hq => ?_⟩
  · have hlt := Nat.lt_of_lt_of_le hb h.kp.size
    refine ((((Keeps.refl (fun q => q = g) W1).setCell (p := ⟨g, n * 11 + 8, none⟩) (.inr rfl) _).block b (Nat.lt_of_lt_of_le hlt gr.keeps.size) hg).trans (gr.keeps.block b hlt fun e => ?_)).trans (h.kx b hb hg ho)
    rcases h.ox b (by unfold Bx.ow; exact List.mem_append_right _ (by rw [e]; simp)) with q | q
    · exact ho q
    · omega
  · unfold Bx.ow at hq
    rcases List.mem_append.1 hq with hq | hq
    · rw [hs] at hq; exact h.ox q (by unfold Bx.ow; exact List.mem_append_left _ hq)
    · exact grown hq
theorem Nst.at (h : Nst base g N cap X n w Y W) (hn : n < X.length) : (∀ f x, Y.cp[f]? = some x → W.cell? ⟨g, n * 11 + f, none⟩ = some x) ∧ (∀ o, W.frozen? ⟨g, o, none⟩ = false) := by
  have hn' : n < (X.set n Y).length := by simpa using hn
  obtain ⟨g', off, hgo, hc⟩ := (h.row.own.els cp_len).at n hn'
  simp only [Option.some.injEq, Addr.mk.injEq, and_true] at hgo
  obtain ⟨rfl, rfl⟩ := hgo
  obtain ⟨g2, cap', cur, h1, h2, h3, h4⟩ := h.row.own.at (by omega)
  simp only [Value.slice.injEq, Option.some.injEq, Addr.mk.injEq, and_true] at h1
  obtain ⟨rfl, -, -⟩ := h1
  refine ⟨fun f x hx => ?_, fun o => frozen_of_block h3 o⟩
  have := hc f x (by rw [List.getElem_set_self]; exact hx)
  simpa using this
theorem Nst.blk (h : Nst base g N cap X n w Y W) (hn : n < X.length) : ∃ cur, W.heap[g]? = some (.cells cur 137 (0, 0)) := by
  obtain ⟨g2, cap', cur, h1, h2, h3, h4⟩ := h.row.own.at (by rw [List.length_set]; omega)
  simp only [Value.slice.injEq, Option.some.injEq, Addr.mk.injEq, and_true] at h1
  obtain ⟨rfl, -, -⟩ := h1
  exact ⟨cur, h3⟩
theorem Nst.en (h : Nst base g N cap X n w Y W) (hn : n < X.length) : EnR W base Y.r.v Y.p.rs ∧ EnR W base Y.s.v Y.p.ws :=
  ⟨h.row.rws.rd Y (List.mem_iff_getElem.2 ⟨n, by simpa using hn, List.getElem_set_self _⟩), h.row.rws.wt Y (List.mem_iff_getElem.2 ⟨n, by simpa using hn, List.getElem_set_self _⟩)⟩
end

set_option maxRecDepth 100000 in
set_option maxHeartbeats 4000000 in
theorem wnote_any (base g N cap : Nat) (X : List Bx) (n : Nat) (k : Nat) (e : Ev) (w : World) (hwd : 0 ≤ e.wd ∧ e.wd < 18446744073709551616) (h : Prs w base (.slice (some ⟨g, 0, none⟩) N cap) X) (hn : n < X.length) (hr : (X[n]).p.rs.length ≤ 1200000) (hw : (X[n]).p.ws.length ≤ 1200000) :
    Calls Tryz.prog 104 #[.pointer (some ⟨g, n * 11, none⟩), .int .i64 k, .agg e.cells] w fun ex w' => ex = .returned (.tuple #[]) ∧ ∃ Y, Nst base g N cap X n w Y w' ∧ Y.p = noteP (X[n]).p k e := by
  have hmx : Tryz.prog.follows .mixedOrders = true := by kernel_rfl
  have N0 := Nst.start h hn
  clear h
  generalize X[n]'hn = x at *
  obtain ⟨⟨pth, pkd, pfi, pla, pnu, pwr, per, prs, pws, psi, plk⟩, ⟨ra, rn, rc⟩, ⟨sa, sn, sc⟩⟩ := x
  obtain ⟨th, kd, ad, wd, own, er⟩ := e
  dsimp only at hwd
  obtain ⟨y1, y2⟩ := N0.at hn
  have c3 := y1 3 _ rfl
  have f3 := y2 (n * 11 + 3)
  have hgl := N0.gb.1
  have hrb : ∀ q, (Value.slice ra rn rc).ownBlock = some q → q < w.heap.size := fun q hq => (own_block (N0.en hn).1.own hq).1
  have hsb : ∀ q, (Value.slice sa sn sc).ownBlock = some q → q < w.heap.size := fun q hq => (own_block (N0.en hn).2.own hq).1
  have N3 := N0.cell hn 3 ⟨⟨pth, pkd, pfi, k, pnu, pwr, per, prs, pws, psi, plk⟩, ⟨ra, rn, rc⟩, ⟨sa, sn, sc⟩⟩ (.int .i64 k) (by decide) rfl rfl rfl rfl rfl
  have N1 := (N0.cell hn 3 ⟨⟨pth, pkd, pfi, k, pnu, pwr, per, prs, pws, psi, plk⟩, ⟨ra, rn, rc⟩, ⟨sa, sn, sc⟩⟩ (.int .i64 k) (by decide) rfl rfl rfl rfl rfl).quiet ((Keeps.refl _ _).alloc (.cells #[.int .i64 th, .int .i64 kd, .int .u64 ad, .int .u64 wd, .bool own, .int .i64 er] 60))
  have b1 := (MapKept.heap_alloc (w.setCell ⟨g, n * 11 + 3, none⟩ (.int .i64 k)) (.cells #[.int .i64 th, .int .i64 kd, .int .u64 ad, .int .u64 wd, .bool own, .int .i64 er] 60)).1
  have hz1 : (w.setCell ⟨g, n * 11 + 3, none⟩ (.int .i64 k)).heap.size = w.heap.size := by simp
  rw [hz1] at b1
  have hne : ¬ g = w.heap.size := by omega
  have hwd2 : IntKind.u64.wrap (Int.tdiv wd 2) = wd / 2 := by
    rw [IntKind.wrap_u64, Int.tdiv_eq_ediv_of_nonneg hwd.1]; omega
  have c1 := y1 1 _ rfl
  have c4 := y1 4 _ rfl
  have c5 := y1 5 _ rfl
  have c6 := y1 6 _ rfl
  have c9 := y1 9 _ rfl
  have c10 := y1 10 _ rfl
  have f1 := y2 (n * 11 + 1)
  have f10 := y2 (n * 11 + 10)
  clear y1 y2 N0 hz1
  show Calls Tryz.prog 104 #[.pointer (some ⟨g, n * 11, none⟩), .int .i64 k, .agg #[.int .i64 th, .int .i64 kd, .int .u64 ad, .int .u64 wd, .bool own, .int .i64 er]] w _
  by_cases h1 : kd = 1 ∨ kd = 4
  · have fin : ∀ V, Nst base g N cap X n w ⟨⟨pth, pkd, pfi, k, pnu, pwr, per, prs, pws, psi, plk⟩, ⟨ra, rn, rc⟩, ⟨sa, sn, sc⟩⟩ V → ∃ Y, Nst base g N cap X n w Y (((V.setCell ⟨g, n * 11 + 1, none⟩ (.int .i64 5)).setCell ⟨g, n * 11 + 4, none⟩ (.int .u64 (wd / 2))).setCell ⟨g, n * 11 + 9, none⟩ (.int .i64 k)).drew ∧ Y.p = noteP ⟨pth, pkd, pfi, pla, pnu, pwr, per, prs, pws, psi, plk⟩ k ⟨th, kd, ad, wd, own, er⟩ := fun V q =>
      ⟨⟨⟨pth, 5, pfi, k, wd / 2, pwr, per, prs, pws, k, plk⟩, ⟨ra, rn, rc⟩, ⟨sa, sn, sc⟩⟩, (((q.cell hn 1 ⟨⟨pth, 5, pfi, k, pnu, pwr, per, prs, pws, psi, plk⟩, ⟨ra, rn, rc⟩, ⟨sa, sn, sc⟩⟩ (.int .i64 5) (by decide) rfl rfl rfl rfl rfl).cell hn 4 ⟨⟨pth, 5, pfi, k, wd / 2, pwr, per, prs, pws, psi, plk⟩, ⟨ra, rn, rc⟩, ⟨sa, sn, sc⟩⟩ (.int .u64 (wd / 2)) (by decide) rfl rfl rfl rfl rfl).cell hn 9 ⟨⟨pth, 5, pfi, k, wd / 2, pwr, per, prs, pws, k, plk⟩, ⟨ra, rn, rc⟩, ⟨sa, sn, sc⟩⟩ (.int .i64 k) (by decide) rfl rfl rfl rfl rfl).quiet (Keeps.refl _ _).drew, by simp [noteP, h1]⟩
    have HF : Hid (∀ V, _ → _) := fin
    clear fin
    rcases h1 with rfl | rfl
    all_goals
      go_enter Tryz.func104, Tryz.ntmps104
      go_wp2_with fail
      clear c1 c4 c5 c6 c9 c10 f1 f10 c3 f3
      generalize (w.setCell ⟨g, n * 11 + 3, none⟩ (.int .i64 k)).alloc (.cells #[.int .i64 th, _, .int .u64 ad, .int .u64 wd, .bool own, .int .i64 er] 60) = V at *
      obtain ⟨y1, y2⟩ := N1.at hn
      have c1 := y1 1 _ rfl
      have c4 := y1 4 _ rfl
      have c9 := y1 9 _ rfl
      have f1 := y2 (n * 11 + 1)
      have f4 := y2 (n * 11 + 4)
      have f9 := y2 (n * 11 + 9)
      have b3 : V.cell? ⟨w.heap.size, 3, none⟩ = some (.int .u64 wd) := by rw [cell_of_block b1]; rfl
      have HN : Hid (Nst base g N cap X n w _ V) := N1
      clear y1 y2 N1 b1
      go_region_held3 (fun W : World => W.cell? ⟨w.heap.size, 3, none⟩ = some (.int .u64 wd)) (first | assumption | go_keep) (fail)
      go_wp2_with fail
      go_end0
      exact ⟨rfl, HF.out V HN.out⟩
  · obtain ⟨h1a, h1b⟩ := not_or.1 h1
    by_cases h2 : kd = 2
    · subst h2
      cases own
      · go_enter Tryz.func104, Tryz.ntmps104
        go_wp2_with fail
        clear c1 c4 c5 c6 c9 c10 f1 f10 c3 f3
        generalize (w.setCell ⟨g, n * 11 + 3, none⟩ (.int .i64 k)).alloc (.cells #[.int .i64 th, _, .int .u64 ad, .int .u64 wd, .bool _, .int .i64 er] 60) = V at *
        obtain ⟨v', w3, r1, r2, r3⟩ := (N1.quiet (Keeps.refl _ _).drew).en hn |>.1.push en_len en_one (by decide) Tryz.underlying71 info_en rfl (by decide) (ty := 71) (ad, wd) (cs := #[.int .u64 ad, .int .u64 wd, .bool false]) rfl (by dsimp only at hr ⊢; omega)
        obtain ⟨⟨ya, yn, yc⟩, rfl, -⟩ := sl_of r2
        have N2 := (N1.quiet (Keeps.refl _ _).drew).reads hn ⟨⟨pth, pkd, pfi, k, pnu, pwr, per, prs ++ [(ad, wd)], pws, psi, plk⟩, ⟨ya, yn, yc⟩, ⟨sa, sn, sc⟩⟩ rfl rfl rfl r2 r3
        have HA : Hid (_ = _) := r1
        have HF : Hid (∃ Y, Nst base g N cap X n w Y _ ∧ Y.p = noteP ⟨pth, pkd, pfi, pla, pnu, pwr, per, prs, pws, psi, plk⟩ k ⟨th, 2, ad, wd, false, er⟩) := ⟨_, N2, by simp [noteP]⟩
        have hng : ¬ (Value.slice ra rn rc).ownBlock = some g := fun q => (N1.row.ap g rfl) (ows_mem (x := ⟨⟨pth, pkd, pfi, k, pnu, pwr, per, prs, pws, psi, plk⟩, ⟨ra, rn, rc⟩, ⟨sa, sn, sc⟩⟩) (List.mem_iff_getElem.2 ⟨n, by simpa using hn, List.getElem_set_self _⟩) (.inl q))
        have hnb : ¬ (Value.slice ra rn rc).ownBlock = some w.heap.size := fun q => by have := hrb _ q; omega
        obtain ⟨y1, y2⟩ := (N1.quiet (Keeps.refl _ _).drew).at hn
        have S0 : V.drew.cell? ⟨g, n * 11 + 7, none⟩ = some (.slice ra rn rc) ∧ V.drew.cell? ⟨w.heap.size, 2, none⟩ = some (.int .u64 ad) ∧ V.drew.cell? ⟨w.heap.size, 3, none⟩ = some (.int .u64 wd) := ⟨y1 7 _ rfl, by show V.cell? _ = _; rw [cell_of_block b1]; rfl, by show V.cell? _ = _; rw [cell_of_block b1]; rfl⟩
        have kal := (Keeps.refl (fun _ => False) V.drew).alloc (.cells #[.int .u64 ad, .int .u64 wd, .bool false] 75)
        have S1 : (V.drew.alloc (.cells #[.int .u64 ad, .int .u64 wd, .bool false] 75)).cell? ⟨g, n * 11 + 7, none⟩ = some (.slice ra rn rc) ∧ (V.drew.alloc (.cells #[.int .u64 ad, .int .u64 wd, .bool false] 75)).cell? ⟨w.heap.size, 2, none⟩ = some (.int .u64 ad) ∧ (V.drew.alloc (.cells #[.int .u64 ad, .int .u64 wd, .bool false] 75)).cell? ⟨w.heap.size, 3, none⟩ = some (.int .u64 wd) := ⟨kal.cellB (fun f => f) S0.1, kal.cellB (fun f => f) S0.2.1, kal.cellB (fun f => f) S0.2.2⟩
        have S2 : w3.cell? ⟨g, n * 11 + 7, none⟩ = some (.slice ra rn rc) ∧ w3.cell? ⟨w.heap.size, 2, none⟩ = some (.int .u64 ad) ∧ w3.cell? ⟨w.heap.size, 3, none⟩ = some (.int .u64 wd) := ⟨r3.keeps.cellB hng S0.1, r3.keeps.cellB hnb S0.2.1, r3.keeps.cellB hnb S0.2.2⟩
        obtain ⟨cu, hcu⟩ := (N1.quiet (Keeps.refl _ _).drew).blk hn
        have f7 : w3.frozen? ⟨g, n * 11 + 7, none⟩ = false := frozen_of_block ((r3.keeps.block g (lt_of_block hcu) hng).trans hcu) _
        clear hcu
        clear N1 N2 r1 r2 r3 y1 y2 kal hng hnb b1
        refine wp_until (S := fun W : World => W.cell? ⟨g, n * 11 + 7, none⟩ = some (.slice ra rn rc) ∧ W.cell? ⟨w.heap.size, 2, none⟩ = some (.int .u64 ad) ∧ W.cell? ⟨w.heap.size, 3, none⟩ = some (.int .u64 wd)) 16 17 rfl hmx ?_
        simp only [Array.replicate_succ, Array.replicate_zero, List.push_toArray, List.nil_append, List.cons_append]
        refine u_take (i := 0) (v := (.pointer (some ⟨g, n * 11, none⟩))) 36 rfl rfl (by kernel_rfl) (by kernel_rfl) (by kernel_rfl) (by kernel_rfl) rfl (fun w' hw' => by obtain ⟨q0, q1, q2⟩ := hw'; go_simp) S0 ?_
        simp only [Act.put, List.setIfInBounds_toArray, List.set_cons_zero, List.set_cons_succ]
        refine u_take (i := 1) (v := (.pointer (some ⟨g, n * 11, none⟩))) 37 rfl rfl (by kernel_rfl) (by kernel_rfl) (by kernel_rfl) (by kernel_rfl) rfl (fun w' hw' => by obtain ⟨q0, q1, q2⟩ := hw'; go_simp) S0 ?_
        simp only [Act.put, List.setIfInBounds_toArray, List.set_cons_zero, List.set_cons_succ]
        refine u_take (i := 2) (v := (.pointer (some ⟨g, n * 11, none⟩))) 38 rfl rfl (by kernel_rfl) (by kernel_rfl) (by kernel_rfl) (by kernel_rfl) rfl (fun w' hw' => by obtain ⟨q0, q1, q2⟩ := hw'; go_simp) S0 ?_
        simp only [Act.put, List.setIfInBounds_toArray, List.set_cons_zero, List.set_cons_succ]
        refine u_take (i := 3) (v := (.pointer (some ⟨g, n * 11, none⟩))) 39 rfl rfl (by kernel_rfl) (by kernel_rfl) (by kernel_rfl) (by kernel_rfl) rfl (fun w' hw' => by obtain ⟨q0, q1, q2⟩ := hw'; go_simp) S0 ?_
        simp only [Act.put, List.setIfInBounds_toArray, List.set_cons_zero, List.set_cons_succ]
        refine u_take (i := 4) (v := (.pointer (some ⟨g, n * 11 + 7, none⟩))) 40 rfl rfl (by kernel_rfl) (by kernel_rfl) (by kernel_rfl) (by kernel_rfl) rfl (fun w' hw' => by obtain ⟨q0, q1, q2⟩ := hw'; go_simp) S0 ?_
        simp only [Act.put, List.setIfInBounds_toArray, List.set_cons_zero, List.set_cons_succ]
        refine u_take (i := 5) (v := (.slice ra rn rc)) 41 rfl rfl (by kernel_rfl) (by kernel_rfl) (by kernel_rfl) (by kernel_rfl) rfl (fun w' hw' => by obtain ⟨q0, q1, q2⟩ := hw'; go_simp) S0 ?_
        simp only [Act.put, List.setIfInBounds_toArray, List.set_cons_zero, List.set_cons_succ]
        refine u_take (i := 6) (v := (.pointer (some ⟨w.heap.size, 2, none⟩))) 42 rfl rfl (by kernel_rfl) (by kernel_rfl) (by kernel_rfl) (by kernel_rfl) rfl (fun w' hw' => by obtain ⟨q0, q1, q2⟩ := hw'; go_simp) S0 ?_
        simp only [Act.put, List.setIfInBounds_toArray, List.set_cons_zero, List.set_cons_succ]
        refine u_take (i := 7) (v := (.int .u64 ad)) 43 rfl rfl (by kernel_rfl) (by kernel_rfl) (by kernel_rfl) (by kernel_rfl) rfl (fun w' hw' => by obtain ⟨q0, q1, q2⟩ := hw'; go_simp) S0 ?_
        simp only [Act.put, List.setIfInBounds_toArray, List.set_cons_zero, List.set_cons_succ]
        refine u_take (i := 8) (v := (.pointer (some ⟨w.heap.size, 3, none⟩))) 44 rfl rfl (by kernel_rfl) (by kernel_rfl) (by kernel_rfl) (by kernel_rfl) rfl (fun w' hw' => by obtain ⟨q0, q1, q2⟩ := hw'; go_simp) S0 ?_
        simp only [Act.put, List.setIfInBounds_toArray, List.set_cons_zero, List.set_cons_succ]
        refine u_take (i := 9) (v := (.int .u64 wd)) 45 rfl rfl (by kernel_rfl) (by kernel_rfl) (by kernel_rfl) (by kernel_rfl) rfl (fun w' hw' => by obtain ⟨q0, q1, q2⟩ := hw'; go_simp) S0 ?_
        simp only [Act.put, List.setIfInBounds_toArray, List.set_cons_zero, List.set_cons_succ]
        refine u_take (i := 10) (v := (.agg #[.int .u64 ad, .int .u64 wd, .bool false])) 46 rfl rfl (by kernel_rfl) (by kernel_rfl) (by kernel_rfl) (by kernel_rfl) rfl (fun w' hw' => by obtain ⟨q0, q1, q2⟩ := hw'; go_simp) S0 ?_
        simp only [Act.put, List.setIfInBounds_toArray, List.set_cons_zero, List.set_cons_succ]
        refine u_val (i := 11) (v := .slice (some ⟨V.heap.size, 0, none⟩) 1 1) (w' := V.drew.alloc (.cells #[.int .u64 ad, .int .u64 wd, .bool false] 75)) (some 47) (by kernel_rfl) rfl rfl rfl (by go_simp) S1 ?_
        simp only [Act.put, List.setIfInBounds_toArray, List.set_cons_zero, List.set_cons_succ]
        refine u_val (i := 12) (v := .slice ya yn yc) (w' := w3) (some 48) (by kernel_rfl) rfl rfl rfl (run_append_op rfl rfl rfl HA.out) S2 ?_
        simp only [Act.put, List.setIfInBounds_toArray, List.set_cons_zero, List.set_cons_succ]
        refine u_val (i := 13) (v := (.pointer (some ⟨g, n * 11, none⟩))) (w' := w3) (some 49) (by kernel_rfl) rfl rfl rfl (by go_simp) S2 ?_
        simp only [Act.put, List.setIfInBounds_toArray, List.set_cons_zero, List.set_cons_succ]
        refine u_val (i := 14) (v := (.pointer (some ⟨g, n * 11, none⟩))) (w' := w3) (some 50) (by kernel_rfl) rfl rfl rfl (by go_simp) S2 ?_
        simp only [Act.put, List.setIfInBounds_toArray, List.set_cons_zero, List.set_cons_succ]
        refine u_val (i := 15) (v := (.pointer (some ⟨g, n * 11 + 7, none⟩))) (w' := w3) (some 51) (by kernel_rfl) rfl rfl rfl (by go_simp) S2 ?_
        simp only [Act.put, List.setIfInBounds_toArray, List.set_cons_zero, List.set_cons_succ]
        refine u_last (w' := w3.setCell ⟨g, n * 11 + 7, none⟩ (.slice ya yn yc)) (by kernel_rfl) rfl rfl rfl (by go_simp) (by kernel_rfl) ?_
        go_wp2_with fail
        go_end0
        exact ⟨rfl, HF.out⟩
      · go_enter Tryz.func104, Tryz.ntmps104
        go_wp2_with fail
        go_end0
        exact ⟨rfl, _, N1, by simp [noteP]⟩
    · have b2 : (kd == 2) = false := by rw [beq_eq_false_iff_ne]; exact h2
      by_cases h3 : kd = 3
      · subst h3
        go_enter Tryz.func104, Tryz.ntmps104
        go_wp2_with fail
        clear c1 c4 c5 c6 c9 c10 f1 f10 c3 f3
        generalize (w.setCell ⟨g, n * 11 + 3, none⟩ (.int .i64 k)).alloc (.cells #[.int .i64 th, _, .int .u64 ad, .int .u64 wd, .bool _, .int .i64 er] 60) = V at *
        obtain ⟨v', w3, r1, r2, r3⟩ := (N1.quiet (Keeps.refl _ _).drew).en hn |>.2.push en_len en_one (by decide) Tryz.underlying71 info_en rfl (by decide) (ty := 71) (ad, wd) (cs := #[.int .u64 ad, .int .u64 wd, .bool false]) rfl (by dsimp only at hw ⊢; omega)
        obtain ⟨⟨ya, yn, yc⟩, rfl, -⟩ := sl_of r2
        have N2 := (N1.quiet (Keeps.refl _ _).drew).writes hn ⟨⟨pth, pkd, pfi, k, pnu, pwr, per, prs, pws ++ [(ad, wd)], psi, plk⟩, ⟨ra, rn, rc⟩, ⟨ya, yn, yc⟩⟩ rfl rfl rfl r2 r3
        have HA : Hid (_ = _) := r1
        have HF : Hid (∃ Y, Nst base g N cap X n w Y _ ∧ Y.p = noteP ⟨pth, pkd, pfi, pla, pnu, pwr, per, prs, pws, psi, plk⟩ k ⟨th, 3, ad, wd, own, er⟩) := ⟨_, N2, by simp [noteP]⟩
        have hng : ¬ (Value.slice sa sn sc).ownBlock = some g := fun q => (N1.row.ap g rfl) (ows_mem (x := ⟨⟨pth, pkd, pfi, k, pnu, pwr, per, prs, pws, psi, plk⟩, ⟨ra, rn, rc⟩, ⟨sa, sn, sc⟩⟩) (List.mem_iff_getElem.2 ⟨n, by simpa using hn, List.getElem_set_self _⟩) (.inr q))
        have hnb : ¬ (Value.slice sa sn sc).ownBlock = some w.heap.size := fun q => by have := hsb _ q; omega
        obtain ⟨y1, y2⟩ := (N1.quiet (Keeps.refl _ _).drew).at hn
        have S0 : V.drew.cell? ⟨g, n * 11 + 8, none⟩ = some (.slice sa sn sc) ∧ V.drew.cell? ⟨w.heap.size, 2, none⟩ = some (.int .u64 ad) ∧ V.drew.cell? ⟨w.heap.size, 3, none⟩ = some (.int .u64 wd) := ⟨y1 8 _ rfl, by show V.cell? _ = _; rw [cell_of_block b1]; rfl, by show V.cell? _ = _; rw [cell_of_block b1]; rfl⟩
        have kal := (Keeps.refl (fun _ => False) V.drew).alloc (.cells #[.int .u64 ad, .int .u64 wd, .bool false] 75)
        have S1 : (V.drew.alloc (.cells #[.int .u64 ad, .int .u64 wd, .bool false] 75)).cell? ⟨g, n * 11 + 8, none⟩ = some (.slice sa sn sc) ∧ (V.drew.alloc (.cells #[.int .u64 ad, .int .u64 wd, .bool false] 75)).cell? ⟨w.heap.size, 2, none⟩ = some (.int .u64 ad) ∧ (V.drew.alloc (.cells #[.int .u64 ad, .int .u64 wd, .bool false] 75)).cell? ⟨w.heap.size, 3, none⟩ = some (.int .u64 wd) := ⟨kal.cellB (fun f => f) S0.1, kal.cellB (fun f => f) S0.2.1, kal.cellB (fun f => f) S0.2.2⟩
        have S2 : w3.cell? ⟨g, n * 11 + 8, none⟩ = some (.slice sa sn sc) ∧ w3.cell? ⟨w.heap.size, 2, none⟩ = some (.int .u64 ad) ∧ w3.cell? ⟨w.heap.size, 3, none⟩ = some (.int .u64 wd) := ⟨r3.keeps.cellB hng S0.1, r3.keeps.cellB hnb S0.2.1, r3.keeps.cellB hnb S0.2.2⟩
        obtain ⟨cu, hcu⟩ := (N1.quiet (Keeps.refl _ _).drew).blk hn
        have f7 : w3.frozen? ⟨g, n * 11 + 8, none⟩ = false := frozen_of_block ((r3.keeps.block g (lt_of_block hcu) hng).trans hcu) _
        clear hcu
        clear N1 N2 r1 r2 r3 y1 y2 kal hng hnb b1
        refine wp_until (S := fun W : World => W.cell? ⟨g, n * 11 + 8, none⟩ = some (.slice sa sn sc) ∧ W.cell? ⟨w.heap.size, 2, none⟩ = some (.int .u64 ad) ∧ W.cell? ⟨w.heap.size, 3, none⟩ = some (.int .u64 wd)) 16 17 rfl hmx ?_
        simp only [Array.replicate_succ, Array.replicate_zero, List.push_toArray, List.nil_append, List.cons_append]
        refine u_take (i := 0) (v := (.pointer (some ⟨g, n * 11, none⟩))) 54 rfl rfl (by kernel_rfl) (by kernel_rfl) (by kernel_rfl) (by kernel_rfl) rfl (fun w' hw' => by obtain ⟨q0, q1, q2⟩ := hw'; go_simp) S0 ?_
        simp only [Act.put, List.setIfInBounds_toArray, List.set_cons_zero, List.set_cons_succ]
        refine u_take (i := 1) (v := (.pointer (some ⟨g, n * 11, none⟩))) 55 rfl rfl (by kernel_rfl) (by kernel_rfl) (by kernel_rfl) (by kernel_rfl) rfl (fun w' hw' => by obtain ⟨q0, q1, q2⟩ := hw'; go_simp) S0 ?_
        simp only [Act.put, List.setIfInBounds_toArray, List.set_cons_zero, List.set_cons_succ]
        refine u_take (i := 2) (v := (.pointer (some ⟨g, n * 11, none⟩))) 56 rfl rfl (by kernel_rfl) (by kernel_rfl) (by kernel_rfl) (by kernel_rfl) rfl (fun w' hw' => by obtain ⟨q0, q1, q2⟩ := hw'; go_simp) S0 ?_
        simp only [Act.put, List.setIfInBounds_toArray, List.set_cons_zero, List.set_cons_succ]
        refine u_take (i := 3) (v := (.pointer (some ⟨g, n * 11, none⟩))) 57 rfl rfl (by kernel_rfl) (by kernel_rfl) (by kernel_rfl) (by kernel_rfl) rfl (fun w' hw' => by obtain ⟨q0, q1, q2⟩ := hw'; go_simp) S0 ?_
        simp only [Act.put, List.setIfInBounds_toArray, List.set_cons_zero, List.set_cons_succ]
        refine u_take (i := 4) (v := (.pointer (some ⟨g, n * 11 + 8, none⟩))) 58 rfl rfl (by kernel_rfl) (by kernel_rfl) (by kernel_rfl) (by kernel_rfl) rfl (fun w' hw' => by obtain ⟨q0, q1, q2⟩ := hw'; go_simp) S0 ?_
        simp only [Act.put, List.setIfInBounds_toArray, List.set_cons_zero, List.set_cons_succ]
        refine u_take (i := 5) (v := (.slice sa sn sc)) 59 rfl rfl (by kernel_rfl) (by kernel_rfl) (by kernel_rfl) (by kernel_rfl) rfl (fun w' hw' => by obtain ⟨q0, q1, q2⟩ := hw'; go_simp) S0 ?_
        simp only [Act.put, List.setIfInBounds_toArray, List.set_cons_zero, List.set_cons_succ]
        refine u_take (i := 6) (v := (.pointer (some ⟨w.heap.size, 2, none⟩))) 60 rfl rfl (by kernel_rfl) (by kernel_rfl) (by kernel_rfl) (by kernel_rfl) rfl (fun w' hw' => by obtain ⟨q0, q1, q2⟩ := hw'; go_simp) S0 ?_
        simp only [Act.put, List.setIfInBounds_toArray, List.set_cons_zero, List.set_cons_succ]
        refine u_take (i := 7) (v := (.int .u64 ad)) 61 rfl rfl (by kernel_rfl) (by kernel_rfl) (by kernel_rfl) (by kernel_rfl) rfl (fun w' hw' => by obtain ⟨q0, q1, q2⟩ := hw'; go_simp) S0 ?_
        simp only [Act.put, List.setIfInBounds_toArray, List.set_cons_zero, List.set_cons_succ]
        refine u_take (i := 8) (v := (.pointer (some ⟨w.heap.size, 3, none⟩))) 62 rfl rfl (by kernel_rfl) (by kernel_rfl) (by kernel_rfl) (by kernel_rfl) rfl (fun w' hw' => by obtain ⟨q0, q1, q2⟩ := hw'; go_simp) S0 ?_
        simp only [Act.put, List.setIfInBounds_toArray, List.set_cons_zero, List.set_cons_succ]
        refine u_take (i := 9) (v := (.int .u64 wd)) 63 rfl rfl (by kernel_rfl) (by kernel_rfl) (by kernel_rfl) (by kernel_rfl) rfl (fun w' hw' => by obtain ⟨q0, q1, q2⟩ := hw'; go_simp) S0 ?_
        simp only [Act.put, List.setIfInBounds_toArray, List.set_cons_zero, List.set_cons_succ]
        refine u_take (i := 10) (v := (.agg #[.int .u64 ad, .int .u64 wd, .bool false])) 64 rfl rfl (by kernel_rfl) (by kernel_rfl) (by kernel_rfl) (by kernel_rfl) rfl (fun w' hw' => by obtain ⟨q0, q1, q2⟩ := hw'; go_simp) S0 ?_
        simp only [Act.put, List.setIfInBounds_toArray, List.set_cons_zero, List.set_cons_succ]
        refine u_val (i := 11) (v := .slice (some ⟨V.heap.size, 0, none⟩) 1 1) (w' := V.drew.alloc (.cells #[.int .u64 ad, .int .u64 wd, .bool false] 75)) (some 65) (by kernel_rfl) rfl rfl rfl (by go_simp) S1 ?_
        simp only [Act.put, List.setIfInBounds_toArray, List.set_cons_zero, List.set_cons_succ]
        refine u_val (i := 12) (v := .slice ya yn yc) (w' := w3) (some 66) (by kernel_rfl) rfl rfl rfl (run_append_op rfl rfl rfl HA.out) S2 ?_
        simp only [Act.put, List.setIfInBounds_toArray, List.set_cons_zero, List.set_cons_succ]
        refine u_val (i := 13) (v := (.pointer (some ⟨g, n * 11, none⟩))) (w' := w3) (some 67) (by kernel_rfl) rfl rfl rfl (by go_simp) S2 ?_
        simp only [Act.put, List.setIfInBounds_toArray, List.set_cons_zero, List.set_cons_succ]
        refine u_val (i := 14) (v := (.pointer (some ⟨g, n * 11, none⟩))) (w' := w3) (some 68) (by kernel_rfl) rfl rfl rfl (by go_simp) S2 ?_
        simp only [Act.put, List.setIfInBounds_toArray, List.set_cons_zero, List.set_cons_succ]
        refine u_val (i := 15) (v := (.pointer (some ⟨g, n * 11 + 8, none⟩))) (w' := w3) (some 69) (by kernel_rfl) rfl rfl rfl (by go_simp) S2 ?_
        simp only [Act.put, List.setIfInBounds_toArray, List.set_cons_zero, List.set_cons_succ]
        refine u_last (w' := w3.setCell ⟨g, n * 11 + 8, none⟩ (.slice ya yn yc)) (by kernel_rfl) rfl rfl rfl (by go_simp) (by kernel_rfl) ?_
        go_wp2_with fail
        go_end0
        exact ⟨rfl, HF.out⟩
      · by_cases h5 : kd = 5
        · subst h5
          have N2 := (N3.cell hn 10 ⟨⟨pth, pkd, pfi, k, pnu, pwr, per, prs, pws, psi, true⟩, ⟨ra, rn, rc⟩, ⟨sa, sn, sc⟩⟩ (.bool true) (by decide) rfl rfl rfl rfl rfl).quiet ((Keeps.refl _ _).alloc (.cells #[.int .i64 th, .int .i64 5, .int .u64 ad, .int .u64 wd, .bool own, .int .i64 er] 60))
          go_enter Tryz.func104, Tryz.ntmps104
          go_wp2_with fail
          go_end0
          exact ⟨rfl, _, N2, by simp [noteP]⟩
        · by_cases h6 : kd = 6
          · subst h6
            go_enter Tryz.func104, Tryz.ntmps104
            go_wp2_with fail
            clear c1 c4 c5 c6 c9 c10 f1 f10 c3 f3
            generalize (w.setCell ⟨g, n * 11 + 3, none⟩ (.int .i64 k)).alloc (.cells #[.int .i64 th, _, .int .u64 ad, .int .u64 wd, .bool own, .int .i64 er] 60) = V at *
            obtain ⟨y1, y2⟩ := N1.at hn
            have c1 := y1 1 _ rfl
            have c4 := y1 4 _ rfl
            have c5 := y1 5 _ rfl
            have c10 := y1 10 _ rfl
            have f1 := y2 (n * 11 + 1)
            have f4 := y2 (n * 11 + 4)
            have f5 := y2 (n * 11 + 5)
            have b3 : V.cell? ⟨w.heap.size, 3, none⟩ = some (.int .u64 wd) := by rw [cell_of_block b1]; rfl
            have S0 : V.cell? ⟨w.heap.size, 3, none⟩ = some (.int .u64 wd) ∧ V.cell? ⟨g, n * 11 + 10, none⟩ = some (.bool plk) := ⟨b3, c10⟩
            have P1 := And.intro (far_cell (a := n * 11 + 1) (u := .int .i64 1) hne S0.1) (off_cell (a := n * 11 + 1) (u := .int .i64 1) (by omega) S0.2)
            have P2 := And.intro (far_cell (a := n * 11 + 4) (u := .int .u64 wd) hne P1.1) (off_cell (a := n * 11 + 4) (u := .int .u64 wd) (by omega) P1.2)
            have P3 := And.intro (far_cell (a := n * 11 + 5) (u := .bool plk) hne P2.1) (off_cell (a := n * 11 + 5) (u := .bool plk) (by omega) P2.2)
            have HN : Hid (∃ Y, Nst base g N cap X n w Y (((V.setCell ⟨g, n * 11 + 1, none⟩ (.int .i64 1)).setCell ⟨g, n * 11 + 4, none⟩ (.int .u64 wd)).setCell ⟨g, n * 11 + 5, none⟩ (.bool plk)).drew ∧ Y.p = noteP ⟨pth, pkd, pfi, pla, pnu, pwr, per, prs, pws, psi, plk⟩ k ⟨th, 6, ad, wd, own, er⟩) :=
              ⟨⟨⟨pth, 1, pfi, k, wd, plk, per, prs, pws, psi, plk⟩, ⟨ra, rn, rc⟩, ⟨sa, sn, sc⟩⟩, (((N1.cell hn 1 ⟨⟨pth, 1, pfi, k, pnu, pwr, per, prs, pws, psi, plk⟩, ⟨ra, rn, rc⟩, ⟨sa, sn, sc⟩⟩ (.int .i64 1) (by decide) rfl rfl rfl rfl rfl).cell hn 4 ⟨⟨pth, 1, pfi, k, wd, pwr, per, prs, pws, psi, plk⟩, ⟨ra, rn, rc⟩, ⟨sa, sn, sc⟩⟩ (.int .u64 wd) (by decide) rfl rfl rfl rfl rfl).cell hn 5 ⟨⟨pth, 1, pfi, k, wd, plk, per, prs, pws, psi, plk⟩, ⟨ra, rn, rc⟩, ⟨sa, sn, sc⟩⟩ (.bool plk) (by decide) rfl rfl rfl rfl rfl).quiet (Keeps.refl _ _).drew, by simp [noteP]⟩
            clear y1 y2 N1 b1
            go_region_held3 (fun W : World => W.cell? ⟨w.heap.size, 3, none⟩ = some (.int .u64 wd) ∧ W.cell? ⟨g, n * 11 + 10, none⟩ = some (.bool plk)) (first | assumption | (exact S0) | (exact P1) | (exact P2) | (exact P3) | go_keep) (fail)
            go_wp2_with fail
            go_end0
            exact ⟨rfl, HN.out⟩
          · by_cases h9 : kd = 9
            · subst h9
              go_enter Tryz.func104, Tryz.ntmps104
              go_wp2_with fail
              clear c1 c4 c5 c6 c9 c10 f1 f10 c3 f3
              generalize (w.setCell ⟨g, n * 11 + 3, none⟩ (.int .i64 k)).alloc (.cells #[.int .i64 th, _, .int .u64 ad, .int .u64 wd, .bool own, .int .i64 er] 60) = V at *
              obtain ⟨y1, y2⟩ := N1.at hn
              have c1 := y1 1 _ rfl
              have c6 := y1 6 _ rfl
              have f1 := y2 (n * 11 + 1)
              have f6 := y2 (n * 11 + 6)
              have b3 : V.cell? ⟨w.heap.size, 5, none⟩ = some (.int .i64 er) := by rw [cell_of_block b1]; rfl
              have HN : Hid (∃ Y, Nst base g N cap X n w Y ((V.setCell ⟨g, n * 11 + 1, none⟩ (.int .i64 3)).setCell ⟨g, n * 11 + 6, none⟩ (.int .i64 er)).drew ∧ Y.p = noteP ⟨pth, pkd, pfi, pla, pnu, pwr, per, prs, pws, psi, plk⟩ k ⟨th, 9, ad, wd, own, er⟩) :=
                ⟨⟨⟨pth, 3, pfi, k, pnu, pwr, er, prs, pws, psi, plk⟩, ⟨ra, rn, rc⟩, ⟨sa, sn, sc⟩⟩, ((N1.cell hn 1 ⟨⟨pth, 3, pfi, k, pnu, pwr, per, prs, pws, psi, plk⟩, ⟨ra, rn, rc⟩, ⟨sa, sn, sc⟩⟩ (.int .i64 3) (by decide) rfl rfl rfl rfl rfl).cell hn 6 ⟨⟨pth, 3, pfi, k, pnu, pwr, er, prs, pws, psi, plk⟩, ⟨ra, rn, rc⟩, ⟨sa, sn, sc⟩⟩ (.int .i64 er) (by decide) rfl rfl rfl rfl rfl).quiet (Keeps.refl _ _).drew, by simp [noteP]⟩
              clear y1 y2 N1 b1
              go_region_held3 (fun W : World => W.cell? ⟨w.heap.size, 5, none⟩ = some (.int .i64 er)) (first | assumption | go_keep) (fail)
              go_wp2_with fail
              go_end0
              exact ⟨rfl, HN.out⟩
            · by_cases h78 : kd = 8 ∨ kd = 7
              · rcases h78 with rfl | rfl
                · have N2 := (N3.cell hn 1 ⟨⟨pth, 2, pfi, k, pnu, pwr, per, prs, pws, psi, plk⟩, ⟨ra, rn, rc⟩, ⟨sa, sn, sc⟩⟩ (.int .i64 2) (by decide) rfl rfl rfl rfl rfl).quiet ((Keeps.refl _ _).alloc (.cells #[.int .i64 th, .int .i64 8, .int .u64 ad, .int .u64 wd, .bool own, .int .i64 er] 60))
                  go_enter Tryz.func104, Tryz.ntmps104
                  go_wp2_with fail
                  go_end0
                  exact ⟨rfl, _, N2, by simp [noteP]⟩
                · have N2 := (N3.cell hn 1 ⟨⟨pth, 4, pfi, k, pnu, pwr, per, prs, pws, psi, plk⟩, ⟨ra, rn, rc⟩, ⟨sa, sn, sc⟩⟩ (.int .i64 4) (by decide) rfl rfl rfl rfl rfl).quiet ((Keeps.refl _ _).alloc (.cells #[.int .i64 th, .int .i64 7, .int .u64 ad, .int .u64 wd, .bool own, .int .i64 er] 60))
                  go_enter Tryz.func104, Tryz.ntmps104
                  go_wp2_with fail
                  go_end0
                  exact ⟨rfl, _, N2, by simp [noteP]⟩
              · obtain ⟨h8, h7⟩ := not_or.1 h78
                have HF : Hid (noteP ⟨pth, pkd, pfi, pla, pnu, pwr, per, prs, pws, psi, plk⟩ k ⟨th, kd, ad, wd, own, er⟩ = ⟨pth, pkd, pfi, k, pnu, pwr, per, prs, pws, psi, plk⟩) := by
                  unfold Hid; simp [noteP, h1a, h1b, h2, h3, h5, h6, h7, h8, h9]
                go_enter Tryz.func104, Tryz.ntmps104
                go_wp2_with fail
                go_end0
                exact ⟨rfl, _, N1, HF.out.symm⟩
end Go.Proofs.YthmiainhaebjiaaGreatDoor
