/-
  No statement of the seat is proved here. (Several texts in one: OqO, OqP.)
-/
import Derived.Test.YtjmmjkoloioddaaDoorOqN
import Derived.Test.YtjmmjkoloioddaaDoorOpW

/- The law OpaqueSights, by what the calls answer (layer 16). No statement of the seat is proved here. -/
namespace Go.Proofs.YtjmmjkoloioddaaDoor
open Go.RowKit Go.Shelf

/-- What Sights answers. -/
def SgC (f : Nat) (vF v : Value) (a e : Int) (G : List Sg) (X : World) : Prop := Calls Tryd.prog f #[vF, v] X fun ex w' => ∃ sv, ex = .returned (.tuple #[sv, .agg #[.int .i64 a, .int .i64 e]]) ∧ SR w' X.heap.size sv G ∧ Keeps (fun _ => False) X w'
/-- What Check answers. -/
def CkC (f : Nat) (vF v : Value) (n a e : Int) (X : World) : Prop := Calls Tryd.prog f #[vF, v] X fun ex w' => ex = .returned (.tuple #[.int .i64 n, .agg #[.int .i64 a, .int .i64 e]]) ∧ Keeps (fun _ => False) X w'
set_option maxRecDepth 100000 in
set_option maxHeartbeats 8000000 in
theorem sights_walk (vF v : Value) (F : List Int) (L : List Ev) (hFl : F.length ≤ 1050000) (hl : L.length ≤ 1050000) (w : World) (hv : EvsAt w v L) (hF : WsAt w vF F) (hg : Gv w) (h8 : 2 ≤ w.heap.size) (a e n : Int) (G : List Sg) (hG : G.length ≤ 1050000)
    (PS : ∀ X vf vl, WsAt X vf F → EvsAt X vl L → Gv X → 2 ≤ X.heap.size → SgC 5 vf vl a e G X)
    (PC : ∀ X vf vl, WsAt X vf F → EvsAt X vl L → Gv X → 2 ≤ X.heap.size → CkC 6 vf vl n a e X)
    (DS : ∀ X vf vl, WsAt X vf F → EvsAt X vl L → SgC 7 vf vl a e G X)
    (DC : ∀ X vf vl, WsAt X vf F → EvsAt X vl L → CkC 8 vf vl n a e X) :
    Calls Tryd.prog 3 #[vF, v] w fun ex w' => ex = .returned (.bool true) ∧ Keeps (fun _ => False) w w' := by
  unfold SgC at PS DS
  unfold CkC at PC DC
  have LN := lentO_any v L w hv
  have HG : Hid (∀ X, Keeps (fun _ => False) w X → Gv X ∧ 2 ≤ X.heap.size ∧ WsAt X vF F ∧ EvsAt X v L) := fun X k => ⟨hg.keeps k, Nat.le_trans h8 k.size, hF.keeps wC_ne k, hv.keeps k⟩
  have hbig := hv.big
  have hwf := hv.wf
  obtain ⟨fa, fc, rfl, hfc⟩ := hF.shape
  obtain ⟨ha, hc, rfl, hcap⟩ := hv.els.shape
  have HPS : Hid (∀ X vf vl, WsAt X vf F → EvsAt X vl L → Gv X → 2 ≤ X.heap.size → _) := PS
  have HPC : Hid (∀ X vf vl, WsAt X vf F → EvsAt X vl L → Gv X → 2 ≤ X.heap.size → _) := PC
  have HDS : Hid (∀ X vf vl, WsAt X vf F → EvsAt X vl L → _) := DS
  have HDC : Hid (∀ X vf vl, WsAt X vf F → EvsAt X vl L → _) := DC
  have HWF : Hid (∀ e ∈ L, e.wf) := hwf
  clear PS PC DS DC hF hv hg hwf
  go_enter Tryd.func3, Tryd.ntmps3
  go_wp2_with fail
  refine LN.mono ?_
  rintro ex w1 ⟨mb, mc, rfl, hmc, hM, k1⟩
  clear LN
  obtain ⟨vw, w2, r1, o2, gr2⟩ := (OwnR.nil wC 1 35 w1).app wC_len wC_one (by decide) Tryd.underlying22 info_wC rfl (by decide) (ty := 22) _ F (HG.out w1 k1).2.2.1 (by simp; omega)
  have k2 := OwnR.kept gr2 (Keeps.refl _ w1) (OwnR.nil wC 1 35 w1)
  simp only [List.nil_append] at o2
  obtain ⟨xa, xc, rfl⟩ := o2.form
  have K2 := k1.trans k2
  have HM : Hid (∀ X, Keeps (fun _ => False) w1 X → ElsAt Ev.cl 6 X (.slice mb (L.length + 1) mc) (L ++ [mrkO]) ∧ EvsAt X (.slice mb L.length mc) L) := fun X k => by
    have h5 := (hM.els ev_len).keeps ev_ne k
    have h6 := h5.take L.length (by simp)
    rw [List.take_left' rfl] at h6
    exact ⟨h5, h6, HWF.out, hbig⟩
  have HW : Hid (∀ X, Keeps (fun _ => False) w2 X → WsAt X (.slice xa F.length xc) F) := fun X k => (o2.els wC_len).keeps wC_ne k
  have HA : Hid (_ = _) := r1
  clear r1 o2 gr2 hM
  -- the program's answers
  have S1 := HPS.out w2 (.slice xa F.length xc) (.slice mb L.length mc) (HW.out w2 (Keeps.refl _ _)) (HM.out w2 k2).2 (HG.out w2 K2).1 (HG.out w2 K2).2.1
  go_wp2_with (at_builtin; refine wpList_append_run rfl _ _ 22 rfl rfl rfl HA.out ?_)
  clear HA
  refine S1.mono ?_
  rintro ex w3 ⟨va, rfl, hA, k3⟩
  clear S1
  have kO3 := (Keeps.refl (fun _ => False) w3).alloc (.cells #[.int .i64 a, .int .i64 e] 28)
  have bO3 := (MapKept.heap_alloc w3 (.cells #[.int .i64 a, .int .i64 e] 28)).1
  obtain ⟨A3, hA3⟩ : ∃ A, A = w3.alloc (.cells #[.int .i64 a, .int .i64 e] 28) := ⟨_, rfl⟩
  rw [← hA3] at kO3 bO3
  have k23 := k3.trans kO3
  have hA' := hA.keeps kO3 (fun _ _ f => f)
  have S2 := HPS.out A3 (.slice xa F.length xc) (.slice mb L.length mc) (HW.out A3 k23) (HM.out A3 (k2.trans k23)).2 (HG.out A3 (K2.trans k23)).1 (HG.out A3 (K2.trans k23)).2.1
  obtain ⟨p3, hp3⟩ : ∃ p, p = w3.heap.size := ⟨_, rfl⟩
  rw [← hp3] at bO3
  obtain ⟨aa, ac, rfl⟩ := hA.form
  have hab : ∀ g, (Value.slice aa G.length ac).ownBlock = some g → w2.heap.size ≤ g ∧ g < p3 := fun g hg => ⟨(own_block hA.own hg).2, by rw [hp3]; exact (own_block hA.own hg).1⟩
  have HAB : Hid (∀ g, (Value.slice aa G.length ac).ownBlock = some g → w2.heap.size ≤ g ∧ g < p3) := hab
  have hlt3 := lt_of_block bO3
  clear hA hab
  go_wp2_with fail
  rw [← hA3]
  try rw [← hp3]
  clear hA3 hp3
  refine S2.mono ?_
  rintro ex w4 ⟨vb, rfl, hB, k4⟩
  clear S2
  have kO4 := (Keeps.refl (fun _ => False) w4).alloc (.cells #[.int .i64 a, .int .i64 e] 28)
  have bO4 := (MapKept.heap_alloc w4 (.cells #[.int .i64 a, .int .i64 e] 28)).1
  obtain ⟨A4, hA4⟩ : ∃ A, A = w4.alloc (.cells #[.int .i64 a, .int .i64 e] 28) := ⟨_, rfl⟩
  rw [← hA4] at kO4 bO4
  have k34 := k4.trans kO4
  have k24 := k23.trans k34
  have bP3 := (k34.block _ (lt_of_block bO3) (fun f => f)).trans bO3
  have hA4' := hA'.keeps k34 (fun _ _ f => f)
  have hB4 := (hB.keeps kO4 (fun _ _ f => f))
  have S3 := HPC.out A4 (.slice xa F.length xc) (.slice mb L.length mc) (HW.out A4 k24) (HM.out A4 (k2.trans k24)).2 (HG.out A4 (K2.trans k24)).1 (HG.out A4 (K2.trans k24)).2.1
  obtain ⟨p4, hp4⟩ : ∃ p, p = w4.heap.size := ⟨_, rfl⟩
  rw [← hp4] at bO4
  obtain ⟨ba, bc, rfl⟩ := hB.form
  have HBB : Hid (∀ g, (Value.slice ba G.length bc).ownBlock = some g → p3 < g) := fun g hg => by have := (own_block hB.own hg).2; omega
  clear hB bO3 hA' k23 kO3 kO4 k4 k34
  go_wp2_with fail
  rw [← hA4]
  try rw [← hp4]
  clear hA4 hp4
  refine S3.mono ?_
  rintro ex w5 ⟨rfl, k5⟩
  clear S3
  have kO5 := (Keeps.refl (fun _ => False) w5).alloc (.cells #[.int .i64 a, .int .i64 e] 28)
  have bO5 := (MapKept.heap_alloc w5 (.cells #[.int .i64 a, .int .i64 e] 28)).1
  obtain ⟨A5, hA5⟩ : ∃ A, A = w5.alloc (.cells #[.int .i64 a, .int .i64 e] 28) := ⟨_, rfl⟩
  rw [← hA5] at kO5 bO5
  have k45 := k5.trans kO5
  have k25 := k24.trans k45
  have bQ3 := (k45.block _ (lt_of_block bP3) (fun f => f)).trans bP3
  have bQ4 := (k45.block _ (lt_of_block bO4) (fun f => f)).trans bO4
  have hA5' := hA4'.keeps k45 (fun _ _ f => f)
  have hB5 := hB4.keeps k45 (fun _ _ f => f)
  have S4 := HDS.out A5 (.slice fa F.length fc) (.slice ha L.length hc) (HG.out A5 (K2.trans k25)).2.2.1 (HG.out A5 (K2.trans k25)).2.2.2
  obtain ⟨p5, hp5⟩ : ∃ p, p = w5.heap.size := ⟨_, rfl⟩
  rw [← hp5] at bO5
  clear bP3 bO4 hA4' hB4 k24 k5 kO5 k45
  go_wp2_with fail
  rw [← hA5]
  try rw [← hp5]
  clear hA5 hp5
  refine S4.mono ?_
  rintro ex w6 ⟨vn, rfl, hN, k6⟩
  clear S4
  have kO6 := (Keeps.refl (fun _ => False) w6).alloc (.cells #[.int .i64 a, .int .i64 e] 28)
  have bO6 := (MapKept.heap_alloc w6 (.cells #[.int .i64 a, .int .i64 e] 28)).1
  obtain ⟨A6, hA6⟩ : ∃ A, A = w6.alloc (.cells #[.int .i64 a, .int .i64 e] 28) := ⟨_, rfl⟩
  rw [← hA6] at kO6 bO6
  have k56 := k6.trans kO6
  have k26 := k25.trans k56
  have bR3 := (k56.block _ (lt_of_block bQ3) (fun f => f)).trans bQ3
  have bR4 := (k56.block _ (lt_of_block bQ4) (fun f => f)).trans bQ4
  have bR5 := (k56.block _ (lt_of_block bO5) (fun f => f)).trans bO5
  have hA6' := hA5'.keeps k56 (fun _ _ f => f)
  have hB6 := hB5.keeps k56 (fun _ _ f => f)
  have hN6 := hN.keeps kO6 (fun _ _ f => f)
  have S5 := HDC.out A6 (.slice fa F.length fc) (.slice ha L.length hc) (HG.out A6 (K2.trans k26)).2.2.1 (HG.out A6 (K2.trans k26)).2.2.2
  obtain ⟨p6, hp6⟩ : ∃ p, p = w6.heap.size := ⟨_, rfl⟩
  rw [← hp6] at bO6
  obtain ⟨na, nc, rfl⟩ := hN.form
  have hp3A5 := lt_of_block bQ3
  have HNN : Hid (∀ g, (Value.slice na G.length nc).ownBlock = some g → p3 < g) := fun g hg => by have := (own_block hN.own hg).2; omega
  clear hN bQ3 bQ4 bO5 hA5' hB5 k25 k6 kO6 k56
  go_wp2_with fail
  rw [← hA6]
  try rw [← hp6]
  clear hA6 hp6
  refine S5.mono ?_
  rintro ex w7 ⟨rfl, k7⟩
  clear S5
  have kO7 := (Keeps.refl (fun _ => False) w7).alloc (.cells #[.int .i64 a, .int .i64 e] 28)
  have bO7 := (MapKept.heap_alloc w7 (.cells #[.int .i64 a, .int .i64 e] 28)).1
  obtain ⟨A7, hA7⟩ : ∃ A, A = w7.alloc (.cells #[.int .i64 a, .int .i64 e] 28) := ⟨_, rfl⟩
  rw [← hA7] at kO7 bO7
  have k67 := k7.trans kO7
  have k27 := k26.trans k67
  have bT3 := (k67.block _ (lt_of_block bR3) (fun f => f)).trans bR3
  have bT4 := (k67.block _ (lt_of_block bR4) (fun f => f)).trans bR4
  have bT5 := (k67.block _ (lt_of_block bR5) (fun f => f)).trans bR5
  have bT6 := (k67.block _ (lt_of_block bO6) (fun f => f)).trans bO6
  have hA7' := hA6'.keeps k67 (fun _ _ f => f)
  have hB7 := hB6.keeps k67 (fun _ _ f => f)
  have hN7 := hN6.keeps k67 (fun _ _ f => f)
  obtain ⟨p7, hp7⟩ : ∃ p, p = w7.heap.size := ⟨_, rfl⟩
  rw [← hp7] at bO7
  have SM := rsames_any (.slice aa G.length ac) (.slice na G.length nc) G (by omega) A7 (hA7'.els sg_len) (hN7.els sg_len)
  have q30 : (w7.alloc (.cells #[.int .i64 a, .int .i64 e] 28)).cell? ⟨p3, 0, none⟩ = some (.int .i64 a) := by rw [← hA7, cell_of_block bT3]; rfl
  have q31 : (w7.alloc (.cells #[.int .i64 a, .int .i64 e] 28)).cell? ⟨p3, 1, none⟩ = some (.int .i64 e) := by rw [← hA7, cell_of_block bT3]; rfl
  have q40 : (w7.alloc (.cells #[.int .i64 a, .int .i64 e] 28)).cell? ⟨p4, 0, none⟩ = some (.int .i64 a) := by rw [← hA7, cell_of_block bT4]; rfl
  have q41 : (w7.alloc (.cells #[.int .i64 a, .int .i64 e] 28)).cell? ⟨p4, 1, none⟩ = some (.int .i64 e) := by rw [← hA7, cell_of_block bT4]; rfl
  have q50 : (w7.alloc (.cells #[.int .i64 a, .int .i64 e] 28)).cell? ⟨p5, 0, none⟩ = some (.int .i64 a) := by rw [← hA7, cell_of_block bT5]; rfl
  have q51 : (w7.alloc (.cells #[.int .i64 a, .int .i64 e] 28)).cell? ⟨p5, 1, none⟩ = some (.int .i64 e) := by rw [← hA7, cell_of_block bT5]; rfl
  have q60 : (w7.alloc (.cells #[.int .i64 a, .int .i64 e] 28)).cell? ⟨p6, 0, none⟩ = some (.int .i64 a) := by rw [← hA7, cell_of_block bT6]; rfl
  have q61 : (w7.alloc (.cells #[.int .i64 a, .int .i64 e] 28)).cell? ⟨p6, 1, none⟩ = some (.int .i64 e) := by rw [← hA7, cell_of_block bT6]; rfl
  have q70 : (w7.alloc (.cells #[.int .i64 a, .int .i64 e] 28)).cell? ⟨w7.heap.size, 0, none⟩ = some (.int .i64 a) := by rw [← hA7, ← hp7, cell_of_block bO7]; rfl
  have q71 : (w7.alloc (.cells #[.int .i64 a, .int .i64 e] 28)).cell? ⟨w7.heap.size, 1, none⟩ = some (.int .i64 e) := by rw [← hA7, ← hp7, cell_of_block bO7]; rfl
  have hp37 : p3 < A7.heap.size := lt_of_block bT3
  clear bR3 bR4 bR5 bO6 bT3 bT4 bT5 bT6 bO7 hA6' hB6 hN6 k26 k7 kO7 k67
  have HA7 : Hid (A7 = _) := hA7
  have HP7 : Hid (p7 = _) := hp7
  clear hA7 hp7
  go_wp2_with fail
  rw [← HA7.out]
  try rw [← HP7.out]
  clear HA7 HP7
  refine SM.mono ?_
  rintro ex w8 ⟨rfl, k8⟩
  clear SM q30 q31 q40 q41 q50 q51 q60 q61 q70 q71
  have k28 := k27.trans k8
  have LF := leftO_any (.slice ha L.length hc) L mb mc hmc w8 (HM.out w8 (k2.trans k28)).1 (HG.out w8 (K2.trans k28)).2.2.2.els (by omega) (.slice xa F.length xc) (.slice fa F.length fc) F (by omega) (HW.out w8 k28) (HG.out w8 (K2.trans k28)).2.2.1
  go_wp2_with fail
  refine LF.mono ?_
  rintro ex w9 ⟨rfl, k9⟩
  clear LF
  have k29 := k28.trans k9
  have k79 := k8.trans k9
  have hA9 := hA7'.keeps k79 (fun _ _ f => f)
  have hB9 := hB7.keeps k79 (fun _ _ f => f)
  have hN9 := hN7.keeps k79 (fun _ _ f => f)
  have hp39 : p3 < w9.heap.size := Nat.lt_of_lt_of_le hp37 k79.size
  have K29 := K2.trans k29
  -- what stays whatever becomes of the first answer
  have HY : Hid (∀ X, Keeps (fun q => (Value.slice aa G.length ac).ownBlock = some q) w9 X → Keeps (fun _ => False) w X ∧ Keeps (fun _ => False) w1 X ∧ Keeps (fun _ => False) w2 X ∧ ElsAt Sg.cl 10 X (.slice ba G.length bc) G ∧ ElsAt Sg.cl 10 X (.slice na G.length nc) G) := fun X kx =>
    ⟨K29.young kx (fun q e => by have := (HAB.out q e).1; have := K2.size; omega), (k2.trans k29).young kx (fun q e => by have := (HAB.out q e).1; have := k2.size; omega), k29.young kx (fun q e => (HAB.out q e).1),
      (hB9.keeps kx (fun g hg e => by have := HBB.out g hg; have := (HAB.out g e).2; omega)).els sg_len, (hN9.keeps kx (fun g hg e => by have := HNN.out g hg; have := (HAB.out g e).2; omega)).els sg_len⟩
  have hA0 := hA9.lowE (b := w2.heap.size) (Nat.le_refl _)
  have HA0 : Hid (∃ M : List Sg, M.length = G.length ∧ SR w9 w2.heap.size (.slice aa G.length ac) M) := ⟨G, rfl, hA0⟩
  have hGi : (G.length : Int) ≤ 1050000 := by omega
  have HG2 : Hid (G.length ≤ 1050000) := hG
  obtain ⟨N, hN'⟩ : ∃ N, N = G.length := ⟨_, rfl⟩
  rw [← hN'] at HY HA0 HAB hGi hG ⊢
  clear hA0 hA7' hB7 hN7 hA9 hB9 hN9 hN' k27 k28 k8 k9 k79 HPS HPC HDS HDC
  go_wp2_with fail
  go_loopw [17] (fun u wr => ∃ (i : Nat), u = .int .i64 i ∧ i ≤ N ∧ Hid (∃ M : List Sg, M.length = N ∧ SR wr w2.heap.size (.slice aa N ac) M) ∧ Keeps (fun q => (Value.slice aa N ac).ownBlock = some q) w9 wr) (fun u _ => N - (intOf u).toNat)
  case atStart => exact ⟨0, rfl, Nat.zero_le _, HA0, Keeps.refl _ _⟩
  case round =>
    clear HA0
    obtain ⟨i, rfl, hi, hM, kr⟩ := hrel
    have hwi : IntKind.i64.wrap ((i : Int) + 1) = (i : Int) + 1 := by rw [IntKind.wrap_i64]; omega
    by_cases hlt : i < N
    · have hii : (i : Int) < N := by omega
      have hi0 : (0 : Int) ≤ i := by omega
      obtain ⟨M, hMl, hMo⟩ := hM.out
      obtain ⟨g, cp, cur, hv, -, -, -⟩ := hMo.at (by omega)
      simp only [Value.slice.injEq] at hv
      obtain ⟨rfl, -, rfl⟩ := hv
      obtain ⟨w', q1, q2, q3⟩ := run_set_sg hMo i (by omega)
      have HR : Hid (_ = _) := q1
      have HF : Hid (∃ M : List Sg, M.length = N ∧ SR w' w2.heap.size (.slice (some ⟨g, 0, none⟩) N ac) M) := ⟨_, by simp [hMl], q2⟩
      have KF : Keeps (fun q => (Value.slice (some ⟨g, 0, none⟩) N ac).ownBlock = some q) w9 w' := kr.trans (q3.mono (fun q _ hq => by subst hq; rfl))
      clear q1 q2 q3 hM hMo hMl kr
      go_wp2_with (refine wpList_store_run rfl 40 _ _ rfl rfl rfl HR.out ?_)
      go_roundw
      · exact ⟨i + 1, by simp, by omega, HF, KF⟩
      · simp [intOf]; omega
    · obtain rfl : i = N := by omega
      generalize hWr : wr = Wq at *
      have HM0 : Hid (∃ M : List Sg, M.length = i + 0 ∧ SR Wq w2.heap.size (.slice aa i ac) M ∧ ∀ g, (Value.slice aa i ac).ownBlock = some g → (Value.slice aa i ac).ownBlock = some g ∨ w9.heap.size ≤ g) := by
        obtain ⟨M, h1, h2⟩ := hM.out
        exact ⟨M, h1, h2, fun g hg => .inl hg⟩
      clear hM hWr
      go_wp2_with fail
      go_loopw [7, 18] (fun u7 u wr => ∃ (k : Nat), u = .int .i64 k ∧ k ≤ 20 ∧ Hid (∃ M : List Sg, M.length = i + k ∧ SR wr w2.heap.size u7 M ∧ ∀ g, u7.ownBlock = some g → (Value.slice aa i ac).ownBlock = some g ∨ w9.heap.size ≤ g) ∧ Keeps (fun q => (Value.slice aa i ac).ownBlock = some q) w9 wr) (fun _ u _ => 20 - (intOf u).toNat)
      case atStart => exact ⟨0, rfl, Nat.zero_le _, HM0, kr⟩
      case round =>
        clear HM0 kr
        obtain ⟨k, rfl, hk, hM, kr⟩ := hrel
        have hkw : IntKind.i64.wrap ((k : Int) + 1) = (k : Int) + 1 := by rw [IntKind.wrap_i64]; omega
        obtain ⟨M, hMl, hMo, hMg⟩ := hM.out
        obtain ⟨ua, uc, rfl⟩ := hMo.form
        obtain ⟨m, hm⟩ : ∃ m, m = M.length := ⟨_, rfl⟩
        by_cases hlt : k < 20
        · have hki : (k : Int) < 20 := by omega
          obtain ⟨v', w', r1, r2, r3⟩ := hMo.push sg_len sg_one (by decide) Tryd.underlying25 info_sg rfl (by decide) (ty := 25) sg0 (cs := #[.int .i64 0, .int .i64 0, .int .i64 0, .int .u64 0, .int .i64 0, .int .i64 0, .int .i64 0, .int .i64 0, .int .i64 0, .int .i64 0]) rfl (by omega)
          have hs9 := kr.size
          have HF : Hid (∃ M : List Sg, M.length = i + (k + 1) ∧ SR w' w2.heap.size v' M ∧ ∀ g, v'.ownBlock = some g → (Value.slice aa i ac).ownBlock = some g ∨ w9.heap.size ≤ g) := by
            refine ⟨M ++ [sg0], by simp [hMl]; omega, r2, fun g hg => ?_⟩
            rcases r3.own with c | c
            · exact hMg g (c ▸ hg)
            · exact .inr (Nat.le_trans hs9 (c g hg))
          have KF : Keeps (fun q => (Value.slice aa i ac).ownBlock = some q) w9 w' :=
            ⟨r3.keeps.os.trans kr.os, r3.keeps.tape.trans kr.tape, r3.keeps.output.trans kr.output, Nat.le_trans kr.size r3.keeps.size, fun q hq hs => (r3.keeps.block q (Nat.lt_of_lt_of_le hq kr.size) (fun c => by
              rcases hMg q c with d | d
              · exact hs d
              · omega)).trans (kr.block q hq hs)⟩
          obtain ⟨⟨za, zn, zc⟩, rfl, -⟩ := sl_of r2
          dsimp only [Sl.v] at r1 HF
          rw [← hm] at r1 ⊢
          have HA : Hid (_ = _) := r1
          clear r1 r2 r3 hM hMo hMl hMg hm kr
          go_wp2_with (at_builtin; refine wpList_append_run rfl _ _ 25 rfl rfl rfl HA.out ?_)
          go_roundw
          · exact ⟨k + 1, by simp, by omega, HF, KF⟩
          · simp [intOf]; omega
        · obtain rfl : k = 20 := by omega
          obtain ⟨kw, kw1, kw2, eb, en⟩ := HY.out wr kr
          have SB := rsames_any (.slice ba i bc) (.slice na i nc) G (by have := HG2.out; omega) wr eb en
          have hm20 : (20 : Int) ≤ (m : Int) := by omega
          have hm21 : ¬ ((m : Int) < 20) := by omega
          have hm22 : (m : Int) ≥ 20 := by omega
          rw [← hm]
          clear hM hMo hMl hMg hm
          go_wp2_with fail
          refine SB.mono ?_
          rintro ex x1 ⟨rfl, c1⟩
          clear SB
          have LF := leftO_any (.slice ha L.length hc) L mb mc hmc x1 (HM.out x1 (kw1.trans c1)).1 (HG.out x1 (kw.trans c1)).2.2.2.els (by omega) (.slice xa F.length xc) (.slice fa F.length fc) F (by omega) (HW.out x1 (kw2.trans c1)) (HG.out x1 (kw.trans c1)).2.2.1
          go_wp2_with fail
          refine LF.mono ?_
          rintro ex x2 ⟨rfl, c2⟩
          clear LF
          have KN := known_any x2 (HG.out x2 ((kw.trans c1).trans c2)).1 (HG.out x2 ((kw.trans c1).trans c2)).2.1
          go_wp2_with fail
          refine KN.mono ?_
          rintro ex x3 ⟨rfl, c3⟩
          go_wp2_with fail
          go_ret
          exact ⟨rfl, ((kw.trans c1).trans c2).trans c3⟩
end Go.Proofs.YtjmmjkoloioddaaDoor


/- The law OpaqueSights at any cells and history (layer 16). No statement of the seat is proved here. -/
namespace Go.Proofs.YtjmmjkoloioddaaDoor
open Go.RowKit Go.Shelf

theorem wr_ex (L : List Ev) : ∃ W, WrOf (partsL L) W := by
  refine ⟨((partsL L).filter fun p => p.wr).mergeSort (fun p q => decide (p.la ≤ q.la)), List.mergeSort_perm _ _, ?_⟩
  refine wr_strict ?_ ?_
  · have h := distL_parts L
    unfold DistL at h ⊢
    have h2 : (((partsL L).filter fun p => p.wr).map (·.la)).Nodup := h.sublist ((List.filter_sublist).map _)
    exact ((List.mergeSort_perm _ _).map _).nodup_iff.2 h2
  · refine (List.pairwise_mergeSort (fun a b c h1 h2 => ?_) (fun a b => ?_) _).imp (fun h => by simpa using h)
    · simp at *; omega
    · simp; omega
theorem sgc_no {f : Nat} {vf vl : Value} {a e : Int} {X : World} (h : Calls Tryd.prog f #[vf, vl] X fun ex w' => ex = .returned (.tuple #[.slice none 0 0, .agg (odV a e)]) ∧ Keeps (fun _ => False) X w') : SgC f vf vl a e [] X :=
  h.mono (fun _ _ ⟨h1, k⟩ => ⟨_, h1, OwnR.nilB _ _ _ _ _ k.size, k⟩)
/-- Where something is wrong. -/
theorem law_no (vF v : Value) (F : List Int) (L : List Ev) (hFl : F.length ≤ 1050000) (hl : L.length ≤ 1050000) (w : World) (hv : EvsAt w v L) (hF : WsAt w vF F) (hg : Gv w) (h8 : 2 ≤ w.heap.size) (a e : Int) (he : e ≠ 0)
    (P : ∀ X va vc vl, WsAt X (.slice va F.length vc) F → EvsAt X vl L → Gv X → 2 ≤ X.heap.size → Calls Tryd.prog 12 #[.slice va F.length vc, vl] X fun ex w' => ex = .returned (.tuple #[.pointer none, .agg (odV a e)]) ∧ Keeps (fun _ => False) X w')
    (D : ∀ X va vc vl, WsAt X (.slice va F.length vc) F → EvsAt X vl L → Calls Tryd.prog 16 #[.slice va F.length vc, vl] X fun ex w' => ex = .returned (.agg (odV a e)) ∧ Keeps (fun _ => False) X w') :
    Calls Tryd.prog 3 #[vF, v] w fun ex w' => ex = .returned (.bool true) ∧ Keeps (fun _ => False) w w' := by
  have al : ∀ X : World, Keeps (fun _ => False) X (X.alloc (.cells (odV 0 0) 28)) := fun X => (Keeps.refl _ X).alloc _
  have D2 : ∀ X va vc vl, WsAt X (.slice va F.length vc) F → EvsAt X vl L → Calls Tryd.prog 7 #[.slice va F.length vc, vl] X fun ex w' => ex = .returned (.tuple #[.slice none 0 0, .agg (odV a e)]) ∧ Keeps (fun _ => False) X w' := fun X va vc vl hf hh => by
    obtain ⟨b, c, hs, -⟩ := hh.els.shape
    exact rsights_no va vc F.length vl ⟨_, _, _, hs⟩ a e he X (D _ va vc vl (hf.keeps wC_ne (al X)) (hh.keeps (al X)))
  refine sights_walk vF v F L hFl hl w hv hF hg h8 a e 0 [] (by simp) (fun X vf vl hf hh hg h8 => ?_) (fun X vf vl hf hh hg h8 => ?_) (fun X vf vl hf hh => ?_) (fun X vf vl hf hh => ?_)
  all_goals
    obtain ⟨va, vc, rfl, -⟩ := hf.shape
    obtain ⟨b, c, hs, -⟩ := hh.els.shape
  · exact sgc_no (sights_no va vc F.length vl ⟨_, _, _, hs⟩ a e he X (P _ va vc vl (hf.keeps wC_ne (al X)) (hh.keeps (al X)) (hg.keeps (al X)) (Nat.le_trans h8 (al X).size)))
  · exact check_no va vc F.length vl ⟨_, _, _, hs⟩ a e he X (P _ va vc vl (hf.keeps wC_ne (al X)) (hh.keeps (al X)) (hg.keeps (al X)) (Nat.le_trans h8 (al X).size))
  · exact sgc_no (D2 X va vc vl hf hh)
  · exact rchk_no va vc F.length vl ⟨_, _, _, hs⟩ a e he X (D2 _ va vc vl (hf.keeps wC_ne (al X)) (hh.keeps (al X)))
theorem sights_law (vF v : Value) (F : List Int) (L : List Ev) (hFl : F.length ≤ 1050000) (hl : L.length ≤ 1050000) (w : World) (hv : EvsAt w v L) (hF : WsAt w vF F) (hg : Gv w) (h8 : 2 ≤ w.heap.size) :
    Calls Tryd.prog 3 #[vF, v] w fun ex w' => ex = .returned (.bool true) ∧ Keeps (fun _ => False) w w' := by
  by_cases ha : F.length = 0 ∨ 65536 < F.length
  · exact law_no vF v F L hFl hl w hv hF hg h8 (-1) 2 (by decide) (fun X va vc vl hf hh _ _ => look_arg va vc F vl L X hh hf ha) (fun X va vc vl _ _ => rwrg_arg va vc F.length ha (by omega) vl X)
  · have hF0 : 0 < F.length := by omega
    have hF1 : F.length ≤ 65536 := by omega
    by_cases hz : (checkL L).2 = 0
    · have hck : checkL L = (-1, 0) := chk_yes L st0 0 hz
      have D : ∀ (X : World) (va : Option Addr) (vc : Nat) (vl : Value), WsAt X (.slice va F.length vc) F → EvsAt X vl L → Calls Tryd.prog 16 #[.slice va F.length vc, vl] X fun ex w' => ex = .returned (.agg (odV (wrgA F.length L).1 (wrgA F.length L).2)) ∧ Keeps (fun _ => False) X w' := fun X va vc vl _ hh => rwrg_ok va vc F.length hF0 hF1 vl L (by omega) hck X hh
      rcases idxF_in plainE L 0 with ⟨hp, -⟩ | ⟨j, hp, -⟩
      · rcases idxF_in (missE F.length) L 0 with ⟨hm, -⟩ | ⟨j, hm, -⟩
        · obtain ⟨W, hW⟩ := wr_ex L
          have hGl : (sgK F W (triesL L) (partsL L) (triesL L).length).length ≤ 1050000 := by
            rw [sgK_len]
            have he := congrArg List.length (tries_parts hz)
            rw [List.length_map, List.length_map] at he
            have h3 := (pinv_parts L).len
            change (partsL L).length ≤ L.length at h3
            omega
          have al : ∀ X : World, Keeps (fun _ => False) X (X.alloc (.cells (odV 0 0) 28)) := fun X => (Keeps.refl _ X).alloc _
          refine sights_walk vF v F L hFl hl w hv hF hg h8 (-1) 0 (idxF atN (sgK F W (triesL L) (partsL L) (triesL L).length) 0) (sgK F W (triesL L) (partsL L) (triesL L).length) hGl (fun X vf vl hf hh hg h8 => ?_) (fun X vf vl hf hh hg h8 => ?_) (fun X vf vl hf hh => ?_) (fun X vf vl hf hh => ?_)
          all_goals
            obtain ⟨va, vc, rfl, -⟩ := hf.shape
            obtain ⟨b, c, hs, -⟩ := hh.els.shape
          · exact sights_ok va vc F vl L hl X hh hf hg h8 hF0 hF1 hz hp hm W hW
          · exact check_ok va vc F vl L hl X hh hf hg h8 hF0 hF1 hz hp hm W hW
          · exact rsights_ok va vc F vl L hl X hh hf hF0 hF1 hck hp hm W hW
          · exact rchk_ok va vc F.length vl ⟨_, _, _, hs⟩ _ (by omega) X ((rsights_ok va vc F vl L hl _ (hh.keeps (al X)) (hf.keeps wC_ne (al X)) hF0 hF1 hck hp hm W hW).mono (fun ex w' ⟨sv, h1, h2, h3⟩ => ⟨sv, h1, h2.els sg_len, h3⟩))
        · rw [Nat.zero_add] at hm
          have hw : wrgA F.length L = ((j : Int), 4) := by unfold wrgA wrgB; rw [if_pos hp, if_neg (by rw [hm]; omega), hm]
          rw [hw] at D
          exact law_no vF v F L hFl hl w hv hF hg h8 j 4 (by decide) (fun X va vc vl hf hh hg h8 => look_miss va vc F vl L X hh hf hg h8 hl hF0 hF1 hz hp j hm) D
      · rw [Nat.zero_add] at hp
        have hw : wrgA F.length L = ((j : Int), 260) := by unfold wrgA; rw [if_neg (by rw [hp]; omega), hp]
        rw [hw] at D
        exact law_no vF v F L hFl hl w hv hF hg h8 j 260 (by decide) (fun X va vc vl hf hh hg h8 => look_plain va vc F vl L X hh hf hg h8 hl hF0 hF1 hz j hp) D
    · exact law_no vF v F L hFl hl w hv hF hg h8 _ _ hz (fun X va vc vl hf hh hg h8 => look_odd va vc F vl L X hh hf hg h8 hl hF0 hF1 hz) (fun X va vc vl _ hh => rwrg_odd va vc F.length hF0 hF1 vl L hz X hh)
end Go.Proofs.YtjmmjkoloioddaaDoor
