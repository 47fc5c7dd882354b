/-
  For every input IndexPlays returns true, and leaves what was handed in as it was: the tied card.
-/
import Derived.Test.YtbhocajmcfdffaaDoorOpenS
import Derived.Test.YtbhocajmcfdffaaDoorThreeB
namespace Go.Proofs.YtbhocajmcfdffaaDoor
open Go.RowKit Go.Shelf

/-- Two pairs of new tables, and one that is not there. -/
theorem tabs_new {w w1 w2 W2 w3 w4 W4 : World} {A0 A1 R0 R1 : Nat → Prop} {b0 b1 c0 c1 : Nat} {uf : Int → Int}
    (h0 : U.Holds w1 b0 3 (List.replicate 8 none) [] (wv uf) A0) (o0 : ∀ q, A0 q → w.heap.size ≤ q) (k1 : Keeps (fun _ => False) w w1)
    (h1 : U.Holds w2 b1 3 (List.replicate 8 none) [] (wv uf) A1) (o1 : ∀ q, A1 q → w1.heap.size ≤ q) (k2 : Keeps (fun _ => False) w1 w2) (kA : Keeps (fun _ => False) w2 W2)
    (g0 : R.Holds w3 c0 3 (List.replicate 8 none) [] uf R0) (p0 : ∀ q, R0 q → W2.heap.size ≤ q) (k3 : Keeps (fun _ => False) W2 w3)
    (g1 : R.Holds w4 c1 3 (List.replicate 8 none) [] uf R1) (p1 : ∀ q, R1 q → w3.heap.size ≤ q) (k4 : Keeps (fun _ => False) w3 w4) (kB : Keeps (fun _ => False) w4 W4) :
    Tabs w W4 (updN (updN (fun _ => none) 0 (some ⟨b0, 0, none⟩)) 1 (some ⟨b1, 0, none⟩)) (updN (updN (fun _ => none) 0 (some ⟨c0, 0, none⟩)) 1 (some ⟨c1, 0, none⟩)) 0 := by
  have s1 := k1.size
  have s2 := k2.size
  have sA := kA.size
  have s3 := k3.size
  have s4 := k4.size
  have m4 : Keeps (fun _ => False) w3 W4 := k4.trans kB
  have m3 : Keeps (fun _ => False) W2 W4 := k3.trans m4
  have m2 : Keeps (fun _ => False) w2 W4 := kA.trans m3
  have m1 : Keeps (fun _ => False) w1 W4 := k2.trans m2
  have m0 : Keeps (fun _ => False) w W4 := k1.trans m1
  have hB : Below w.heap.size w W4 := m0.below _ (Nat.le_refl _) (fun _ f => f.elim)
  have P0 : Pair w W4 b0 c0 3 (List.replicate 8 none) [] uf A0 R0 := ⟨h0.kept m1 (fun _ _ f => f), g0.kept m4 (fun _ _ f => f), o0, fun q hq => by have := p0 q hq; omega, fun q a b => by have := h0.lt a; have := p0 q b; omega, hB⟩
  have P1 : Pair w W4 b1 c1 3 (List.replicate 8 none) [] uf A1 R1 := ⟨h1.kept m2 (fun _ _ f => f), g1.kept kB (fun _ _ f => f), fun q hq => by have := o1 q hq; omega, fun q hq => by have := p1 q hq; omega, fun q a b => by have := h1.lt a; have := p1 q b; omega, hB⟩
  have hd : ∀ q, A0 q ∨ R0 q → ¬ (A1 q ∨ R1 q) := fun q a b => by
    rcases a with a | a
    · have := h0.lt a
      rcases b with b | b
      · have := o1 q b; omega
      · have := p1 q b; omega
    · have := p0 q a
      have := g0.lt a
      rcases b with b | b
      · have := h1.lt b; omega
      · have := p1 q b; omega
  refine ⟨hB, fun i q => if i = 0 then A0 q ∨ R0 q else if i = 1 then A1 q ∨ R1 q else False, fun i hi => ?_, fun i j hi hj hne q a b => ?_⟩
  · have : i = 0 ∨ i = 1 ∨ i = 2 := by omega
    rcases this with rfl | rfl | rfl
    · exact .inr ⟨b0, c0, 3, _, _, uf, A0, R0, rfl, rfl, P0, fun q => Iff.rfl, by simp, by omega⟩
    · exact .inr ⟨b1, c1, 3, _, _, uf, A1, R1, rfl, rfl, P1, fun q => Iff.rfl, by simp, by omega⟩
    · exact .inl ⟨rfl, rfl, fun q f => f⟩
  · have hi' : i = 0 ∨ i = 1 ∨ i = 2 := by omega
    have hj' : j = 0 ∨ j = 1 ∨ j = 2 := by omega
    rcases hi' with rfl | rfl | rfl <;> rcases hj' with rfl | rfl | rfl <;> simp at a b hne
    · exact hd q a b
    · exact hd q b a

set_option maxRecDepth 100000 in
set_option maxHeartbeats 4000000 in
theorem plays_walk (a : Option Addr) (n c : Nat) (w : World) (hw : Tz w) (hs : StepsAt w a n) (hn : n ≤ 2932031007317) :
    Calls Tryd.prog 3 #[.slice a n c] w fun e w' => e = .returned (.bool true) ∧ Below w.heap.size w w' := by
  go_enter Tryd.func3, Tryd.ntmps3
  go_wp2_with fail
  refine (U.hold_new (wv (fun _ => 0)) w).mono ?_
  rintro e w1 ⟨rfl, ⟨A0, h0, o0⟩, k1⟩
  go_wp2_with fail
  refine (U.hold_new (wv (fun _ => 0)) w1).mono ?_
  rintro e w2 ⟨rfl, ⟨A1, h1, o1⟩, k2⟩
  generalize w.heap.size + 2 = b0 at *
  generalize w1.heap.size + 2 = b1 at *
  go_wp2_with fail
  have kA : Keeps (fun _ => False) w2 (w2.alloc (.cells #[.pointer (some ⟨b0, 0, none⟩), .pointer (some ⟨b1, 0, none⟩), .pointer none] 26)) := (Keeps.refl _ w2).alloc _
  have eA := alloc_block w2 (.cells #[.pointer (some ⟨b0, 0, none⟩), .pointer (some ⟨b1, 0, none⟩), .pointer none] 26)
  generalize w2.alloc (.cells #[.pointer (some ⟨b0, 0, none⟩), .pointer (some ⟨b1, 0, none⟩), .pointer none] 26) = W2 at kA eA ⊢
  refine (R.hold_new (fun _ => 0) W2).mono ?_
  rintro e w3 ⟨rfl, ⟨R0, g0, p0⟩, k3⟩
  go_wp2_with fail
  refine (R.hold_new (fun _ => 0) w3).mono ?_
  rintro e w4 ⟨rfl, ⟨R1, g1, p1⟩, k4⟩
  generalize W2.heap.size + 1 = c0 at *
  generalize w3.heap.size + 1 = c1 at *
  have kB : Keeps (fun _ => False) w4 (w4.alloc (.cells #[.pointer (some ⟨c0, 0, none⟩), .pointer (some ⟨c1, 0, none⟩), .pointer none] 29)) := (Keeps.refl _ w4).alloc _
  have eB := alloc_block w4 (.cells #[.pointer (some ⟨c0, 0, none⟩), .pointer (some ⟨c1, 0, none⟩), .pointer none] 29)
  have hT := tabs_new h0 o0 k1 h1 o1 k2 kA g0 p0 k3 g1 p1 k4 kB
  have eA4 := kB.old (k4.old (k3.old eA (fun f => f)) (fun f => f)) (fun f => f)
  have hAt : w.heap.size ≤ w2.heap.size := Nat.le_trans k1.size k2.size
  have hAr : w.heap.size ≤ w4.heap.size := Nat.le_trans hAt (Nat.le_trans kA.size (Nat.le_trans k3.size k4.size))
  have ha : Arr w2.heap.size w4.heap.size (updN (updN (fun _ => none) 0 (some ⟨b0, 0, none⟩)) 1 (some ⟨b1, 0, none⟩)) (updN (updN (fun _ => none) 0 (some ⟨c0, 0, none⟩)) 1 (some ⟨c1, 0, none⟩)) (w4.alloc (.cells #[.pointer (some ⟨c0, 0, none⟩), .pointer (some ⟨c1, 0, none⟩), .pointer none] 29)) := ⟨eA4, eB⟩
  have x0 : (w4.alloc (.cells #[.pointer (some ⟨c0, 0, none⟩), .pointer (some ⟨c1, 0, none⟩), .pointer none] 29)).cell? ⟨w2.heap.size, 0, none⟩ = some (.pointer (some ⟨b0, 0, none⟩)) := cell_of_block eA4 0
  have x1 : (w4.alloc (.cells #[.pointer (some ⟨c0, 0, none⟩), .pointer (some ⟨c1, 0, none⟩), .pointer none] 29)).cell? ⟨w2.heap.size, 1, none⟩ = some (.pointer (some ⟨b1, 0, none⟩)) := cell_of_block eA4 1
  clear h0 o0 k1 h1 o1 k2 kA g0 p0 k3 g1 p1 k4 kB eA eB eA4
  go_wp2_with fail
  clear x0 x1
  generalize w4.alloc (.cells #[.pointer (some ⟨c0, 0, none⟩), .pointer (some ⟨c1, 0, none⟩), .pointer none] 29) = W4 at hT ha ⊢
  generalize w2.heap.size = At at *
  generalize w4.heap.size = Ar at *
  generalize updN (updN (fun _ => none) 0 (some ⟨b0, 0, none⟩)) 1 (some ⟨b1, 0, none⟩) = tp at hT ha
  generalize updN (updN (fun _ => none) 0 (some ⟨c0, 0, none⟩)) 1 (some ⟨c1, 0, none⟩) = rp at hT ha
  go_loopw [5] (fun i wr => ∃ (k : Nat) (tp rp : Nat → Option Addr), k ≤ n ∧ i = .int .i64 k ∧ Tabs w wr tp rp k ∧ Arr At Ar tp rp wr) (fun i _ => n - (intOf i).toNat)
  case atStart => exact ⟨0, _, _, by omega, rfl, hT, ha⟩
  case round =>
    clear hT ha tp rp
    obtain ⟨k, tp, rp, hk, rfl, hT, ha⟩ := hrel
    by_cases hlt : k < n
    · obtain ⟨g, off, rfl, s, y0, y1, y2, y3, y4, y5⟩ := (hs.below hT.1) k hlt
      obtain ⟨kd, who, to, lv, ky, vl⟩ := s
      dsimp only at y0 y1 y2 y3 y4 y5
      go_wp2_with fail
      clear y0 y1 y2 y3 y4 y5
      have hst := alloc_block wr (.cells #[.int .i64 kd, .int .i64 who, .int .i64 to, .int .i64 lv, .int .u64 ky, .int .u64 vl] 31)
      have hbA := (Below.refl wr.heap.size wr).alloc (Nat.le_refl _) (.cells #[.int .i64 kd, .int .i64 who, .int .i64 to, .int .i64 lv, .int .u64 ky, .int .u64 vl] 31)
      have hT1 := hT.below hbA
      have ha1 := ha.below hbA
      have hNA : wr.heap.size ≠ At := by have := lt_of_block ha.t; omega
      have hNR : wr.heap.size ≠ Ar := by have := lt_of_block ha.r; omega
      clear hT ha hbA
      generalize wr.alloc (.cells #[.int .i64 kd, .int .i64 who, .int .i64 to, .int .i64 lv, .int .u64 ky, .int .u64 vl] 31) = W5 at hst hT1 ha1 ⊢
      generalize wr.heap.size = Ns at *
      have z0 : W5.cell? ⟨Ns, 0, none⟩ = some _ := cell_of_block hst 0
      have z1 : W5.cell? ⟨Ns, 1, none⟩ = some _ := cell_of_block hst 1
      have z2 : W5.cell? ⟨Ns, 2, none⟩ = some _ := cell_of_block hst 2
      go_quiet ((go_at_call 11; exact (place_at _ _).mono (fun _ _ ⟨h1, h2⟩ => ⟨h1, _, h2⟩)))
      have hbQ : Below W5.heap.size W5 (W5.drewN nq) := ⟨rfl, rfl, rfl, Nat.le_refl _, fun _ _ => rfl⟩
      have hT2 := hT1.below hbQ
      have ha2 := ha1.below hbQ
      have hst2 : (W5.drewN nq).heap[Ns]? = some (.cells #[.int .i64 kd, .int .i64 who, .int .i64 to, .int .i64 lv, .int .u64 ky, .int .u64 vl] 31 (0, 0)) := hst
      have hI := place_lt who
      have hJ := place_lt to
      clear z0 z1 z2 hT1 ha1 hst hbQ
      generalize W5.drewN nq = W6 at hT2 ha2 hst2 ⊢
      generalize placeN who = I at *
      generalize placeN to = J at *
      have hI' : (I : Int) < 3 := by omega
      have hJ' : (J : Int) < 3 := by omega
      have z0 : W6.cell? ⟨Ns, 0, none⟩ = some (.int .i64 kd) := cell_of_block hst2 0
      have hplay : ∀ (V : World) (tp2 rp2 : Nat → Option Addr), Tabs w V tp2 rp2 k → Arr At Ar tp2 rp2 V → V.heap[Ns]? = some (.cells #[.int .i64 kd, .int .i64 who, .int .i64 to, .int .i64 lv, .int .u64 ky, .int .u64 vl] 31 (0, 0)) → (V.drew.cell? ⟨At, I, none⟩ = some (.pointer (tp2 I)) ∧ V.drew.cell? ⟨Ar, I, none⟩ = some (.pointer (rp2 I)) ∧ V.drew.cell? ⟨Ns, 0, none⟩ = some (.int .i64 kd) ∧ V.drew.cell? ⟨Ns, 1, none⟩ = some (.int .i64 who) ∧ V.drew.cell? ⟨Ns, 2, none⟩ = some (.int .i64 to) ∧ V.drew.cell? ⟨Ns, 3, none⟩ = some (.int .i64 lv) ∧ V.drew.cell? ⟨Ns, 4, none⟩ = some (.int .u64 ky) ∧ V.drew.cell? ⟨Ns, 5, none⟩ = some (.int .u64 vl)) ∧
          Calls Tryd.prog 14 #[.pointer (tp2 I), .pointer (rp2 I), .agg #[.int .i64 kd, .int .i64 who, .int .i64 to, .int .i64 lv, .int .u64 ky, .int .u64 vl]] V.drew fun e Y => e = .returned (.bool true) ∧ (Y.cell? ⟨At, I, none⟩ = some (.pointer (tp2 I)) ∧ Y.cell? ⟨Ar, I, none⟩ = some (.pointer (rp2 I)) ∧ Y.cell? ⟨Ns, 0, none⟩ = some (.int .i64 kd) ∧ Y.cell? ⟨Ns, 1, none⟩ = some (.int .i64 who) ∧ Y.cell? ⟨Ns, 2, none⟩ = some (.int .i64 to) ∧ Y.cell? ⟨Ns, 3, none⟩ = some (.int .i64 lv) ∧ Y.cell? ⟨Ns, 4, none⟩ = some (.int .u64 ky) ∧ Y.cell? ⟨Ns, 5, none⟩ = some (.int .u64 vl)) ∧ Hid (Tabs w Y tp2 rp2 (k + 1) ∧ Arr At Ar tp2 rp2 Y) := fun V tp2 rp2 hTV haV hsV => by
        have hsee : ∀ Y, Arr At Ar tp2 rp2 Y → Y.heap[Ns]? = some (.cells #[.int .i64 kd, .int .i64 who, .int .i64 to, .int .i64 lv, .int .u64 ky, .int .u64 vl] 31 (0, 0)) → Y.cell? ⟨At, I, none⟩ = some (.pointer (tp2 I)) ∧ Y.cell? ⟨Ar, I, none⟩ = some (.pointer (rp2 I)) ∧ Y.cell? ⟨Ns, 0, none⟩ = some (.int .i64 kd) ∧ Y.cell? ⟨Ns, 1, none⟩ = some (.int .i64 who) ∧ Y.cell? ⟨Ns, 2, none⟩ = some (.int .i64 to) ∧ Y.cell? ⟨Ns, 3, none⟩ = some (.int .i64 lv) ∧ Y.cell? ⟨Ns, 4, none⟩ = some (.int .u64 ky) ∧ Y.cell? ⟨Ns, 5, none⟩ = some (.int .u64 vl) := fun Y hA hS =>
          ⟨(cell_of_block hA.t I).trans (arr_get tp2 hI), (cell_of_block hA.r I).trans (arr_get rp2 hI), cell_of_block hS 0, cell_of_block hS 1, cell_of_block hS 2, cell_of_block hS 3, cell_of_block hS 4, cell_of_block hS 5⟩
        have hbQ : Below V.heap.size V V.drew := ⟨rfl, rfl, rfl, Nat.le_refl _, fun _ _ => rfl⟩
        refine ⟨hsee V.drew (haV.below hbQ) hsV, ((hTV.below hbQ).plays hw (by omega) hI kd who to lv ky vl).mono ?_⟩
        rintro e Y ⟨rfl, hTY, hkY⟩
        have haY := (haV.below hbQ).turn hkY
        exact ⟨rfl, hsee Y haY (hkY _ _ _ hsV (by decide)), hTY, haY⟩
      by_cases h7 : kd = 7
      · subst h7
        have xI : W6.cell? ⟨At, I, none⟩ = some (.pointer (tp I)) := (cell_of_block ha2.t I).trans (arr_get tp hI)
        have hcp := hT2.copy hw ha2 hAt hAr hI hJ
        have hne := ha2.ne
        generalize tp I = TI at hcp xI
        go_wp2_with fail
        refine hcp.mono ?_
        rintro e Y ⟨tp', rfl, haY, hbY, hnext⟩
        have cJ : Y.cell? ⟨At, J, none⟩ = some (.pointer (tp J)) := (cell_of_block haY.t J).trans (arr_get tp hJ)
        have fJ := frozen_of_block haY.t J
        have haV : Arr At Ar (updN tp J tp') rp (Y.setCell ⟨At, J, none⟩ (.pointer tp')) :=
          ⟨by rw [← arr_set tp hJ tp']; exact block_set haY.t J _, block_other haY.r (Ne.symm hne) J _⟩
        have xR : (Y.setCell ⟨At, J, none⟩ (.pointer tp')).cell? ⟨Ar, I, none⟩ = some (.pointer (rp I)) := (cell_of_block haV.r I).trans (arr_get rp hI)
        have hsY := (hbY.block Ns (lt_of_block hst2)).trans hst2
        have hsV := block_other hsY hNA J (.pointer tp')
        generalize rp I = RI at hnext xR
        clear hcp xI z0 hT2
        go_wp2_with fail
        generalize Y.setCell ⟨At, J, none⟩ (.pointer tp') = V at hnext haV xR hsV ⊢
        refine hnext.mono ?_
        rintro e U ⟨rp', rfl, hiff, haU, hbU, hTF, haF⟩
        have cR : U.cell? ⟨Ar, J, none⟩ = some (.pointer (rp J)) := (cell_of_block haU.r J).trans (arr_get rp hJ)
        have fR := frozen_of_block haU.r J
        have hsU := (hbU.block Ns (lt_of_block hsV)).trans hsV
        have hsF := block_other hsU hNR J (.pointer rp')
        have vT : (U.setCell ⟨Ar, J, none⟩ (.pointer rp')).cell? ⟨At, J, none⟩ = some (.pointer tp') := by
          rw [cell_of_block haF.t J, arr_get _ hJ]
          simp [updN]
        have vR : (U.setCell ⟨Ar, J, none⟩ (.pointer rp')).cell? ⟨Ar, J, none⟩ = some (.pointer rp') := by
          rw [cell_of_block haF.r J, arr_get _ hJ]
          simp [updN]
        obtain ⟨b, hb1, hb2⟩ : ∃ b, tp'.isNone = b ∧ rp'.isNone = b := ⟨rp'.isNone, by cases tp' <;> cases rp' <;> simp_all, rfl⟩
        clear hnext hiff cJ fJ xR haY hbY hsY hsV haV haU hbU hsU
        go_wp2_with fail
        generalize U.setCell ⟨Ar, J, none⟩ (.pointer rp') = F at hTF haF hsF vT vR ⊢
        cases b
        · go_quiet (fail)
          have hbQ : Below F.heap.size F (F.drewN nq) := ⟨rfl, rfl, rfl, Nat.le_refl _, fun _ _ => rfl⟩
          have hTQ := hTF.below hbQ
          have haQ := haF.below hbQ
          have hsQ : (F.drewN nq).heap[Ns]? = _ := hsF
          clear vT vR hTF haF hsF hb1 hb2 hbQ
          generalize F.drewN nq = FF at hTQ haQ hsQ ⊢
          go_wp2_with fail
          have hpl := hplay FF (updN tp J tp') (updN rp J rp') (by assumption) (by assumption) (by assumption)
          obtain ⟨hS0, hpl⟩ := hpl
          obtain ⟨PT, hPT⟩ : ∃ PT, (updN tp J tp') I = PT := ⟨_, rfl⟩
          obtain ⟨PR, hPR⟩ : ∃ PR, (updN rp J rp') I = PR := ⟨_, rfl⟩
          rw [hPT, hPR] at hS0 hpl
          clear hplay hPT hPR
          go_wp2_with fail
          go_region_held3 (fun W => W.cell? ⟨At, I, none⟩ = some (.pointer (PT)) ∧ W.cell? ⟨Ar, I, none⟩ = some (.pointer (PR)) ∧ W.cell? ⟨Ns, 0, none⟩ = some (.int .i64 7) ∧ W.cell? ⟨Ns, 1, none⟩ = some (.int .i64 who) ∧ W.cell? ⟨Ns, 2, none⟩ = some (.int .i64 to) ∧ W.cell? ⟨Ns, 3, none⟩ = some (.int .i64 lv) ∧ W.cell? ⟨Ns, 4, none⟩ = some (.int .u64 ky) ∧ W.cell? ⟨Ns, 5, none⟩ = some (.int .u64 vl)) (assumption)
            ((go_at_call 14; refine hpl.mono ?_; rintro e w9 ⟨rfl, hS9, hD9⟩))
          clear hpl hS0
          go_wp2_with fail
          go_roundw
          case rel => exact ⟨k + 1, _, _, by omega, by go_num, hD9.out.1, hD9.out.2⟩
          case measure => simp [intOf]; omega
        · go_quiet (fail)
          have hbQ : Below F.heap.size F (F.drewN nq) := ⟨rfl, rfl, rfl, Nat.le_refl _, fun _ _ => rfl⟩
          have hTQ := hTF.below hbQ
          have haQ := haF.below hbQ
          have hsQ : (F.drewN nq).heap[Ns]? = _ := hsF
          clear vT vR hTF haF hsF hb1 hb2 hbQ
          generalize F.drewN nq = FF at hTQ haQ hsQ ⊢
          go_wp2_with fail
          have hpl := hplay FF (updN tp J tp') (updN rp J rp') (by assumption) (by assumption) (by assumption)
          obtain ⟨hS0, hpl⟩ := hpl
          obtain ⟨PT, hPT⟩ : ∃ PT, (updN tp J tp') I = PT := ⟨_, rfl⟩
          obtain ⟨PR, hPR⟩ : ∃ PR, (updN rp J rp') I = PR := ⟨_, rfl⟩
          rw [hPT, hPR] at hS0 hpl
          clear hplay hPT hPR
          go_wp2_with fail
          go_region_held3 (fun W => W.cell? ⟨At, I, none⟩ = some (.pointer (PT)) ∧ W.cell? ⟨Ar, I, none⟩ = some (.pointer (PR)) ∧ W.cell? ⟨Ns, 0, none⟩ = some (.int .i64 7) ∧ W.cell? ⟨Ns, 1, none⟩ = some (.int .i64 who) ∧ W.cell? ⟨Ns, 2, none⟩ = some (.int .i64 to) ∧ W.cell? ⟨Ns, 3, none⟩ = some (.int .i64 lv) ∧ W.cell? ⟨Ns, 4, none⟩ = some (.int .u64 ky) ∧ W.cell? ⟨Ns, 5, none⟩ = some (.int .u64 vl)) (assumption)
            ((go_at_call 14; refine hpl.mono ?_; rintro e w9 ⟨rfl, hS9, hD9⟩))
          clear hpl hS0
          go_wp2_with fail
          go_roundw
          case rel => exact ⟨k + 1, _, _, by omega, by go_num, hD9.out.1, hD9.out.2⟩
          case measure => simp [intOf]; omega
      · have h7' : (kd == 7) = false := by simpa using h7
        go_wp2_with fail
        clear z0
        have hpl := hplay W6 (tp) (rp) (by assumption) (by assumption) (by assumption)
        obtain ⟨hS0, hpl⟩ := hpl
        obtain ⟨PT, hPT⟩ : ∃ PT, (tp) I = PT := ⟨_, rfl⟩
        obtain ⟨PR, hPR⟩ : ∃ PR, (rp) I = PR := ⟨_, rfl⟩
        rw [hPT, hPR] at hS0 hpl
        clear hplay hPT hPR
        go_wp2_with fail
        go_region_held3 (fun W => W.cell? ⟨At, I, none⟩ = some (.pointer (PT)) ∧ W.cell? ⟨Ar, I, none⟩ = some (.pointer (PR)) ∧ W.cell? ⟨Ns, 0, none⟩ = some (.int .i64 kd) ∧ W.cell? ⟨Ns, 1, none⟩ = some (.int .i64 who) ∧ W.cell? ⟨Ns, 2, none⟩ = some (.int .i64 to) ∧ W.cell? ⟨Ns, 3, none⟩ = some (.int .i64 lv) ∧ W.cell? ⟨Ns, 4, none⟩ = some (.int .u64 ky) ∧ W.cell? ⟨Ns, 5, none⟩ = some (.int .u64 vl)) (assumption)
          ((go_at_call 14; refine hpl.mono ?_; rintro e w9 ⟨rfl, hS9, hD9⟩))
        clear hpl hS0
        go_wp2_with fail
        go_roundw
        case rel => exact ⟨k + 1, _, _, by omega, by go_num, hD9.out.1, hD9.out.2⟩
        case measure => simp [intOf]; omega
    · obtain rfl : k = n := by omega
      go_wp2_with fail
      obtain ⟨W8, hW8⟩ : ∃ W, W = wr := ⟨_, rfl⟩
      subst hW8
      go_loopw [9] (fun i wr => ∃ (j : Nat), j ≤ 3 ∧ i = .int .i64 j ∧ Tabs w wr tp rp k ∧ Arr At Ar tp rp wr) (fun i _ => 3 - (intOf i).toNat)
      case atStart => exact ⟨0, by omega, rfl, hT, ha⟩
      case round =>
        clear hT ha
        obtain ⟨j, hj, rfl, hT, ha⟩ := hrel
        by_cases hj3 : j < 3
        · have hbQ : Below wr.heap.size wr wr.drew := ⟨rfl, rfl, rfl, Nat.le_refl _, fun _ _ => rfl⟩
          have hTd := hT.below hbQ
          have had := ha.below hbQ
          have hsee : ∀ Y, Arr At Ar tp rp Y → Y.cell? ⟨At, j, none⟩ = some (.pointer (tp j)) ∧ Y.cell? ⟨Ar, j, none⟩ = some (.pointer (rp j)) := fun Y hA => ⟨(cell_of_block hA.t j).trans (arr_get tp hj3), (cell_of_block hA.r j).trans (arr_get rp hj3)⟩
          have htl : Calls Tryd.prog 15 #[.pointer (tp j), .pointer (rp j), .int .u64 5] wr.drew fun e Y => e = .returned (.bool true) ∧ (Y.cell? ⟨At, j, none⟩ = some (.pointer (tp j)) ∧ Y.cell? ⟨Ar, j, none⟩ = some (.pointer (rp j))) ∧ Hid (Tabs w Y tp rp k ∧ Arr At Ar tp rp Y) :=
            (hTd.tells hw (by omega) hj3 5).mono fun e Y ⟨h1, h2⟩ => ⟨h1, hsee Y (had.below h2), hTd.below h2, had.below h2⟩
          have hS0 := hsee _ had
          generalize tp j = TJ at hS0 htl
          generalize rp j = RJ at hS0 htl
          have hj' : (j : Int) < 3 := by omega
          clear hsee hTd had hbQ hT ha
          go_wp2_with fail
          go_region_held3 (fun W => W.cell? ⟨At, j, none⟩ = some (.pointer TJ) ∧ W.cell? ⟨Ar, j, none⟩ = some (.pointer RJ)) (assumption)
            ((go_at_call 15; refine htl.mono ?_; rintro e w9 ⟨rfl, hS9, hD9⟩))
          clear htl hS0
          go_wp2_with fail
          go_roundw
          case rel => exact ⟨j + 1, by omega, by go_num, hD9.out.1, hD9.out.2⟩
          case measure => simp [intOf]; omega
        · obtain rfl : j = 3 := by omega
          have hB := hT.1
          clear hT ha
          go_wp2_with fail
          refine (known_any _ (hw.below hB)).mono ?_
          rintro e w8 ⟨rfl, hk8⟩
          have hb8 := hk8.below _ (Nat.le_refl _) (fun _ f => f.elim)
          go_wp2_with fail
          go_ret
          exact ⟨rfl, hB.trans (hb8.mono hB.size)⟩
end Go.Proofs.YtbhocajmcfdffaaDoor

namespace Go.Proofs.YtbhocajmcfdffaaDoor.indexPlays
open Go.ChangeShapes Go.WideShapes Go.ChangeAt Go.RowKit

theorem bytesS : Tryd.prog.bytesOf 31 = 48 := by kernel_rfl

set_option maxRecDepth 100000 in
theorem contract (H : Type) (enc : TypeId × Value → H) (W : World) (base : Nat) (args : Array Value) (ds gs : List (DataW H)) (before : List MemPlace)
    (hval : ∀ (j : Nat) t v, Tryd.f3.params[j]? = some t → args[j]? = some v → Value.okWide Tryd.prog W .any base t v)
    (hW : DataW.Whole enc Tryd.prog Tryd.f3.params.toList Rows.indexPlaysSpec.vars false W args.toList ds gs before)
    (hsz0 : (DataW.weightsEach Tryd.prog (Tryd.f3.params.toList ++ Rows.indexPlaysSpec.plain.varTypes Tryd.prog) (ds ++ gs)).all (· ≤ reachBytes) = true) (hL : laidMetH Tryd.prog Rows.indexPlaysRow.laid W) :
    Calls Tryd.prog 3 args W fun e W' => ∃ v, e = .returned v ∧ Rows.indexPlaysSpec.post enc Tryd.prog Tryd.f3 false true false false W args v W' := by
  have hsz := hsz0
  have hW' := hW
  obtain ⟨p, q, hA0, hV, rfl, hfz, hnd⟩ := hW
  have hA : DataW.TrodAll enc Tryd.prog W 0 (fun _ => true) true Tryd.f3.params.toList args.toList ds p := hA0
  rw [Tryd.params3] at hA hval hsz
  obtain ⟨v0, vs0, d0, ds0, p0, q0, hargs, rfl, rfl, h0, r0⟩ := trodAll_cons hA
  obtain ⟨rfl, rfl, rfl⟩ := trodAll_nil r0
  obtain rfl : args = #[v0] := by cases args; simp_all
  obtain ⟨rfl, rfl⟩ := trodVars_none hV
  have lt0 : ∀ x ∈ p0, x.block < W.heap.size := by obtain ⟨m, hm⟩ := h0; exact DataW.trod_lt m _ _ _ hm
  obtain ⟨a0, n0, c0, rfl, hr0, hd0⟩ := open_steps (hval 0 22 v0 rfl rfl) h0
  have b0 : n0 * 48 ≤ 140737488351232 := by
    rcases hd0 with ⟨_, rfl⟩ | ⟨e, s, rfl, hl⟩
    · simp
    · have := sized_slice hsz (j := 0) (t := 22) (e := 31) rfl rfl Tryd.underlying22
      rw [bytesS] at this
      simp only [reachBytes] at this
      omega
  clear hA0
  simp only [List.append_nil] at hW'
  have hz := tz_of hL
  refine (plays_walk a0 n0 c0 W hz hr0 (by omega)).mono fun e W' ⟨he, bel⟩ => ?_
  subst he
  exact ⟨_, rfl, _, _, _, [], _, [], hW', trodAll_mk1 (shut_bool Tryd.underlying4 _),
    trodAll_mk1 (Below.trod laidOut (by kernel_rfl) (of_decide_eq_true (by kernel_rfl)) h0 bel lt0), rfl, bel.frame _, fun h => by cases h⟩

theorem laid_met (os : Os) : laidMet Tryd.prog Rows.indexPlaysRow.laid ((laidWorld os).forCall (fun _ _ => 0) ⟨#[], #[.slice none 0 0], []⟩).memory :=
  laidMet_of_run' 8 (by kernel_rfl) (by kernel_rfl)
theorem reads (os : Os) {H : Type} (enc : TypeId × Value → H) : ∃ places, DataW.whole enc Tryd.prog ((laidWorld os).forCall (fun _ _ => 0) ⟨#[], #[.slice none 0 0], []⟩).memory Tryd.f3.params.toList Rows.indexPlaysSpec.vars false #[Value.slice none 0 0].toList 8 = some ([.nil], [], places) :=
  ⟨[], by kernel_rfl⟩

set_option maxRecDepth 100000 in
theorem lifted (os : Os) (started : os.Started) (H : Type) (enc : TypeId × Value → H) (F : Stop.Interp) :
    ReturnsInHanded {} Tryd.checked os 3 .any ((OpenSpec.ofChange Rows.indexPlaysSpec).preRow enc Tryd.prog Tryd.f3 Rows.indexPlaysRow.domain false Rows.indexPlaysRow.laid) (((OpenSpec.ofChange Rows.indexPlaysSpec).at F).post enc Tryd.prog Tryd.f3 false true false false) := by
  obtain ⟨places, hx⟩ := reads os enc
  refine returnsInHanded_of_row (C := Tryd.checked) (s := OpenSpec.ofChange Rows.indexPlaysSpec) own started (by kernel_rfl) Tryd.func3
    (witness_row_at (enc := enc) (C := Tryd.checked) false (laidWorld os) #[.slice none 0 0] rfl (by kernel_rfl) (by kernel_rfl) (by kernel_rfl)
      (OpenSpec.preRow_of_cond 8 hx (by kernel_rfl) (fun k hk => by cases hk) (by kernel_rfl) (laid_met os))) ?_
  intro W base args ds gs before hval hW _ _ hsz hL _ _
  exact contract H enc W base args ds gs before hval hW hsz hL

theorem said : Rows.IndexPlaysSaid :=
  OpenClaim.holds_of_cond 3 Tryd.f3 rfl rfl rfl rfl rfl rfl rfl ⟨rfl, rfl, rfl, rfl, rfl⟩ rfl rfl rfl rfl rfl (by kernel_rfl) Tryd.func3 (by kernel_rfl)
    (of_decide_eq_true (by kernel_rfl)) (by unfold Func.isWrapper; first | (rw [if_pos (by decide +kernel)]; kernel_rfl) | (rw [if_neg (by decide +kernel)]; exact ⟨rfl, rfl⟩))
    (fun os started H enc _ F => by rw [OpenClaim.pre_eq_preRow]; exact lifted os started H enc F)

theorem plain (f : FuncId) (fn : Func) (hf : Tryd.pinned.checked.prog.funcNamed "parley/parleylaw04.IndexPlays" = some f) (hfn : Tryd.pinned.checked.prog.funcs[f]? = some fn) :
    false = Tryd.pinned.checked.prog.looks [] ∧ ∀ (j : Nat) t, fn.params[j]? = some t → Tryd.pinned.checked.prog.wantsStandIn t = false := by
  obtain rfl : f = 3 := Option.some.inj ((show Tryd.prog.funcNamed "parley/parleylaw04.IndexPlays" = some 3 by kernel_rfl).symm.trans hf) |>.symm
  obtain rfl : fn = Tryd.f3 := (Option.some.inj (Tryd.func3.symm.trans hfn)).symm
  refine ⟨by kernel_rfl, fun j t ht => ?_⟩
  rw [Tryd.params3] at ht
  have hm := Array.mem_of_getElem? ht
  simp at hm
  subst hm
  exact (show Tryd.prog.wantsStandIn 22 = false by kernel_rfl)

theorem card : Rows.IndexPlaysCardSaid :=
  Claim7.holds_tied_plain_at .later [] _ _ _ _ said (fun _ h => by cases h) (by kernel_rfl) (fun _ h => by cases h) indexPlays_row_tie rfl ⟨rfl, rfl⟩ (by kernel_rfl) rfl plain (by kernel_rfl)
end Go.Proofs.YtbhocajmcfdffaaDoor.indexPlays

namespace Go.Proofs.YtbhocajmcfdffaaDoor
theorem indexPlays_holds : Rows.IndexPlaysCardSaid := indexPlays.card
end Go.Proofs.YtbhocajmcfdffaaDoor
