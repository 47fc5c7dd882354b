/-
  The walk of the law's 'goes' at two tables that are alike, where it is left behind some turns. No statement of the seat is proved here.
-/
import Derived.Test.YtbhocajmcfdffaaDoorGoesD
namespace Go.Proofs.YtbhocajmcfdffaaDoor
open Go.RowKit Go.Shelf
attribute [local go_sem] Oper.semAt_some

set_option maxRecDepth 100000 in
set_option maxHeartbeats 4000000 in
theorem goes_b (w W : World) (bt br p : Nat) (K : List (Option Int)) (O : List Int) (uf : Int → Int) (Ot Or : Nat → Prop) (h : Pair w W bt br p K O uf Ot Or) (leave : Int) (hl : 1 ≤ leave) :
    Calls Tryd.prog 54 #[.pointer (some ⟨bt, 0, none⟩), .pointer (some ⟨br, 0, none⟩), .int .i64 leave] W fun e W' => e = .returned (.bool true) ∧ Below W.heap.size W W' := by
  have hkeys : ∀ X, Below W.heap.size W X → Calls Tryd.prog 58 #[.pointer (some ⟨br, 0, none⟩)] X fun e w' => ∃ v, e = .returned v ∧ w' = X ∧ Reads X v O ∧ ∀ q, some q = v.ownBlock → Or q := fun X hX => R.hold_keys br p K O uf Or X (h.both hX).r
  have hnf := func_not_nilU
  have hmany := h.r.many
  refine (callsIn_wide (n := 5)).1 ?_
  refine callsIn_of_wp_marks Tryd.func54 rfl trivial ?_ rfl
  simp only [Tryd.ntmps54, List.size_toArray, List.length_cons, List.length_nil, Nat.reduceAdd, Nat.reduceSub, Array.replicate_succ, Array.replicate_zero, List.push_toArray, List.append_toArray, List.nil_append, List.cons_append]
  gi_wp2_with (refine ⟨trivial, ?_⟩; gi_at_call 19; refine (callsIn_wide.2 (U.all_any _ _)).mono ?_; rintro e w' ⟨rfl, rfl⟩)
  have hbK : Below W.heap.size W ((((W.alloc (.cells #[.pointer (some ⟨br, 0, none⟩)] 27)).alloc (.cells #[.int .i64 leave] 3)).alloc (.cells #[.bool false] 4)).alloc (.cells #[.pointer (some ⟨bt, 0, none⟩)] 23)) :=
    ((((Below.refl _ W).alloc (Nat.le_refl _) _).alloc (by simp) _).alloc (by simp; omega) _).alloc (by simp; omega) _
  refine ⟨trivial, (callsIn_wide.2 (hkeys _ hbK)).mono ?_⟩
  rintro e w2 ⟨v, rfl, hw2, hRv, hOv⟩
  subst hw2
  obtain ⟨av, cv, rfl⟩ := hRv.form
  gi_wp2
  refine wpIn_loop_rounds 3 ?_
  rw [roundsIn_succ]
  gi_wp2
  have e0 := alloc_old (alloc_old (alloc_old (alloc_old (alloc_old (alloc_old (alloc_block W (.cells #[.pointer (some ⟨br, 0, none⟩)] 27)) (.cells #[.int .i64 leave] 3)) (.cells #[.bool false] 4)) (.cells #[.pointer (some ⟨bt, 0, none⟩)] 23)) (.cells #[.slice av O.length cv] 37)) (.cells #[.int .i64 0] 3)) (.cells #[.int .i64 0] 3)
  have e1 := alloc_old (alloc_old (alloc_old (alloc_old (alloc_old (alloc_block (W.alloc (.cells #[.pointer (some ⟨br, 0, none⟩)] 27)) (.cells #[.int .i64 leave] 3)) (.cells #[.bool false] 4)) (.cells #[.pointer (some ⟨bt, 0, none⟩)] 23)) (.cells #[.slice av O.length cv] 37)) (.cells #[.int .i64 0] 3)) (.cells #[.int .i64 0] 3)
  have e2 := alloc_old (alloc_old (alloc_old (alloc_old (alloc_block ((W.alloc (.cells #[.pointer (some ⟨br, 0, none⟩)] 27)).alloc (.cells #[.int .i64 leave] 3)) (.cells #[.bool false] 4)) (.cells #[.pointer (some ⟨bt, 0, none⟩)] 23)) (.cells #[.slice av O.length cv] 37)) (.cells #[.int .i64 0] 3)) (.cells #[.int .i64 0] 3)
  have e3 := alloc_old (alloc_old (alloc_old (alloc_block (((W.alloc (.cells #[.pointer (some ⟨br, 0, none⟩)] 27)).alloc (.cells #[.int .i64 leave] 3)).alloc (.cells #[.bool false] 4)) (.cells #[.pointer (some ⟨bt, 0, none⟩)] 23)) (.cells #[.slice av O.length cv] 37)) (.cells #[.int .i64 0] 3)) (.cells #[.int .i64 0] 3)
  have e4 := alloc_old (alloc_old (alloc_block ((((W.alloc (.cells #[.pointer (some ⟨br, 0, none⟩)] 27)).alloc (.cells #[.int .i64 leave] 3)).alloc (.cells #[.bool false] 4)).alloc (.cells #[.pointer (some ⟨bt, 0, none⟩)] 23)) (.cells #[.slice av O.length cv] 37)) (.cells #[.int .i64 0] 3)) (.cells #[.int .i64 0] 3)
  have e5 := alloc_old (alloc_block (((((W.alloc (.cells #[.pointer (some ⟨br, 0, none⟩)] 27)).alloc (.cells #[.int .i64 leave] 3)).alloc (.cells #[.bool false] 4)).alloc (.cells #[.pointer (some ⟨bt, 0, none⟩)] 23)).alloc (.cells #[.slice av O.length cv] 37)) (.cells #[.int .i64 0] 3)) (.cells #[.int .i64 0] 3)
  have e6 := alloc_block ((((((W.alloc (.cells #[.pointer (some ⟨br, 0, none⟩)] 27)).alloc (.cells #[.int .i64 leave] 3)).alloc (.cells #[.bool false] 4)).alloc (.cells #[.pointer (some ⟨bt, 0, none⟩)] 23)).alloc (.cells #[.slice av O.length cv] 37)).alloc (.cells #[.int .i64 0] 3)) (.cells #[.int .i64 0] 3)
  have hz2 : (((((((W.alloc (.cells #[.pointer (some ⟨br, 0, none⟩)] 27)).alloc (.cells #[.int .i64 leave] 3)).alloc (.cells #[.bool false] 4)).alloc (.cells #[.pointer (some ⟨bt, 0, none⟩)] 23)).alloc (.cells #[.slice av O.length cv] 37)).alloc (.cells #[.int .i64 0] 3)).alloc (.cells #[.int .i64 0] 3)).heap.size = W.heap.size + 7 := by simp
  have hb2 : Below W.heap.size W (((((((W.alloc (.cells #[.pointer (some ⟨br, 0, none⟩)] 27)).alloc (.cells #[.int .i64 leave] 3)).alloc (.cells #[.bool false] 4)).alloc (.cells #[.pointer (some ⟨bt, 0, none⟩)] 23)).alloc (.cells #[.slice av O.length cv] 37)).alloc (.cells #[.int .i64 0] 3)).alloc (.cells #[.int .i64 0] 3)) :=
    ((((((((Below.refl _ W).alloc (Nat.le_refl _) _).alloc (by simp) _).alloc (by simp; omega) _).alloc (by simp; omega) _).alloc (by simp; omega) _).alloc (by simp; omega) _).alloc (by simp; omega) _)
  simp only [World.size_alloc] at e1 e2 e3 e4 e5 e6
  have hRv0 : Reads W (.slice av O.length cv) O := hRv.back (fun q hq => h.r.lt (hOv q hq)) hbK
  generalize (((((((W.alloc (.cells #[.pointer (some ⟨br, 0, none⟩)] 27)).alloc (.cells #[.int .i64 leave] 3)).alloc (.cells #[.bool false] 4)).alloc (.cells #[.pointer (some ⟨bt, 0, none⟩)] 23)).alloc (.cells #[.slice av O.length cv] 37)).alloc (.cells #[.int .i64 0] 3)).alloc (.cells #[.int .i64 0] 3)) = W2 at e0 e1 e2 e3 e4 e5 e6 hz2 hb2 hRv0 ⊢
  obtain ⟨s, e0', bf, hG, _⟩ := (h.both hb2).t
  clear hkeys hbK hRv
  have HZ : Hid (W2.heap.size = W.heap.size + 7) := hz2
  refine' range_own rfl (by omega) (gf := 61) (lb := #[.pointer (some ⟨W.heap.size + 1 + 1 + 1, 0, none⟩)]) rfl trivial (enters_of Tryd.func61 (by kernel_rfl) rfl)
    (U.all_seq (5 - 1) (by omega) (W.heap.size + 1 + 1 + 1) bt s e0' p K O bf uf W2 (cell_of_block e3 0) hG hmany) (Below.refl _ _)
    (fun h k => h.trans k) (fun W r r' hl => U.KeptNil.loop W _ r r' hl) (fun _ => rfl)
    (GoesI W bt br leave O uf (.slice av O.length cv) 0 (W.heap.size + 1 + 1 + 1 + 1 + 1) (W.heap.size + 1 + 1 + 1 + 1 + 1 + 1))
    (GoesX W bt br leave O uf (.slice av O.length cv) 0 (W.heap.size + 1 + 1 + 1 + 1 + 1) (W.heap.size + 1 + 1 + 1 + 1 + 1 + 1))
    (goesI_own _ _ _ _ _ _ _ _ _ _ (by omega)) (goesX_own _ _ _ _ _ _ _ _ _ _ (by omega))
    ⟨⟨⟨e0, e1, e2, e3, e4, e5, e6⟩, rfl, fun _ h1 => by simp; omega⟩, hb2⟩ _ ?assign ?body ?done ?stop
  case assign =>
    intro l x W K hK
    gi_wp2
    exact hK
  case body =>
    clear hz2
    rintro l pre ⟨k, u⟩ X ⟨⟨hS, hpre, hlv⟩, hB⟩ hlen
    dsimp only
    have hX := h.both hB
    have hRX := hRv0.below hB
    obtain ⟨m, hm⟩ : ∃ m, pre.length = m := ⟨_, rfl⟩
    rw [hm] at hS hlen
    obtain ⟨g, off, hav, z1⟩ := hRX.at hlen
    subst hav
    have x0 : X.cell? ⟨_, 0, none⟩ = some _ := cell_of_block hS.r 0
    have x1 : X.cell? ⟨_, 0, none⟩ = some _ := cell_of_block hS.leave 0
    have x2 : X.cell? ⟨_, 0, none⟩ = some _ := cell_of_block hS.res 0
    have x6 : X.cell? ⟨_, 0, none⟩ = some _ := cell_of_block hS.want 0
    have x4 : X.cell? ⟨_, 0, none⟩ = some _ := cell_of_block hS.turn 0
    have x5 : X.cell? ⟨_, 0, none⟩ = some _ := cell_of_block hS.n 0
    have y2 := frozen_of_block hS.res 0
    have y5 := frozen_of_block hS.n 0
    have hla : (m : Int) < (O.length : Int) := by omega
    have hga : decide (O.length ≤ m) = false := by simp; omega
    have hgb : ¬ (O.length : Int) ≤ (m : Int) := by omega
    have HP : Hid (pre = (tellsL O uf).take pre.length) := hpre
    have HM : Hid (pre.length = m) := hm
    have hmo : (oat O m) ∈ O := oat_mem hlen
    have HL : Hid ((m : Int) < leave) := by
      have := hlv rfl (by omega)
      rw [hm] at this
      exact this
    clear hpre hm hlv hRX
    by_cases hk : k = oat O m
    · have hk' : oat O m = k := hk.symm
      rw [hk'] at z1 hmo
      have HK : Hid (oat O m = k) := hk'
      clear hk hk'
      have hget := R.hold_get br p K O uf Or k X hX.r
      rw [if_pos hmo, decide_eq_true hmo] at hget
      by_cases hu : u = uf k
      · have HU : Hid (uf k = u) := hu.symm
        rw [← hu] at hget
        clear hu
        gi_wp2
        refine ⟨trivial, (CallsIn.inRound l (callsIn_wide.2 hget)).mono ?_⟩
        rintro e X1 ⟨rfl, nq, hX1⟩
        subst hX1
        obtain ⟨g1, g2, g3, g4⟩ := goes_step hS hB (by omega) (by omega) (B := W2.heap.size) (by have := HZ.out; omega) nq ((m : Int) + 1)
        by_cases hbr : (m : Int) + 1 = leave
        · have hle3 : ((m : Int) + 1 == leave) = true := by rw [beq_iff_eq]; exact hbr
          rw [hbr] at g1 g3 g4
          gi_wp2
          exact ⟨g1, .inl ⟨rfl, rfl, by rw [List.length_append, HM.out]; exact hbr, by rw [List.length_append, HM.out, show ((m + [(k, u)].length : Nat) : Int) = leave from hbr]; exact g3⟩, g4⟩
        · have hle3 : ((m : Int) + 1 == leave) = false := by rw [beq_eq_false_iff_ne]; exact hbr
          gi_wp2
          exact ⟨g1, g2, ⟨by rw [List.length_append, HM.out]; exact g3, tellsL_snoc HP.out HM.out hlen HK.out HU.out, fun _ h2 => by rw [List.length_append, HM.out]; show (m : Int) + 1 < leave; have := HL.out; omega⟩, g4⟩
      · have hne : (u != uf k) = true := by simpa using hu
        have HF : Hid (∀ j, pre ++ [(k, u)] ≠ (tellsL O uf).take j) := fun j e => by
          have := tellsL_last (by rw [HM.out]; exact hlen) e
          rw [HM.out, HK.out] at this
          exact hu (Prod.mk.inj this).2
        generalize uf k = U at *
        gi_wp2
        refine ⟨trivial, (CallsIn.inRound l (callsIn_wide.2 hget)).mono ?_⟩
        rintro e X1 ⟨rfl, nq, hX1⟩
        subst hX1
        obtain ⟨g1, g2⟩ := goes_fail hB (r := W.heap.size + 1 + 1) (by omega) (B := W2.heap.size) (by have := HZ.out; omega) nq (.bool false)
        gi_wp2
        exact ⟨g1, .inr HF.out, g2⟩
    · have hne : (k != oat O m) = true := by simpa using hk
      have HF : Hid (∀ j, pre ++ [(k, u)] ≠ (tellsL O uf).take j) := fun j e => by
        have := tellsL_last (by rw [HM.out]; exact hlen) e
        rw [HM.out] at this
        exact hk (Prod.mk.inj this).1
      generalize oat O m = y at *
      obtain ⟨g1, g2⟩ := goes_fail hB (r := W.heap.size + 1 + 1) (by omega) (B := W2.heap.size) (by have := HZ.out; omega) 0 (.bool false)
      gi_wp2
      exact ⟨g1, .inr HF.out, g2⟩
  case stop =>
    rintro c pre X ⟨j, hj, hpj⟩ ⟨hx | hx, hB⟩ hK
    · obtain ⟨rfl, _, hlv, hS⟩ := hx
      have hlj : pre.length = j + 1 := by rw [hpj]; simp; omega
      rw [hlv] at hS
      have hmin : min leave (O.length : Int) = leave := by omega
      have hmin2 : leave ≤ (O.length : Int) := by omega
      clear hlj hpj hlv hj
      have x1 : X.cell? ⟨_, 0, none⟩ = some _ := cell_of_block hS.leave 0
      have x4 : X.cell? ⟨_, 0, none⟩ = some _ := cell_of_block hS.turn 0
      have x5 : X.cell? ⟨_, 0, none⟩ = some _ := cell_of_block hS.n 0
      have x6 : X.cell? ⟨_, 0, none⟩ = some _ := cell_of_block hS.want 0
      have hga : decide (0 < leave) = true := by simp; omega
      have hgb : decide (leave ≤ 0) = false := by simp; omega
      have hgc : (0 : Int) < leave := by omega
      have hgd : ¬ leave ≤ 0 := by omega
      have hDl := lt_of_block hK
      obtain ⟨D, hD⟩ : ∃ D, W2.heap.size = D := ⟨_, rfl⟩
      rw [hD] at hK hDl hz2 HZ ⊢
      have HD : Hid (D = W.heap.size + 7) := hz2
      clear hz2 hD
      gi_wp2
      rw [roundsIn_succ]
      gi_wp2
      have e0 := alloc_old (alloc_old hS.r (.cells #[.int .i64 1] 3)) (.cells #[.int .i64 0] 3)
      have e1 := alloc_old (alloc_old hS.leave (.cells #[.int .i64 1] 3)) (.cells #[.int .i64 0] 3)
      have e2 := alloc_old (alloc_old hS.res (.cells #[.int .i64 1] 3)) (.cells #[.int .i64 0] 3)
      have e3 := alloc_old (alloc_old hS.t (.cells #[.int .i64 1] 3)) (.cells #[.int .i64 0] 3)
      have e4 := alloc_old (alloc_old hS.want (.cells #[.int .i64 1] 3)) (.cells #[.int .i64 0] 3)
      have e5 := alloc_old (alloc_block X (.cells #[.int .i64 1] 3)) (.cells #[.int .i64 0] 3)
      have e6 := alloc_block (X.alloc (.cells #[.int .i64 1] 3)) (.cells #[.int .i64 0] 3)
      have eD := alloc_old (alloc_old hK (.cells #[.int .i64 1] 3)) (.cells #[.int .i64 0] 3)
      have hz4 : ((X.alloc (.cells #[.int .i64 1] 3)).alloc (.cells #[.int .i64 0] 3)).heap.size = X.heap.size + 2 := by simp
      have hsz := hB.size
      have hb4 : Below W.heap.size W ((X.alloc (.cells #[.int .i64 1] 3)).alloc (.cells #[.int .i64 0] 3)) := (hB.alloc (by omega) _).alloc (by simp; omega) _
      simp only [World.size_alloc] at e6
      generalize (X.alloc (.cells #[.int .i64 1] 3)).alloc (.cells #[.int .i64 0] 3) = W4 at e0 e1 e2 e3 e4 e5 e6 eD hz4 hb4 ⊢
      have hXl : W.heap.size + 5 ≤ X.heap.size := by have := lt_of_block hS.want; omega
      have HZ4 : Hid (W4.heap.size = X.heap.size + 2) := hz4
      obtain ⟨s, e0', bf, hG, _⟩ := (h.both hb4).t
      have HDX : Hid (D < X.heap.size) := hDl
      clear x1 x4 x5 x6 hS hK HZ
      have HZ : Hid (W4.heap.size = X.heap.size + 2) := hz4
      obtain ⟨NX, hNX⟩ : ∃ NX, X.heap.size = NX := ⟨_, rfl⟩
      rw [hNX] at e5 e6 hz4 hXl HZ4 HDX HZ ⊢
      clear hB hsz hDl hNX
      refine' range_own rfl (by omega) (gf := 61) (lb := #[.pointer (some ⟨W.heap.size + 1 + 1 + 1, 0, none⟩)]) rfl trivial (enters_of Tryd.func61 (by kernel_rfl) rfl)
        (U.all_seq (5 - 1) (by omega) (W.heap.size + 1 + 1 + 1) bt s e0' p K O bf uf W4 (cell_of_block e3 0) hG hmany) (Below.refl _ _)
        (fun h k => h.trans k) (fun W r r' hl => U.KeptNil.loop W _ r r' hl) (fun _ => rfl)
        (fun pre Y => GoesI W bt br leave O uf (.slice av O.length cv) 1 NX (NX + 1) pre Y ∧ Y.heap[D]? = some (.deferred (some [])))
        (GoesX W bt br leave O uf (.slice av O.length cv) 1 NX (NX + 1))
        (OwnFrom.and (goesI_own _ _ _ _ _ _ _ _ _ _ (by omega)) (fun _ A B row hs hg hr => (hg.block D (lt_of_block hs) (fun e => by have := (hr D e.symm).1; have := HDX.out; omega)).trans hs)) (goesX_own _ _ _ _ _ _ _ _ _ _ (by omega))
        ⟨⟨⟨⟨e0, e1, e2, e3, e4, e5, e6⟩, rfl, fun h1 => absurd h1 (by decide)⟩, hb4⟩, eD⟩ _ ?assign2 ?body2 ?done2 ?stop2
      case assign2 =>
        intro l x W K hK
        gi_wp2
        exact hK
      case body2 =>
        clear hz4
        rintro l pre ⟨k, u⟩ X ⟨⟨⟨hS, hpre, hlv⟩, hB⟩, hKD⟩ hlen
        dsimp only
        have hX := h.both hB
        have hRX := hRv0.below hB
        obtain ⟨m, hm⟩ : ∃ m, pre.length = m := ⟨_, rfl⟩
        rw [hm] at hS hlen
        obtain ⟨g, off, hav, z1⟩ := hRX.at hlen
        subst hav
        have x0 : X.cell? ⟨_, 0, none⟩ = some _ := cell_of_block hS.r 0
        have x1 : X.cell? ⟨_, 0, none⟩ = some _ := cell_of_block hS.leave 0
        have x2 : X.cell? ⟨_, 0, none⟩ = some _ := cell_of_block hS.res 0
        have x6 : X.cell? ⟨_, 0, none⟩ = some _ := cell_of_block hS.want 0
        have x4 : X.cell? ⟨_, 0, none⟩ = some _ := cell_of_block hS.turn 0
        have x5 : X.cell? ⟨_, 0, none⟩ = some _ := cell_of_block hS.n 0
        have y2 := frozen_of_block hS.res 0
        have y5 := frozen_of_block hS.n 0
        have hla : (m : Int) < (O.length : Int) := by omega
        have hga : decide (O.length ≤ m) = false := by simp; omega
        have hgb : ¬ (O.length : Int) ≤ (m : Int) := by omega
        have HP : Hid (pre = (tellsL O uf).take pre.length) := hpre
        have HM : Hid (pre.length = m) := hm
        have hmo : (oat O m) ∈ O := oat_mem hlen
        clear hpre hm hlv hRX
        by_cases hk : k = oat O m
        · have hk' : oat O m = k := hk.symm
          rw [hk'] at z1 hmo
          have HK : Hid (oat O m = k) := hk'
          clear hk hk'
          have hget := R.hold_get br p K O uf Or k X hX.r
          rw [if_pos hmo, decide_eq_true hmo] at hget
          by_cases hu : u = uf k
          · have HU : Hid (uf k = u) := hu.symm
            rw [← hu] at hget
            clear hu
            gi_wp2
            refine ⟨trivial, (CallsIn.inRound l (callsIn_wide.2 hget)).mono ?_⟩
            rintro e X1 ⟨rfl, nq, hX1⟩
            subst hX1
            obtain ⟨g1, g2, g3, g4⟩ := goes_step hS hB (by omega) (by omega) (B := W4.heap.size) (by have := HZ.out; omega) nq ((m : Int) + 1)
            gi_wp2
            exact ⟨g1, g2, ⟨⟨by rw [List.length_append, HM.out]; exact g3, tellsL_snoc HP.out HM.out hlen HK.out HU.out, fun h1 => absurd h1 (by decide)⟩, g4⟩, (Below.heap_setCell (X.drewN nq) ⟨NX + 1, 0, none⟩ _ D (by show D ≠ NX + 1; have := HDX.out; omega)).trans hKD⟩
          · have hne : (u != uf k) = true := by simpa using hu
            have HF : Hid (∀ j, pre ++ [(k, u)] ≠ (tellsL O uf).take j) := fun j e => by
              have := tellsL_last (by rw [HM.out]; exact hlen) e
              rw [HM.out, HK.out] at this
              exact hu (Prod.mk.inj this).2
            generalize uf k = U at *
            gi_wp2
            refine ⟨trivial, (CallsIn.inRound l (callsIn_wide.2 hget)).mono ?_⟩
            rintro e X1 ⟨rfl, nq, hX1⟩
            subst hX1
            obtain ⟨g1, g2⟩ := goes_fail hB (r := W.heap.size + 1 + 1) (by omega) (B := W4.heap.size) (by have := HZ.out; omega) nq (.bool false)
            gi_wp2
            exact ⟨g1, .inr HF.out, g2⟩
        · have hne : (k != oat O m) = true := by simpa using hk
          have HF : Hid (∀ j, pre ++ [(k, u)] ≠ (tellsL O uf).take j) := fun j e => by
            have := tellsL_last (by rw [HM.out]; exact hlen) e
            rw [HM.out] at this
            exact hk (Prod.mk.inj this).1
          generalize oat O m = y at *
          obtain ⟨g1, g2⟩ := goes_fail hB (r := W.heap.size + 1 + 1) (by omega) (B := W4.heap.size) (by have := HZ.out; omega) 0 (.bool false)
          gi_wp2
          exact ⟨g1, .inr HF.out, g2⟩
      case stop2 =>
        rintro c pre Y ⟨j, hj, hpj⟩ ⟨hx | hx, hB⟩ hK
        · exact absurd hx.2.1 (by decide)
        · exact (hx (j + 1) hpj).elim
      case done2 =>
        rintro ys Y hys ⟨⟨⟨hS, _, hlv⟩, hB⟩, hKD⟩ hK
        rw [show ys.length = O.length by rw [hys]; simp] at hS
        clear hlv hys
        have x1 : Y.cell? ⟨_, 0, none⟩ = some _ := cell_of_block hS.leave 0
        have x4 : Y.cell? ⟨_, 0, none⟩ = some _ := cell_of_block hS.turn 0
        have x5 : Y.cell? ⟨_, 0, none⟩ = some _ := cell_of_block hS.n 0
        have x6 : Y.cell? ⟨_, 0, none⟩ = some _ := cell_of_block hS.want 0
        obtain ⟨D', hD'⟩ : ∃ D', W4.heap.size = D' := ⟨_, rfl⟩
        rw [hD'] at hK hz4 ⊢
        have HD' : Hid (D' = NX + 2) := hz4
        clear hz4 hD' HZ HZ4
        have c2 := alloc_old hS.res (.cells #[.int .i64 2] 3)
        have x2 : (Y.alloc (.cells #[.int .i64 2] 3)).cell? ⟨_, 0, none⟩ = some _ := cell_of_block c2 0
        have y2 := frozen_of_block c2 0
        have hb6 := (hB.alloc hB.size (.cells #[.int .i64 2] 3)).setCell (p := ⟨W.heap.size + 1 + 1, 0, none⟩) (by simp; omega) (.bool true)
        have k5 := (KeepsOthers.setCell (Y.alloc (.cells #[.int .i64 2] 3)) ⟨W.heap.size + 1 + 1, 0, none⟩ (.bool true)).same D' _ (alloc_old hK _) rfl
        have k6 := (KeepsOthers.setCell (Y.alloc (.cells #[.int .i64 2] 3)) ⟨W.heap.size + 1 + 1, 0, none⟩ (.bool true)).same D _ (alloc_old hKD _) rfl
        have r6 := block_set c2 0 (.bool true)
        gi_wp2
        rw [roundsIn_succ]
        gi_wp2
        have hDD : D ≠ D' := by have := HD'.out; have := HDX.out; omega
        have k7 := (World.putObj_heap_other (w := (Y.alloc (.cells #[.int .i64 2] 3)).setCell ⟨W.heap.size + 1 + 1, 0, none⟩ (.bool true)) (o := .deferred none) hDD).trans k6
        have r7 := block_kept r6 (grownBy_putObj' _ D' (.deferred none)) (fun r e => by cases e; exact ⟨_, k5, rfl⟩)
        have r8 := block_kept r7 (grownBy_putObj' _ D (.deferred none)) (fun r e => by cases e; exact ⟨_, k7, rfl⟩)
        have r9 := cell_of_block r8 0
        refine ⟨by simp, .inl ⟨_, _, rfl, run_takeDeferred k5, ?_⟩⟩
        refine ⟨by simp, .inl ⟨_, _, rfl, run_takeDeferred k7, ?_⟩⟩
        refine ⟨.bool true, ?_, rfl, (hb6.trans (belowK_b (w := W) (Nat.le_refl _) _ D' _ _ (by have := HD'.out; omega) k5 rfl rfl)).trans (belowK_b (w := W) (Nat.le_refl _) _ D _ _ (by have := HD.out; omega) k7 rfl rfl)⟩
        simp [results, Tryd.f54, go_sem, r9]
    · exact (hx (j + 1) hpj).elim
  case done =>
    rintro ys X hys ⟨⟨hS, _, hlv⟩, hB⟩ hK
    have hyl : ys.length = O.length := by rw [hys]; simp
    rw [hyl] at hS hlv
    have hlv' : (O.length : Int) < leave := hlv rfl (by omega)
    have hmin : min leave (O.length : Int) = O.length := by omega
    have hmin2 : ¬ leave ≤ (O.length : Int) := by omega
    clear hlv hys hyl
    have x1 : X.cell? ⟨_, 0, none⟩ = some _ := cell_of_block hS.leave 0
    have x4 : X.cell? ⟨_, 0, none⟩ = some _ := cell_of_block hS.turn 0
    have x5 : X.cell? ⟨_, 0, none⟩ = some _ := cell_of_block hS.n 0
    have x6 : X.cell? ⟨_, 0, none⟩ = some _ := cell_of_block hS.want 0
    have hga : decide (0 < leave) = true := by simp; omega
    have hgb : decide (leave ≤ 0) = false := by simp; omega
    have hgc : (0 : Int) < leave := by omega
    have hgd : ¬ leave ≤ 0 := by omega
    have hDl := lt_of_block hK
    obtain ⟨D, hD⟩ : ∃ D, W2.heap.size = D := ⟨_, rfl⟩
    rw [hD] at hK hDl hz2 HZ ⊢
    have HD : Hid (D = W.heap.size + 7) := hz2
    clear hz2 hD
    gi_wp2
    rw [roundsIn_succ]
    gi_wp2
    have e0 := alloc_old (alloc_old hS.r (.cells #[.int .i64 1] 3)) (.cells #[.int .i64 0] 3)
    have e1 := alloc_old (alloc_old hS.leave (.cells #[.int .i64 1] 3)) (.cells #[.int .i64 0] 3)
    have e2 := alloc_old (alloc_old hS.res (.cells #[.int .i64 1] 3)) (.cells #[.int .i64 0] 3)
    have e3 := alloc_old (alloc_old hS.t (.cells #[.int .i64 1] 3)) (.cells #[.int .i64 0] 3)
    have e4 := alloc_old (alloc_old hS.want (.cells #[.int .i64 1] 3)) (.cells #[.int .i64 0] 3)
    have e5 := alloc_old (alloc_block X (.cells #[.int .i64 1] 3)) (.cells #[.int .i64 0] 3)
    have e6 := alloc_block (X.alloc (.cells #[.int .i64 1] 3)) (.cells #[.int .i64 0] 3)
    have eD := alloc_old (alloc_old hK (.cells #[.int .i64 1] 3)) (.cells #[.int .i64 0] 3)
    have hz4 : ((X.alloc (.cells #[.int .i64 1] 3)).alloc (.cells #[.int .i64 0] 3)).heap.size = X.heap.size + 2 := by simp
    have hsz := hB.size
    have hb4 : Below W.heap.size W ((X.alloc (.cells #[.int .i64 1] 3)).alloc (.cells #[.int .i64 0] 3)) := (hB.alloc (by omega) _).alloc (by simp; omega) _
    simp only [World.size_alloc] at e6
    generalize (X.alloc (.cells #[.int .i64 1] 3)).alloc (.cells #[.int .i64 0] 3) = W4 at e0 e1 e2 e3 e4 e5 e6 eD hz4 hb4 ⊢
    have hXl : W.heap.size + 5 ≤ X.heap.size := by have := lt_of_block hS.want; omega
    have HZ4 : Hid (W4.heap.size = X.heap.size + 2) := hz4
    obtain ⟨s, e0', bf, hG, _⟩ := (h.both hb4).t
    have HDX : Hid (D < X.heap.size) := hDl
    clear x1 x4 x5 x6 hS hK HZ
    have HZ : Hid (W4.heap.size = X.heap.size + 2) := hz4
    obtain ⟨NX, hNX⟩ : ∃ NX, X.heap.size = NX := ⟨_, rfl⟩
    rw [hNX] at e5 e6 hz4 hXl HZ4 HDX HZ ⊢
    clear hB hsz hDl hNX
    refine' range_own rfl (by omega) (gf := 61) (lb := #[.pointer (some ⟨W.heap.size + 1 + 1 + 1, 0, none⟩)]) rfl trivial (enters_of Tryd.func61 (by kernel_rfl) rfl)
      (U.all_seq (5 - 1) (by omega) (W.heap.size + 1 + 1 + 1) bt s e0' p K O bf uf W4 (cell_of_block e3 0) hG hmany) (Below.refl _ _)
      (fun h k => h.trans k) (fun W r r' hl => U.KeptNil.loop W _ r r' hl) (fun _ => rfl)
      (fun pre Y => GoesI W bt br leave O uf (.slice av O.length cv) 1 NX (NX + 1) pre Y ∧ Y.heap[D]? = some (.deferred (some [])))
      (GoesX W bt br leave O uf (.slice av O.length cv) 1 NX (NX + 1))
      (OwnFrom.and (goesI_own _ _ _ _ _ _ _ _ _ _ (by omega)) (fun _ A B row hs hg hr => (hg.block D (lt_of_block hs) (fun e => by have := (hr D e.symm).1; have := HDX.out; omega)).trans hs)) (goesX_own _ _ _ _ _ _ _ _ _ _ (by omega))
      ⟨⟨⟨⟨e0, e1, e2, e3, e4, e5, e6⟩, rfl, fun h1 => absurd h1 (by decide)⟩, hb4⟩, eD⟩ _ ?assign2 ?body2 ?done2 ?stop2
    case assign2 =>
      intro l x W K hK
      gi_wp2
      exact hK
    case body2 =>
      clear hz4
      rintro l pre ⟨k, u⟩ X ⟨⟨⟨hS, hpre, hlv⟩, hB⟩, hKD⟩ hlen
      dsimp only
      have hX := h.both hB
      have hRX := hRv0.below hB
      obtain ⟨m, hm⟩ : ∃ m, pre.length = m := ⟨_, rfl⟩
      rw [hm] at hS hlen
      obtain ⟨g, off, hav, z1⟩ := hRX.at hlen
      subst hav
      have x0 : X.cell? ⟨_, 0, none⟩ = some _ := cell_of_block hS.r 0
      have x1 : X.cell? ⟨_, 0, none⟩ = some _ := cell_of_block hS.leave 0
      have x2 : X.cell? ⟨_, 0, none⟩ = some _ := cell_of_block hS.res 0
      have x6 : X.cell? ⟨_, 0, none⟩ = some _ := cell_of_block hS.want 0
      have x4 : X.cell? ⟨_, 0, none⟩ = some _ := cell_of_block hS.turn 0
      have x5 : X.cell? ⟨_, 0, none⟩ = some _ := cell_of_block hS.n 0
      have y2 := frozen_of_block hS.res 0
      have y5 := frozen_of_block hS.n 0
      have hla : (m : Int) < (O.length : Int) := by omega
      have hga : decide (O.length ≤ m) = false := by simp; omega
      have hgb : ¬ (O.length : Int) ≤ (m : Int) := by omega
      have HP : Hid (pre = (tellsL O uf).take pre.length) := hpre
      have HM : Hid (pre.length = m) := hm
      have hmo : (oat O m) ∈ O := oat_mem hlen
      clear hpre hm hlv hRX
      by_cases hk : k = oat O m
      · have hk' : oat O m = k := hk.symm
        rw [hk'] at z1 hmo
        have HK : Hid (oat O m = k) := hk'
        clear hk hk'
        have hget := R.hold_get br p K O uf Or k X hX.r
        rw [if_pos hmo, decide_eq_true hmo] at hget
        by_cases hu : u = uf k
        · have HU : Hid (uf k = u) := hu.symm
          rw [← hu] at hget
          clear hu
          gi_wp2
          refine ⟨trivial, (CallsIn.inRound l (callsIn_wide.2 hget)).mono ?_⟩
          rintro e X1 ⟨rfl, nq, hX1⟩
          subst hX1
          obtain ⟨g1, g2, g3, g4⟩ := goes_step hS hB (by omega) (by omega) (B := W4.heap.size) (by have := HZ.out; omega) nq ((m : Int) + 1)
          gi_wp2
          exact ⟨g1, g2, ⟨⟨by rw [List.length_append, HM.out]; exact g3, tellsL_snoc HP.out HM.out hlen HK.out HU.out, fun h1 => absurd h1 (by decide)⟩, g4⟩, (Below.heap_setCell (X.drewN nq) ⟨NX + 1, 0, none⟩ _ D (by show D ≠ NX + 1; have := HDX.out; omega)).trans hKD⟩
        · have hne : (u != uf k) = true := by simpa using hu
          have HF : Hid (∀ j, pre ++ [(k, u)] ≠ (tellsL O uf).take j) := fun j e => by
            have := tellsL_last (by rw [HM.out]; exact hlen) e
            rw [HM.out, HK.out] at this
            exact hu (Prod.mk.inj this).2
          generalize uf k = U at *
          gi_wp2
          refine ⟨trivial, (CallsIn.inRound l (callsIn_wide.2 hget)).mono ?_⟩
          rintro e X1 ⟨rfl, nq, hX1⟩
          subst hX1
          obtain ⟨g1, g2⟩ := goes_fail hB (r := W.heap.size + 1 + 1) (by omega) (B := W4.heap.size) (by have := HZ.out; omega) nq (.bool false)
          gi_wp2
          exact ⟨g1, .inr HF.out, g2⟩
      · have hne : (k != oat O m) = true := by simpa using hk
        have HF : Hid (∀ j, pre ++ [(k, u)] ≠ (tellsL O uf).take j) := fun j e => by
          have := tellsL_last (by rw [HM.out]; exact hlen) e
          rw [HM.out] at this
          exact hk (Prod.mk.inj this).1
        generalize oat O m = y at *
        obtain ⟨g1, g2⟩ := goes_fail hB (r := W.heap.size + 1 + 1) (by omega) (B := W4.heap.size) (by have := HZ.out; omega) 0 (.bool false)
        gi_wp2
        exact ⟨g1, .inr HF.out, g2⟩
    case stop2 =>
      rintro c pre Y ⟨j, hj, hpj⟩ ⟨hx | hx, hB⟩ hK
      · exact absurd hx.2.1 (by decide)
      · exact (hx (j + 1) hpj).elim
    case done2 =>
      rintro ys Y hys ⟨⟨⟨hS, _, hlv⟩, hB⟩, hKD⟩ hK
      rw [show ys.length = O.length by rw [hys]; simp] at hS
      clear hlv hys
      have x1 : Y.cell? ⟨_, 0, none⟩ = some _ := cell_of_block hS.leave 0
      have x4 : Y.cell? ⟨_, 0, none⟩ = some _ := cell_of_block hS.turn 0
      have x5 : Y.cell? ⟨_, 0, none⟩ = some _ := cell_of_block hS.n 0
      have x6 : Y.cell? ⟨_, 0, none⟩ = some _ := cell_of_block hS.want 0
      obtain ⟨D', hD'⟩ : ∃ D', W4.heap.size = D' := ⟨_, rfl⟩
      rw [hD'] at hK hz4 ⊢
      have HD' : Hid (D' = NX + 2) := hz4
      clear hz4 hD' HZ HZ4
      have c2 := alloc_old hS.res (.cells #[.int .i64 2] 3)
      have x2 : (Y.alloc (.cells #[.int .i64 2] 3)).cell? ⟨_, 0, none⟩ = some _ := cell_of_block c2 0
      have y2 := frozen_of_block c2 0
      have hb6 := (hB.alloc hB.size (.cells #[.int .i64 2] 3)).setCell (p := ⟨W.heap.size + 1 + 1, 0, none⟩) (by simp; omega) (.bool true)
      have k5 := (KeepsOthers.setCell (Y.alloc (.cells #[.int .i64 2] 3)) ⟨W.heap.size + 1 + 1, 0, none⟩ (.bool true)).same D' _ (alloc_old hK _) rfl
      have k6 := (KeepsOthers.setCell (Y.alloc (.cells #[.int .i64 2] 3)) ⟨W.heap.size + 1 + 1, 0, none⟩ (.bool true)).same D _ (alloc_old hKD _) rfl
      have r6 := block_set c2 0 (.bool true)
      gi_wp2
      rw [roundsIn_succ]
      gi_wp2
      have hDD : D ≠ D' := by have := HD'.out; have := HDX.out; omega
      have k7 := (World.putObj_heap_other (w := (Y.alloc (.cells #[.int .i64 2] 3)).setCell ⟨W.heap.size + 1 + 1, 0, none⟩ (.bool true)) (o := .deferred none) hDD).trans k6
      have r7 := block_kept r6 (grownBy_putObj' _ D' (.deferred none)) (fun r e => by cases e; exact ⟨_, k5, rfl⟩)
      have r8 := block_kept r7 (grownBy_putObj' _ D (.deferred none)) (fun r e => by cases e; exact ⟨_, k7, rfl⟩)
      have r9 := cell_of_block r8 0
      refine ⟨by simp, .inl ⟨_, _, rfl, run_takeDeferred k5, ?_⟩⟩
      refine ⟨by simp, .inl ⟨_, _, rfl, run_takeDeferred k7, ?_⟩⟩
      refine ⟨.bool true, ?_, rfl, (hb6.trans (belowK_b (w := W) (Nat.le_refl _) _ D' _ _ (by have := HD'.out; omega) k5 rfl rfl)).trans (belowK_b (w := W) (Nat.le_refl _) _ D _ _ (by have := HD.out; omega) k7 rfl rfl)⟩
      simp [results, Tryd.f54, go_sem, r9]

end Go.Proofs.YtbhocajmcfdffaaDoor
