
/-
  AttemptFull returns true, and leaves all that was there as it was: the tied card.
-/
import Derived.Test.YtmhinalgjfiliaaDoorDoorL
import Derived.Test.YtmhinalgjfiliaaDoorAtM
namespace Go.Proofs.YtmhinalgjfiliaaDoor.attemptFull
open Go.ChangeShapes Go.WideShapes Go.ChangeAt Go.RowKit Go.Shelf

set_option maxRecDepth 100000 in
set_option maxHeartbeats 2000000 in
theorem law_walk (w : World) (hz : Tz w) : Calls Tryd.prog 4 #[] w fun e w' => e = .returned (.bool true) ∧ Below w.heap.size w w' := by
  have h0 := hz.pos
  have HO : Hid (Calls Tryd.prog 14 #[.int .i64 2000] w fun e W => e = .returned (.tuple #[.pointer (some ⟨w.heap.size + 1, 0, none⟩), .int .i64 0]) ∧ Hid (C.RowAt W 59 34 (w.heap.size + 1) w.heap.size (List.replicate 2000 0) 0 ∧ Keeps (fun _ => False) w W)) :=
    (C.new_yes 2000 w (by decide) (by decide)).mono fun e W ⟨h1, h2, h3⟩ => ⟨h1, h2, h3⟩
  have HN : Hid (∀ W1, C.RowAt W1 59 34 (w.heap.size + 1) w.heap.size (List.replicate 2000 0) 0 ∧ Keeps (fun _ => False) w W1 → Calls Tryd.prog 7 #[] W1 fun e W => ∃ ck, e = .returned (.pointer (some ⟨ck, 0, none⟩)) ∧ Hid (∃ cb cc, ShAt W ⟨w.heap.size + 1, w.heap.size, ck, cb, cc⟩ (List.replicate 2000 0) 0 ∧ (∀ q, Sh.own ⟨w.heap.size + 1, w.heap.size, ck, cb, cc⟩ q → w.heap.size ≤ q) ∧ Keeps (fun _ => False) w W)) := fun W1 ⟨r, k0⟩ =>
    (C.new_any W1).mono fun e W ⟨p, b, c, h1, h2, h3, h4, h5, h6⟩ => by
      obtain ⟨q1, q2⟩ := sh_new (w := w) r h2 h3 k0 h4 h5 h6 (by omega) (by omega)
      exact ⟨p, h1, b, c, q1, q2, k0.trans h3⟩
  have hnum := fun n W => num_any n W
  go_enter Tryd.func4, Tryd.ntmps4
  go_wp2_with fail
  refine HO.out.mono ?_
  rintro e W1 ⟨rfl, h1⟩
  have HN1 := HN.out W1 h1.out
  clear HO HN h1
  go_wp2_with fail
  refine HN1.mono ?_
  rintro e W2 ⟨ck, rfl, h2⟩
  clear HN1
  obtain ⟨cb, cc, s2, n2, k2⟩ := h2.out
  clear h2
  obtain ⟨R, eR⟩ : ∃ R : Sh, R = ⟨w.heap.size + 1, w.heap.size, ck, cb, cc⟩ := ⟨_, rfl⟩
  rw [← eR] at s2 n2
  have er : w.heap.size + 1 = R.rb := by rw [eR]
  have ec : ck = R.ck := by rw [eR]
  have HB : Hid (Calls Tryd.prog 10 #[.pointer (some ⟨w.heap.size + 1, 0, none⟩), .pointer (some ⟨ck, 0, none⟩)] W2 fun e W => ∃ a, e = .returned (.tuple #[.pointer (some ⟨a, 0, none⟩), turnV 6 0 1 0 0 false, .int .i64 0]) ∧ Hid (∃ rr dr Or Od, ∀ o, On (W.alloc o) a R rr dr [] Or Od (sdR 0) (List.replicate 2000 0) 0 ∧ (∀ q, AOwn a Or Od q → w.heap.size ≤ q) ∧ Keeps (fun _ => False) w (W.alloc o))) := by
    rw [er, ec]
    refine (begin_even R _ 0 W2 s2 (by decide) (by have := k2.size; omega)).mono fun e W ⟨a, rr, dr, Or, Od, h1, h2, h3, h4, h5⟩ => ⟨a, h1, rr, dr, Or, Od, fun o => ?_⟩
    have hz2 := k2.size
    have hds : ∀ q, AOwn a Or Od q → ¬ R.own q := fun q hq hR => by have := h3 q hq; have := s2.lt hR; omega
    have ho : On W a R rr dr [] Or Od (sd0 0) (List.replicate 2000 0) 0 := ⟨h2, h4, hds⟩
    have kw : Keeps (fun _ => False) w W := k2.step h5 (fun i hi e => by have := n2 i e; omega)
    exact ⟨ho.al _, fun q hq => by have := h3 q hq; omega, kw.trans (Keeps.al W _)⟩
  have HB2 : Hid (∀ W a rr dr Or Od, On W a R rr dr [] Or Od (sdR 0) (List.replicate 2000 0) 0 → (∀ q, AOwn a Or Od q → w.heap.size ≤ q) → Keeps (fun _ => False) w W → Calls Tryd.prog 10 #[.pointer (some ⟨w.heap.size + 1, 0, none⟩), .pointer (some ⟨ck, 0, none⟩)] W fun e W' => ∃ b, e = .returned (.tuple #[.pointer (some ⟨b, 0, none⟩), turnV 6 0 1 0 0 false, .int .i64 0]) ∧ Hid (∃ rb db Ob Pb, ∀ o, Du w (W'.alloc o) R (List.replicate 2000 0) 0 a rr dr [] Or Od (sdR 0) b rb db [] Ob Pb (sdW 0))) := fun W a rr dr Or Od hon hna hk => by
    rw [er, ec]
    have := hk.size
    exact (begin_even R _ 0 W hon.sh (by decide) (by omega)).mono fun e W' ⟨b, rb, db, Ob, Pb, h1, h2, h3, h4, h5⟩ => ⟨b, h1, rb, db, Ob, Pb, fun o => (du_mk hon hna n2 hk hz h0 h2 h3 h4 h5).al o⟩
  have HKN : Hid (∀ W, Tz W → Calls Tryd.prog 9 #[] W fun e w' => e = .returned (.bool true) ∧ Keeps (fun _ => False) W w') := fun W h => known_any W h
  clear s2 n2 k2 hz er ec eR
  unfold turnV at HB HB2
  go_wp2_with (go_at_call 8; refine (hnum _ _).mono ?_; rintro e w' ⟨rfl, hw'⟩; replace hw' := hw'.symm; subst hw')
  refine HB.out.mono ?_
  rintro e W3 ⟨a, rfl, h3⟩
  clear HB
  obtain ⟨ra, da, Oa, Pa, h3'⟩ := h3.out
  have HB3 := fun o => HB2.out (W3.alloc o) a ra da Oa Pa (h3' o).1 (h3' o).2.1 (h3' o).2.2
  clear h3 h3' HB2
  have HB4 : Hid (∀ o, _) := HB3
  clear HB3
  go_wp2_with fail
  refine (HB4.out _).mono ?_
  rintro e W5 ⟨b, rfl, h5⟩
  clear HB4
  obtain ⟨rb, db, Ob, Pb, D5⟩ := h5.out
  clear h5
  have HD5 : Hid (∀ o, _) := D5
  clear D5
  go_wp2_with fail
  go_loopw [10] (fun v wr => ∃ k : Nat, k ≤ 1024 ∧ v = .int .i64 k ∧ ∃ Oa, Du w wr R (List.replicate 2000 0) 0 a ra da [] Oa Pa (sdR k) b rb db [] Ob Pb (sdW 0)) (fun v _ => 1024 - (intOf v).toNat)
  case atStart => exact ⟨0, by omega, rfl, Oa, HD5.out _⟩
  case round =>
    obtain ⟨k, hk, rfl, Ok, D⟩ := hrel
    clear HD5
    by_cases hlt : k < 1024
    · have hki : (k : Int) < 1024 := by omega
      have HG := D.get7 hlt
      clear D
      unfold turnV at HG
      go_wp2_with fail
      refine HG.mono ?_
      rintro e W6 ⟨rfl, D6⟩
      have HS := D6.look7 hlt
      clear D6 HG
      unfold turnV at HS
      go_wp2_with fail
      refine HS.mono ?_
      rintro e W7 ⟨rfl, Ok7, D7⟩
      have HD7 : Hid (∀ o, Du w (W7.alloc o) R (List.replicate 2000 0) 0 a ra da [] Ok7 Pa (sdR (k + 1)) b rb db [] Ob Pb (sdW 0)) := fun o => D7.al o
      clear D7 HS
      go_wp2_with (go_at_call 8; refine (hnum _ _).mono ?_; rintro e w' ⟨rfl, hw'⟩; replace hw' := hw'.symm; subst hw')
      go_roundw
      case rel => exact ⟨k + 1, by omega, by go_num, Ok7, HD7.out _⟩
      case measure => simp [intOf]; omega
    · obtain rfl : k = 1024 := by omega
      have HG := D.full7
      clear D hk hlt
      unfold turn0 turnV at HG
      go_wp2_with fail
      refine HG.mono ?_
      rintro e W6 ⟨rfl, D6⟩
      have HD6 : Hid (∀ o, Du w (W6.alloc o) R (List.replicate 2000 0) 0 b rb db (wrN 0) Ob Pb (sdW 0) a ra da [] Ok Pa (sdR 1024)) := fun o => (D6.al o).swap
      clear D6 HG
      go_wp2_with fail
      go_loopw [15] (fun v wr => ∃ k : Nat, k ≤ 1024 ∧ v = .int .i64 k ∧ ∃ Pb, Du w wr R (List.replicate 2000 0) 0 b rb db (wrN k) Ob Pb (sdW k) a ra da [] Ok Pa (sdR 1024)) (fun v _ => 1024 - (intOf v).toNat)
      case atStart => exact ⟨0, by omega, rfl, Pb, HD6.out _⟩
      case round =>
        obtain ⟨k, hk, rfl, Pk, D⟩ := hrel
        clear HD6
        by_cases hlt : k < 1024
        · have hki : (k : Int) < 1024 := by omega
          have HG := D.put (k : Int) 1 rfl (by omega) (fun f => absurd f.2 (by rw [redoE_wrN, wrN_len]; omega)) (by rw [wrN_len]; omega)
          rw [sdW_succ, ← wrN_succ] at HG
          clear D
          unfold turnV at HG
          go_wp2_with fail
          refine HG.mono ?_
          rintro e W7 ⟨rfl, Pk7, D7⟩
          have HD7 : Hid (∀ o, Du w (W7.alloc o) R (List.replicate 2000 0) 0 b rb db (wrN (k + 1)) Ob Pk7 (sdW (k + 1)) a ra da [] Ok Pa (sdR 1024)) := fun o => D7.al o
          clear D7 HG
          go_wp2_with (go_at_call 8; refine (hnum _ _).mono ?_; rintro e w' ⟨rfl, hw'⟩; replace hw' := hw'.symm; subst hw')
          go_roundw
          case rel => exact ⟨k + 1, by omega, by go_num, Pk7, HD7.out _⟩
          case measure => simp [intOf]; omega
        · obtain rfl : k = 1024 := by omega
          clear hk hlt
          have hfull : Full 1024 (wrN 1024) 1024 := ⟨by rw [redoE_wrN]; exact wrN_out 1024 1024 (by decide), by rw [redoE_wrN, wrN_len]; exact Nat.le_refl _⟩
          have HP : Hid (Calls Tryd.prog 11 #[.pointer (some ⟨b, 0, none⟩), .int .u64 1024, .int .u64 1] wr fun e W' => e = .returned (.tuple #[turn0, .int .i64 5]) ∧ ∀ o, Du w (W'.alloc o) R (List.replicate 2000 0) 0 b rb db (wrN 1024) Ob Pk (sdW 1024) a ra da [] Ok Pa (sdR 1024)) :=
            (put_full b rb db R _ Ob Pk (sdW 1024) (List.replicate 2000 0) 0 1024 1 wr D.on D.tz rfl (by rw [List.length_replicate]; decide) hfull).mono fun e W' ⟨h1, h2, h3⟩ => ⟨h1, fun o => (D.same h2 h3.up).al o⟩
          clear D hfull
          unfold turn0 turnV at HP
          go_wp2_with fail
          refine HP.out.mono ?_
          rintro e W7 ⟨rfl, D7⟩
          clear HP
          have hin : idxE (wrN 1024) 0 < (wrN 1024).length := wrN_in 1024 0 (by decide) (by decide)
          have HP : Hid (∀ o, Calls Tryd.prog 11 #[.pointer (some ⟨b, 0, none⟩), .int .u64 0, .int .u64 2] (W7.alloc o) fun e W' => e = .returned (.tuple #[turnV 3 0 3 0 2 false, .int .i64 0]) ∧ ∃ Pb', ∀ o, Du w (W'.alloc o) R (List.replicate 2000 0) 0 b rb db (wrN 1024 ++ [(0, 2)]) Ob Pb' ((sdW 1024).writes (putE (wrN 1024) 0 2)) a ra da [] Ok Pa (sdR 1024)) := fun o =>
            ((D7 o).put 0 2 rfl (by decide) (fun f => f.1 (by rw [redoE_wrN]; exact hin)) (by rw [wrN_len]; decide)).mono fun e W' ⟨h1, Pb', h2⟩ => ⟨h1, Pb', fun o => h2.al o⟩
          have hwd : Hid (idxE (putE (wrN 1024) 0 2) 0 < (putE (wrN 1024) 0 2).length ∧ wordE (putE (wrN 1024) 0 2) 0 = 2) := wordE_putE (by have := redoE_nodup (wrN 1024); rwa [redoE_wrN] at this) 0 2 hin
          clear D7 hin
          unfold turnV at HP
          go_wp2_with fail
          refine (HP.out _).mono ?_
          rintro e W8 ⟨rfl, P8, D8⟩
          clear HP
          have HG : Hid (∀ o, Calls Tryd.prog 15 #[.pointer (some ⟨b, 0, none⟩), .int .u64 0] (W8.alloc o) fun e W' => e = .returned (.tuple #[turnV 2 2 2 0 2 true, .int .i64 0]) ∧ ∀ o, Du w (W'.alloc o) R (List.replicate 2000 0) 0 b rb db (wrN 1024 ++ [(0, 2)]) Ob P8 ((sdW 1024).writes (putE (wrN 1024) 0 2)) a ra da [] Ok Pa (sdR 1024)) := fun o => by
            have := get_own b rb db R _ Ob P8 ((sdW 1024).writes (putE (wrN 1024) 0 2)) (List.replicate 2000 0) 0 0 _ (D8 o).on (D8 o).tz rfl hwd.out.1
            rw [show wordE ((sdW 1024).writes (putE (wrN 1024) 0 2)).wr 0 = 2 from hwd.out.2] at this
            exact this.mono fun e W' ⟨h1, h2, h3⟩ => ⟨h1, fun o' => ((D8 o).same h2 h3.up).al o'⟩
          clear D8
          unfold turnV at HG
          go_wp2_with fail
          refine (HG.out _).mono ?_
          rintro e W9 ⟨rfl, D9⟩
          clear HG hwd
          have HP : Hid (∀ o, Calls Tryd.prog 11 #[.pointer (some ⟨b, 0, none⟩), .int .u64 2000, .int .u64 1] (W9.alloc o) fun e W' => e = .returned (.tuple #[turn0, .int .i64 4]) ∧ W'.heap[W9.heap.size]? = some o ∧ ∀ o, Du w (W'.alloc o) R (List.replicate 2000 0) 0 b rb db (wrN 1024 ++ [(0, 2)]) Ob P8 ((sdW 1024).writes (putE (wrN 1024) 0 2)) a ra da [] Ok Pa (sdR 1024)) := fun o =>
            (put_range b rb db R _ Ob P8 _ (List.replicate 2000 0) 0 2000 1 _ (D9 o).on (D9 o).tz rfl (by rw [List.length_replicate]; decide)).mono fun e W' ⟨h1, h2, h3⟩ => ⟨h1, h3.old (alloc_block W9 o) (fun f => f), fun o' => ((D9 o).same h2 h3.up).al o'⟩
          clear D9
          unfold turn0 turnV at HP
          go_wp2_with fail
          refine (HP.out _).mono ?_
          rintro e W10 ⟨rfl, b10, D10⟩
          clear HP
          have t1 : W10.cell? ⟨W9.heap.size, 1, none⟩ = some (.int .u64 2) := cell_of_block b10 1
          have hl9 : W9.heap.size < W10.heap.size := lt_of_block b10
          have HPh : Hid (∀ o, Calls Tryd.prog 17 #[.pointer (some ⟨a, 0, none⟩)] (W10.alloc o) fun e w' => e = .returned (.int .i64 1) ∧ w' = W10.alloc o) := fun o => phase_at a 1 _ ((D10 o).B.cell 5) (by decide)
          have HK : Hid (∀ o, Calls Tryd.prog 9 #[] (W10.alloc o) fun e w' => e = .returned (.bool true) ∧ Below w.heap.size w w') := fun o =>
            (HKN.out _ (D10 o).tz).mono fun e w' ⟨h1, h2⟩ => ⟨h1, ((D10 o).kp.trans h2).below w.heap.size (Nat.le_refl _) (fun _ f => f.elim)⟩
          clear D10 HKN b10
          go_wp2_with (first
            | (go_at_call 8; refine (hnum _ _).mono ?_; rintro e w' ⟨rfl, hw'⟩; replace hw' := hw'.symm; subst hw')
            | (go_at_call 17; refine (HPh.out _).mono ?_; rintro e w' ⟨rfl, hw'⟩; replace hw' := hw'.symm; subst hw')
            | (go_at_call 9; refine (HK.out _).mono ?_; rintro e w' ⟨rfl, hb⟩))
          go_ret
          exact ⟨rfl, hb⟩


set_option maxRecDepth 100000 in
theorem contract (H : Type) (enc : TypeId × Value → H) (W : World) (args : Array Value) (ds gs : List (DataW H)) (before : List MemPlace)
    (hW : DataW.Whole enc Tryd.prog Tryd.f4.params.toList Rows.attemptFullSpec.vars false W args.toList ds gs before) (hL : laidMetH Tryd.prog Rows.attemptFullRow.laid W) :
    Calls Tryd.prog 4 args W fun e W' => ∃ v, e = .returned v ∧ Rows.attemptFullSpec.post enc Tryd.prog Tryd.f4 false true false false W args v W' := by
  have hW' := hW
  obtain ⟨p, q, hA0, hV, rfl, hfz, hnd⟩ := hW
  have hA : DataW.TrodAll enc Tryd.prog W 0 (fun _ => true) true Tryd.f4.params.toList args.toList ds p := hA0
  rw [Tryd.params4] at hA
  obtain ⟨hargs, rfl, rfl⟩ := trodAll_nil hA
  obtain rfl : args = #[] := by cases args; simp_all
  obtain ⟨rfl, rfl⟩ := trodVars_none hV
  clear hA0
  simp only [List.append_nil] at hW'
  refine (law_walk W (tz_of hL)).mono fun e W' ⟨he, hg⟩ => ?_
  subst he
  exact ⟨_, rfl, _, _, _, [], _, [], hW', trodAll_mk1 (shut_bool Tryd.underlying4 _), trodAll_mk0, rfl, hg.frame _, fun h => by cases h⟩

theorem laid_met (os : Os) : laidMet Tryd.prog Rows.attemptFullRow.laid ((laidWorld os).forCall (fun _ _ => 0) ⟨#[], #[], []⟩).memory :=
  laidMet_of_run' 8 (by kernel_rfl) (by kernel_rfl)
theorem reads (os : Os) {H : Type} (enc : TypeId × Value → H) : ∃ places, DataW.whole enc Tryd.prog ((laidWorld os).forCall (fun _ _ => 0) ⟨#[], #[], []⟩).memory Tryd.f4.params.toList Rows.attemptFullSpec.vars false (#[] : Array Value).toList 8 = some ([], [], places) :=
  ⟨[], by kernel_rfl⟩

set_option maxRecDepth 100000 in
theorem lifted (os : Os) (started : os.Started) (H : Type) (enc : TypeId × Value → H) (F : Stop.Interp) :
    ReturnsInHanded {} Tryd.checked os 4 .any ((OpenSpec.ofChange Rows.attemptFullSpec).preRow enc Tryd.prog Tryd.f4 Rows.attemptFullRow.domain false Rows.attemptFullRow.laid) (((OpenSpec.ofChange Rows.attemptFullSpec).at F).post enc Tryd.prog Tryd.f4 false true false false) := by
  obtain ⟨places, hx⟩ := reads os enc
  refine returnsInHanded_of_row (C := Tryd.checked) (s := OpenSpec.ofChange Rows.attemptFullSpec) own started (by kernel_rfl) Tryd.func4
    (witness_row_at (enc := enc) (C := Tryd.checked) false (laidWorld os) #[] rfl (by kernel_rfl) (by kernel_rfl) (by kernel_rfl)
      (OpenSpec.preRow_of_cond 8 hx (by kernel_rfl) (fun k hk => by cases hk) (by kernel_rfl) (laid_met os))) ?_
  intro W base args ds gs before hval hW _ _ _ hL _ _
  exact contract H enc W args ds gs before hW hL

theorem said : Rows.AttemptFullSaid :=
  OpenClaim.holds_of_cond 4 Tryd.f4 rfl rfl rfl rfl rfl rfl rfl ⟨rfl, rfl, rfl, rfl, rfl⟩ rfl rfl rfl rfl rfl (by kernel_rfl) Tryd.func4 (by kernel_rfl)
    (of_decide_eq_true (by kernel_rfl)) (by unfold Func.isWrapper; first | (rw [if_pos (by decide +kernel)]; kernel_rfl) | (rw [if_neg (by decide +kernel)]; exact ⟨rfl, rfl⟩))
    (fun os started H enc _ F => by rw [OpenClaim.pre_eq_preRow]; exact lifted os started H enc F)

theorem plain (f : FuncId) (fn : Func) (hf : Tryd.pinned.checked.prog.funcNamed "parley/parleylaw07.AttemptFull" = some f) (hfn : Tryd.pinned.checked.prog.funcs[f]? = some fn) :
    false = Tryd.pinned.checked.prog.looks [] ∧ ∀ (j : Nat) t, fn.params[j]? = some t → Tryd.pinned.checked.prog.wantsStandIn t = false := by
  obtain rfl : f = 4 := Option.some.inj ((show Tryd.prog.funcNamed "parley/parleylaw07.AttemptFull" = some 4 by kernel_rfl).symm.trans hf) |>.symm
  obtain rfl : fn = Tryd.f4 := (Option.some.inj (Tryd.func4.symm.trans hfn)).symm
  refine ⟨by kernel_rfl, fun j t ht => ?_⟩
  rw [Tryd.params4] at ht
  simp at ht

theorem card : Rows.AttemptFullCardSaid :=
  Claim7.holds_tied_plain_at .later [] _ _ _ _ said (fun _ h => by cases h) (by kernel_rfl) (fun _ h => by cases h) attemptFull_row_tie rfl ⟨rfl, rfl⟩ (by kernel_rfl) rfl plain (by kernel_rfl)
end Go.Proofs.YtmhinalgjfiliaaDoor.attemptFull

namespace Go.Proofs.YtmhinalgjfiliaaDoor
theorem attemptFull_holds : Rows.AttemptFullCardSaid := attemptFull.card
end Go.Proofs.YtmhinalgjfiliaaDoor
