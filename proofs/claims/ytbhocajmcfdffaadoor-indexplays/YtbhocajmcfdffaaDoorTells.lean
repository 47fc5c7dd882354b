/-
  The walk of the law's 'tells' at two tables that are alike. No statement of the seat is proved here.
-/
import Derived.Test.YtbhocajmcfdffaaDoorGoesA
import Derived.Laws.OwnMore
namespace Go.Proofs.YtbhocajmcfdffaaDoor
open Go.RowKit Go.Shelf

set_option maxRecDepth 100000 in
set_option maxHeartbeats 4000000 in
theorem tells_at (w W : World) (bt br p : Nat) (K : List (Option Int)) (O : List Int) (uf : Int → Int) (Ot Or : Nat → Prop) (h : Pair w W bt br p K O uf Ot Or) (hw : Tz w) (key : Int) (hO : O.length < 4398046511000) :
    Calls Tryd.prog 15 #[.pointer (some ⟨bt, 0, none⟩), .pointer (some ⟨br, 0, none⟩), .int .u64 key] W fun e W' => e = .returned (.bool true) ∧ Below W.heap.size W W' := by
  have hk1 := U.hold_keys bt p K O (wv uf) Ot W h.t
  go_enter Tryd.func15, Tryd.ntmps15
  go_wp2_with fail
  refine hk1.mono ?_
  rintro e W1 ⟨va, rfl, ha1, hb1⟩
  have hP1 := h.both hb1
  have hza := fun q (hq : some q = va.ownBlock) => ha1.lt q hq.symm
  obtain ⟨aa, ca, rfl⟩ := R.row_form ha1
  have hk2 := U.hold_keys bt p K O (wv uf) Ot W1 hP1.t
  go_wp2_with fail
  refine hk2.mono ?_
  rintro e W2 ⟨vb, rfl, ha2, hb2⟩
  have hP2 := hP1.both hb2
  have hzb := fun q (hq : some q = vb.ownBlock) => ha2.lt q hq.symm
  obtain ⟨ab, cb, rfl⟩ := R.row_form ha2
  have hrb : Reads W2 (.slice ab O.length cb) O := reads_own (by omega) ha2
  have hra2 : W2.ownsRow W.heap.size 25 1 (.slice aa O.length ca) O.length (wordsV O) := R.row_of_block ha1 (fun q hq => hb2.block q (hza q hq).2)
  have hra : Reads W2 (.slice aa O.length ca) O := reads_own (by omega) hra2
  have hkr := R.hold_keys br p K O uf Or W2 hP2.r
  go_wp2_with fail
  refine hkr.mono ?_
  rintro e W2' ⟨vr, rfl, hW2', hrr, hOr⟩
  replace hW2' := hW2'.symm
  subst hW2'
  obtain ⟨ar, cr, rfl⟩ := hrr.form
  go_wp2_with fail
  refine (same_at _ _ O W2 hra hrr).mono ?_
  rintro e W3 ⟨rfl, m3, hW3⟩
  subst hW3
  have hP3 := hP2.like (like_drewN W2 m3)
  have q1 := U.hold_len bt p K O (wv uf) Ot _ hP3.t
  have q2 := R.hold_len br p K O uf Or _ hP3.r
  have q3 := U.hold_slots bt p K O (wv uf) Ot _ hP3.t
  have q4 := R.hold_slots br p K O uf Or _ hP3.r
  have q5 := U.hold_asked bt p K O (wv uf) Ot key _ hP3.t (hw.below hP3.below)
  have q6 := R.hold_asked br p K O uf Or key _ hP3.r
  have hra3 : (W2.drewN m3).ownsRow W.heap.size 25 1 (.slice aa O.length ca) O.length (wordsV O) := hra2
  have hrb3 : Reads (W2.drewN m3) (.slice ab O.length cb) O := hrb
  have hzs : (W2.drewN m3).heap.size = W2.heap.size := rfl
  have hzh : (W2.drewN m3).heap = W2.heap := rfl
  have hBW : Below W.heap.size W (W2.drewN m3) := by
    have := hb1.trans (hb2.mono hb1.size)
    exact ⟨this.os, this.tape, this.output, this.size, this.block⟩
  generalize W2.drewN m3 = W3 at *
  generalize 2 ^ p = P2 at q3 q4
  generalize lookN (2 ^ p) K (homeP p key) key + 1 = L at q5 q6
  go_wp2_with (first
    | (go_at_call 59; refine q1.mono ?_; rintro e w' ⟨rfl, hw'⟩; replace hw' := hw'.symm; subst hw')
    | (go_at_call 21; refine q2.mono ?_; rintro e w' ⟨rfl, hw'⟩; replace hw' := hw'.symm; subst hw')
    | (go_at_call 49; refine q3.mono ?_; rintro e w' ⟨rfl, hw'⟩; replace hw' := hw'.symm; subst hw')
    | (go_at_call 50; refine q4.mono ?_; rintro e w' ⟨rfl, hw'⟩; replace hw' := hw'.symm; subst hw')
    | (go_at_call 17; refine q5.mono ?_; rintro e w' ⟨rfl, hw'⟩; replace hw' := hw'.symm; subst hw')
    | (go_at_call 18; refine q6.mono ?_; rintro e w' ⟨rfl, hw'⟩; replace hw' := hw'.symm; subst hw'))
  clear q1 q2 q3 q4 q5 q6 hk1 hk2 hkr hra hrr
  have HA : Hid (∀ q, some q = (Value.slice aa O.length ca).ownBlock → W.heap.size ≤ q ∧ q < W1.heap.size) := hza
  have HB : Hid (∀ q, some q = (Value.slice ab O.length cb).ownBlock → W1.heap.size ≤ q ∧ q < W3.heap.size) := fun q hq => ⟨(hzb q hq).1, by rw [hzs]; exact (hzb q hq).2⟩
  have HR : Hid (W3.ownsRow W1.heap.size 25 1 (.slice ab O.length cb) O.length (wordsV O)) := R.row_of_block ha2 (fun q hq => by rw [hzh])
  clear hza hzb ha1 ha2 hra2 hrb
  go_loopw [9] (fun i wr => ∃ (k : Nat) (L : List Int), k ≤ O.length ∧ i = .int .i64 k ∧ L.length = O.length ∧ wr.ownsRow W.heap.size 25 1 (.slice aa O.length ca) O.length (wordsV L) ∧ Keeps (fun q => W.heap.size ≤ q ∧ q < W1.heap.size) W3 wr) (fun i _ => O.length - (intOf i).toNat)
  case atStart => exact ⟨0, O, by omega, rfl, rfl, hra3, Keeps.refl _ _⟩
  case round =>
    clear hra3
    obtain ⟨k, L, hk, rfl, hL, hrow, hK⟩ := hrel
    by_cases hlt : k < O.length
    · obtain ⟨g, hav⟩ : ∃ g, aa = some ⟨g, 0, none⟩ := by
        rcases hrow.2 with ⟨_, h2⟩ | ⟨g, cap, cur, h1, _⟩
        · omega
        · injection h1 with e
          exact ⟨g, e⟩
      subst hav
      have hcell := hrow.cellAt k (by omega)
      have hfz := hrow.frozenAt k
      have hst := hrow.stored k (.int .u64 99)
      have hHA := HA.out g rfl
      rw [show (wordsV L)[k]? = some (.int .u64 (oat L k)) by simp [wordsV, oat, hL, hlt]] at hcell
      have HT : Hid (∀ X, Like X (wr.setCell ⟨g, k, none⟩ (.int .u64 99)) → X.ownsRow W.heap.size 25 1 (.slice (some ⟨g, 0, none⟩) O.length ca) O.length (wordsV (L.set k 99)) ∧ Keeps (fun q => W.heap.size ≤ q ∧ q < W1.heap.size) W3 X) := fun X hX => by
        have hq := hst.1
        rw [show (wordsV L).set k (.int .u64 99) = wordsV (L.set k 99) by simp [wordsV, List.map_set]] at hq
        exact ⟨R.row_of_block hq (fun q _ => by rw [hX.heap]), hX.keeps (hK.setCell (p := ⟨g, k, none⟩) (.inr hHA) _)⟩
      have hL2 : (L.set k 99).length = O.length := by simp [hL]
      clear hst hHA hrow hK
      go_wp2_with fail
      go_roundw
      case rel => exact ⟨k + 1, _, by omega, by go_num, hL2, HT.out _ ⟨rfl, rfl, rfl, rfl⟩⟩
      case measure => simp [intOf]; omega
    · obtain rfl : k = O.length := by omega
      go_wp2_with fail
      have hL0 : L.length = O.length + 0 := hL
      clear hlt
      go_loopw [7, 10] (fun a i wr => ∃ (k : Nat) (L : List Int), k ≤ 40 ∧ i = .int .i64 k ∧ L.length = O.length + k ∧ wr.ownsRow W.heap.size 25 1 a L.length (wordsV L) ∧ (∀ q, some q = a.ownBlock → q < W1.heap.size ∨ W3.heap.size ≤ q) ∧ Keeps (fun q => W.heap.size ≤ q ∧ q < W1.heap.size) W3 wr) (fun _ i _ => 40 - (intOf i).toNat)
      case atStart => exact ⟨0, L, by omega, rfl, hL0, by rw [hL]; exact hrow, fun q hq => .inl (HA.out q hq).2, hK⟩
      case round =>
        clear hrow hK hL hL0
        obtain ⟨k, L, hk, rfl, hL, hrow, hv, hK⟩ := hrel
        by_cases hlt : k < 40
        · obtain ⟨a, c, rfl⟩ := R.row_form hrow
          have hwz := hBW.size
          have hkz := hK.size
          obtain ⟨g, cap, w1, hr, ho, hg, hgb⟩ := R.append_word 99 hrow (by omega) (by omega)
          have hlt' := fun q hq => hrow.lt q hq
          have hKs : Keeps (fun q => W.heap.size ≤ q ∧ q < W1.heap.size) W3 w1 := (hK.alloc (.cells #[.int .u64 99] 25)).step (T := fun q => some q = (Value.slice a L.length c).ownBlock) ⟨hg.os, hg.tape, hg.output, hg.size, fun q hq hne => hg.block q hq hne⟩ (fun q hq e => by
            rcases hv q e with h1 | h1
            · exact ⟨(hlt' q e.symm).1, h1⟩
            · omega)
          have hv' : ∀ q, some q = (Value.slice (some ⟨g, 0, none⟩) (L.length + 1) cap).ownBlock → q < W1.heap.size ∨ W3.heap.size ≤ q := fun q hq => by
            simp [Value.ownBlock] at hq
            subst hq
            rcases hgb with e | e
            · exact hv _ e.symm
            · exact .inr (by omega)
          have HE : Hid (w1.ownsRow W.heap.size 25 1 (.slice (some ⟨g, 0, none⟩) (L.length + 1) cap) (L ++ [99]).length (wordsV (L ++ [99]))) := ho
          have hL2 : (L ++ [99]).length = O.length + (k + 1) := by simp; omega
          have HRR : Hid (_ = _) := hr
          clear hr ho hg hgb hrow hv hK hlt'
          go_wp2_with (at_builtin; refine R.wpList_append_run rfl _ _ 37 rfl rfl rfl HRR.out ?_; clear HRR)
          go_roundw
          case rel => exact ⟨k + 1, L ++ [99], by omega, by go_num, hL2, by rw [← hL]; exact HE.out, by rw [← hL]; exact hv', hKs⟩
          case measure => simp [intOf]; omega
        · obtain rfl : k = 40 := by omega
          obtain ⟨a, c, rfl⟩ := R.row_form hrow
          have hB5 : Below W.heap.size W wr := hBW.trans (hK.below _ hBW.size (fun q hq => hq.1))
          have hP5 := h.both hB5
          have hrb5 : Reads wr (.slice ab O.length cb) O := reads_own (by omega) (R.row_of_block HR.out (fun q hq => hK.block q (HB.out q hq).2 (fun e => by have := HB.out q hq; omega)))
          have hkr := R.hold_keys br p K O uf Or wr hP5.r
          clear hrow hv hK hP1 hP2 hP3 hrb3
          have hLl : (40 : Int) ≤ (L.length : Int) := by omega
          go_wp2_with fail
          refine hkr.mono ?_
          rintro e W6 ⟨vr, rfl, hW6, hrr, hOr⟩
          replace hW6 := hW6.symm
          subst hW6
          obtain ⟨ar, cr, rfl⟩ := hrr.form
          go_wp2_with fail
          refine (same_at _ _ O _ hrb5 hrr).mono ?_
          rintro e W7 ⟨rfl, m7, hW7⟩
          subst hW7
          have hP7 := hP5.like (like_drewN _ m7)
          have hg := goes_a w _ bt br p K O uf Ot Or hP7 0 (by decide)
          go_wp2_with fail
          refine hg.mono ?_
          rintro e W8 ⟨rfl, hb8⟩
          go_wp2_with fail
          go_ret
          exact ⟨rfl, hB5.trans (⟨hb8.os, hb8.tape, hb8.output, hb8.size, fun q hq => hb8.block q (by have := hB5.size; show q < wr.heap.size; omega)⟩)⟩
end Go.Proofs.YtbhocajmcfdffaaDoor
