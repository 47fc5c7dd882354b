/-
  The walk of IndexMany. No statement of the seat is proved here.
-/
import Derived.Test.YtbhocajmcfdffaaDoorTells
import Derived.Deep.RegionHeld3
namespace Go.Proofs.YtbhocajmcfdffaaDoor
open Go.RowKit Go.Shelf

theorem putO_le (O : List Int) (k : Int) : (putO O k).length ≤ O.length + 1 := by
  unfold putO
  split <;> simp

/-- Two new tables are alike. -/
theorem pair_new {w w1 w2 : World} {Ot Or : Nat → Prop} {bt br : Nat} {uf : Int → Int} (hHt : U.Holds w1 bt 3 (List.replicate 8 none) [] (wv uf) Ot) (hOt : ∀ q, Ot q → w.heap.size ≤ q) (hk1 : Keeps (fun _ => False) w w1)
    (hHr : R.Holds w2 br 3 (List.replicate 8 none) [] uf Or) (hOr : ∀ q, Or q → w1.heap.size ≤ q) (hk2 : Keeps (fun _ => False) w1 w2) : Pair w w2 bt br 3 (List.replicate 8 none) [] uf Ot Or :=
  ⟨hHt.kept hk2 (fun _ _ f => f), hHr, hOt, fun q hq => Nat.le_trans hk1.size (hOr q hq), fun q hq hu => by
      have := hHt.lt hq
      have := hOr q hu
      omega, (hk1.trans hk2).below _ (Nat.le_refl _) (fun _ f => f.elim)⟩

set_option maxRecDepth 100000 in
set_option maxHeartbeats 2000000 in
theorem many_walk (vp vt : Value) (ps ts : List Int) (w : World) (hw : Tz w) (hp : Reads w vp ps) (ht : Reads w vt ts) (hlp : ps.length < 4398046511000) :
    Calls Tryd.prog 4 #[vp, vt] w fun e w' => e = .returned (.bool true) ∧ Below w.heap.size w w' := by
  have hlt0 := ht.1
  go_enter Tryd.func4, Tryd.ntmps4
  go_wp2_with fail
  refine (U.hold_new (wv (fun _ => 0)) w).mono ?_
  rintro e w1 ⟨rfl, ⟨Ot, hHt, hOt⟩, hk1⟩
  go_wp2_with fail
  refine (R.hold_new (fun _ => 0) w1).mono ?_
  rintro e w2 ⟨rfl, ⟨Or, hHr, hOr⟩, hk2⟩
  have hP := pair_new hHt hOt hk1 hHr hOr hk2
  clear hHt hHr hOt hOr hk1 hk2
  generalize w.heap.size + 2 = bt at *
  generalize w1.heap.size + 1 = br at *
  obtain ⟨ap, cp, rfl⟩ := hp.form
  obtain ⟨at', ct, rfl⟩ := ht.form
  go_wp2_with fail
  go_loopw [7] (fun i wr => ∃ (k p : Nat) (K : List (Option Int)) (O : List Int) (uf : Int → Int) (Ot Or : Nat → Prop), k ≤ ps.length ∧ i = .int .i64 k ∧ O.length ≤ k ∧ Pair w wr bt br p K O uf Ot Or) (fun i _ => ps.length - (intOf i).toNat)
  case atStart => exact ⟨0, 3, _, _, _, _, _, by omega, rfl, by simp, hP⟩
  case round =>
    obtain ⟨k, p, K, O, uf, Ot, Or, hk, rfl, hOk, hP1⟩ := hrel
    clear hP
    by_cases hlt : k < ps.length
    · obtain ⟨g, off, rfl, _⟩ := hp.at hlt
      have HC : Hid (∀ W, Below w.heap.size w W → W.cell? ⟨g, off + k, none⟩ = some (.int .u64 (oat ps k))) := fun W hb => by
        obtain ⟨g2, o2, e, hc⟩ := (hp.below hb).at hlt
        injection e with e
        injection e with e1 e2
        subst e1 e2
        exact hc
      have hc := HC.out _ hP1.below
      generalize oat ps k = x at hc HC
      have hput := plays_put w wr bt br p K O uf Ot Or hP1 hw 0 0 0 x k (by omega)
      have hlen := putO_le O x
      have hw64 : IntKind.u64.wrap (k : Int) = k := by rw [IntKind.wrap_u64]; omega
      unfold stepV stepC at hput
      clear hc
      have hc := HC.out _ hP1.below
      by_cases hl2 : k < ts.length
      · obtain ⟨g', off', rfl, _⟩ := ht.at hl2
        have HD : Hid (∀ W, Below w.heap.size w W → W.cell? ⟨g', off' + k, none⟩ = some (.int .u64 (oat ts k))) := fun W hb => by
          obtain ⟨g2, o2, e, hc⟩ := (ht.below hb).at hl2
          injection e with e
          injection e with e1 e2
          subst e1 e2
          exact hc
        generalize oat ts k = y at HD
        go_wp2_with fail
        refine hput.mono ?_
        rintro e w3 ⟨rfl, Ot', Or', hP3, _⟩
        have hd := HD.out _ hP3.below
        have htake := plays_take w w3 bt br _ _ _ _ _ _ hP3 hw 0 0 0 y 0
        unfold stepV stepC at htake
        have hfl := List.length_filter_le (fun q => decide (q ≠ y)) (putO O x)
        clear hput hc
        go_wp2_with fail
        refine htake.mono ?_
        rintro e w4 ⟨rfl, Ot2, Or2, hP4, _⟩
        clear htake hd
        go_wp2_with fail
        go_roundw
        case rel => exact ⟨k + 1, _, _, _, _, _, _, by omega, by go_num, by omega, hP4⟩
        case measure => simp [intOf]; omega
      · go_wp2_with fail
        refine hput.mono ?_
        rintro e w3 ⟨rfl, Ot', Or', hP3, _⟩
        clear hput hc
        go_wp2_with fail
        go_roundw
        case rel => exact ⟨k + 1, _, _, _, _, _, _, by omega, by go_num, by omega, hP3⟩
        case measure => simp [intOf]; omega
    · obtain rfl : k = ps.length := by omega
      clear hlt hk
      go_wp2_with fail
      obtain ⟨W1, hW1⟩ : ∃ W, W = wr := ⟨_, rfl⟩
      subst hW1
      go_loopw [8] (fun i wr => ∃ (k : Nat), k ≤ ps.length ∧ i = .int .i64 k ∧ Pair w wr bt br p K O uf Ot Or) (fun i _ => ps.length - (intOf i).toNat)
      case atStart => exact ⟨0, by omega, rfl, hP1⟩
      case round =>
        clear hP1
        obtain ⟨k, hk, rfl, hP1⟩ := hrel
        by_cases hlt : k < ps.length
        · obtain ⟨g, off, rfl, hc⟩ := (hp.below hP1.below).at hlt
          obtain ⟨x, hx⟩ : ∃ x, oat ps k = x := ⟨_, rfl⟩
          rw [hx] at hc
          have HCx : Hid (∀ W, Below w.heap.size w W → W.cell? ⟨g, off + k, none⟩ = some (.int .u64 x)) := fun W hb => by
            obtain ⟨g2, o2, e, hc⟩ := (hp.below hb).at hlt
            injection e with e
            injection e with e1 e2
            subst e1 e2
            rw [hc, hx]
          have ha : ∀ W, (Pair w W bt br p K O uf Ot Or ∧ W.cell? ⟨g, off + k, none⟩ = some (.int .u64 x)) → Calls Tryd.prog 17 #[.pointer (some ⟨bt, 0, none⟩), .int .u64 x] W fun e w' => e = .returned (.int .i64 (lookN (2 ^ p) K (homeP p x) x + 1 : Nat)) ∧ w' = W :=
            fun W h => U.hold_asked bt _ _ _ _ _ x W h.1.t (hw.below h.1.below)
          have hb : ∀ W, (Pair w W bt br p K O uf Ot Or ∧ W.cell? ⟨g, off + k, none⟩ = some (.int .u64 x)) → Calls Tryd.prog 18 #[.pointer (some ⟨br, 0, none⟩), .int .u64 x] W fun e w' => e = .returned (.int .i64 (lookN (2 ^ p) K (homeP p x) x + 1 : Nat)) ∧ w' = W :=
            fun W h => R.hold_asked br _ _ _ _ _ x W h.1.r
          have hg : ∀ W, (Pair w W bt br p K O uf Ot Or ∧ W.cell? ⟨g, off + k, none⟩ = some (.int .u64 x)) → Calls Tryd.prog 14 #[.pointer (some ⟨bt, 0, none⟩), .pointer (some ⟨br, 0, none⟩), .agg #[.int .i64 2, .int .i64 0, .int .i64 0, .int .i64 0, .int .u64 x, .int .u64 0]] W fun e w' => e = .returned (.bool true) ∧ (Pair w w' bt br p K O uf Ot Or ∧ w'.cell? ⟨g, off + k, none⟩ = some (.int .u64 x)) :=
            fun W h => (plays_get w W bt br p K O uf Ot Or h.1 hw 0 0 0 x 0).mono fun e w' ⟨h1, h2, _⟩ => ⟨h1, h2, HCx.out _ h2.below⟩
          have hS0 : Pair w wr.drew bt br p K O uf Ot Or ∧ wr.drew.cell? ⟨g, off + k, none⟩ = some (.int .u64 x) := ⟨hP1.like ⟨rfl, rfl, rfl, rfl⟩, hc⟩
          generalize lookN (2 ^ p) K (homeP p x) x + 1 = L at *
          clear hP1 hc HCx
          go_wp2_with fail
          go_region_held3 (fun W => Pair w W bt br p K O uf Ot Or ∧ W.cell? ⟨g, off + k, none⟩ = some (.int .u64 x)) (assumption)
            (first
            | (go_at_call 17; refine (ha _ (by assumption)).mono ?_; rintro e w6 ⟨rfl, rfl⟩)
            | (go_at_call 18; refine (hb _ (by assumption)).mono ?_; rintro e w6 ⟨rfl, rfl⟩)
            | (go_at_call 14; refine (hg _ (by assumption)).mono ?_; rintro e w6 ⟨rfl, hS6⟩))
          clear ha hb hg
          go_wp2_with fail
          go_roundw
          case rel => exact ⟨k + 1, by omega, by go_num, hS6.1⟩
          case measure => simp [intOf]; omega
        · obtain rfl : k = ps.length := by omega
          have htl := tells_at w wr bt br p K O uf Ot Or hP1 hw 0 (by omega)
          go_wp2_with fail
          refine htl.mono ?_
          rintro e w7 ⟨rfl, hb7⟩
          have hB7 := (hP1.both hb7).below
          go_wp2_with fail
          refine (known_any w7 (hw.below hB7)).mono ?_
          rintro e w8 ⟨rfl, hk8⟩
          have hb8 := hk8.below _ (Nat.le_refl _) (fun _ f => f.elim)
          go_wp2_with fail
          go_ret
          exact ⟨rfl, hB7.trans (hb8.mono hB7.size)⟩
end Go.Proofs.YtbhocajmcfdffaaDoor
