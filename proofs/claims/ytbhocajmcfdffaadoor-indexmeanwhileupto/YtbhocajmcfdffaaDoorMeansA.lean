/-
  The walk of IndexMeans over inputs that lie in memory. The statement itself is not proved here.
-/
import Derived.Test.YtbhocajmcfdffaaDoorLookLe
import Derived.Test.YtbhocajmcfdffaaDoorHoldGI
import Derived.Test.YtbhocajmcfdffaaDoorHoldS
import Derived.Test.YtbhocajmcfdffaaDoorKnown
namespace Go.Proofs.YtbhocajmcfdffaaDoor
open Go.RowKit Go.Shelf

/-- Two tables with the same keys in the same slots, apart, all made since a world. -/
structure Two (w0 W : World) (bt bu p : Nat) (K : List (Option Int)) (O : List Int) (vf uf : Int → Value) (Ot Ou : Nat → Prop) : Prop where
  t : I.Holds W bt p K O vf Ot
  u : S.Holds W bu p K O uf Ou
  bt : ∀ q, Ot q → w0.heap.size ≤ q
  bu : ∀ q, Ou q → w0.heap.size ≤ q
  apart : ∀ q, Ot q → ¬ Ou q
  below : Below w0.heap.size w0 W

theorem Tz.below {w w' : World} (h : Tz w) (hb : Below w.heap.size w w') : Tz w' := fun i hi =>
  (hb.cell (p := ⟨0, i, none⟩) (World.block_lt_of_cell? _ _ (h i hi))).trans (h i hi)
section
variable {w W : World} {bt bu p : Nat} {K : List (Option Int)} {O : List Int} {vf uf : Int → Value} {Ot Ou : Nat → Prop}
theorem Two.post (h : Two w W bt bu p K O vf uf Ot Ou) (h1 : 0 < w.heap.size) : ∀ q, Ot q → 0 < q := fun q hq => Nat.lt_of_lt_of_le h1 (h.bt q hq)
theorem Two.posu (h : Two w W bt bu p K O vf uf Ot Ou) (h1 : 0 < w.heap.size) : ∀ q, Ou q → 0 < q := fun q hq => Nat.lt_of_lt_of_le h1 (h.bu q hq)
/-- Both tables are turned, one behind the other. -/
theorem Two.step (h : Two w W bt bu p K O vf uf Ot Ou) {W1 W2 : World} {p' : Nat} {K' : List (Option Int)} {O' : List Int} {vf' uf' : Int → Value} {Ot' Ou' : Nat → Prop}
    (ht : I.Holds W1 bt p' K' O' vf' Ot') (hot : ∀ q, Ot' q → Ot q ∨ W.heap.size ≤ q) (hk1 : Keeps Ot W W1) (hu : S.Holds W2 bu p' K' O' uf' Ou') (hou : ∀ q, Ou' q → Ou q ∨ W1.heap.size ≤ q) (hk2 : Keeps Ou W1 W2) :
    Two w W2 bt bu p' K' O' vf' uf' Ot' Ou' := by
  have hsz := h.below.size
  have hs1 := hk1.size
  have hap : ∀ q, Ot' q → ¬ Ou q := fun q hq hu => by
    rcases hot q hq with h1 | h1
    · exact h.apart q h1 hu
    · have := h.u.lt hu; omega
  refine ⟨ht.kept hk2 hap, hu, fun q hq => ?_, fun q hq => ?_, fun q hq hu => ?_, (h.below.trans (hk1.below _ hsz h.bt)).trans (hk2.below _ (by omega) h.bu)⟩
  · rcases hot q hq with h1 | h1
    · exact h.bt q h1
    · omega
  · rcases hou q hq with h1 | h1
    · exact h.bu q h1
    · omega
  · rcases hou q hu with h1 | h1
    · exact hap q hq h1
    · have := ht.lt hq; omega
theorem Two.mid (h : Two w W bt bu p K O vf uf Ot Ou) {W1 : World} (hk1 : Keeps Ot W W1) : S.Holds W1 bu p K O uf Ou ∧ Below w.heap.size w W1 :=
  ⟨h.u.kept hk1 (fun q hu ht => h.apart q ht hu), h.below.trans (hk1.below _ h.below.size h.bt)⟩
end
theorem putO_mem (O : List Int) (k : Int) : k ∈ putO O k := by
  unfold putO
  split
  · assumption
  · simp
theorem putO_len (O : List Int) (k : Int) : (putO O k).length ≤ O.length + 1 := by
  unfold putO
  split <;> simp
theorem mem_taken (O : List Int) (k : Int) : ¬ k ∈ O.filter (fun q => decide (q ≠ k)) := by simp

set_option maxRecDepth 100000 in
set_option maxHeartbeats 1000000 in
theorem means_walk (vp vt : Value) (ps ts : List Int) (w : World) (hw : Tz w) (h1 : 0 < w.heap.size) (hp : Reads w vp ps) (ht : Reads w vt ts) (hlp : ps.length < 17592186044416) :
    Calls Tryd.prog 6 #[vp, vt] w fun e w' => e = .returned (.bool true) ∧ Below w.heap.size w w' := by
  have hlt0 := ht.1
  go_enter Tryd.func6, Tryd.ntmps6
  go_wp2_with fail
  refine (known_any w hw).mono ?_
  rintro e w1 ⟨rfl, hk1⟩
  go_wp2_with fail
  refine (I.hold_new (fun _ => .int .i64 0) w1).mono ?_
  rintro e w2 ⟨rfl, ⟨Ot, hHt, hOt⟩, hk2⟩
  go_wp2_with fail
  refine (S.hold_new (fun _ => .string (ByteArray.mk #[])) w2).mono ?_
  rintro e w3 ⟨rfl, ⟨Ou, hHu, hOu⟩, hk3⟩
  have hT : Two w w3 (w1.heap.size + 2) (w2.heap.size + 2) 3 (List.replicate 8 none) [] (fun _ => .int .i64 0) (fun _ => .string (ByteArray.mk #[])) Ot Ou :=
    ⟨hHt.kept hk3 (fun _ _ f => f), hHu, fun q hq => Nat.le_trans hk1.size (hOt q hq), fun q hq => Nat.le_trans (Nat.le_trans hk1.size hk2.size) (hOu q hq), fun q hq hu => by
      have := hHt.lt hq
      have := hOu q hu
      omega, ((hk1.trans hk2).trans hk3).below _ (Nat.le_refl _) (fun _ f => f.elim)⟩
  clear hHt hHu hOt hOu hk1 hk2 hk3
  generalize w1.heap.size + 2 = bt at *
  generalize w2.heap.size + 2 = bu at *
  obtain ⟨ap, cp, rfl⟩ := hp.form
  obtain ⟨at', ct, rfl⟩ := ht.form
  go_wp2_with fail
  go_loopw [7] (fun i wr => ∃ (k p : Nat) (K : List (Option Int)) (O : List Int) (vf uf : Int → Value) (Ot Ou : Nat → Prop), k ≤ ps.length ∧ i = .int .i64 k ∧ O.length ≤ k ∧ Two w wr bt bu p K O vf uf Ot Ou) (fun i _ => ps.length - (intOf i).toNat)
  case atStart => exact ⟨0, 3, _, _, _, _, _, _, by omega, rfl, by simp, hT⟩
  case round =>
    obtain ⟨k, p, K, O, vf, uf, Ot, Ou, hk, rfl, hOk, hT1⟩ := hrel
    clear hT
    by_cases hlt : k < ps.length
    · obtain ⟨g, off, rfl, _⟩ := hp.at hlt
      have HC : Hid (∀ W, Below w.heap.size w W → W.cell? ⟨g, off + k, none⟩ = some (.int .u64 (oat ps k))) := fun W hb => by
        obtain ⟨g2, o2, e, hc⟩ := (hp.below hb).at hlt
        injection e with e
        injection e with e1 e2
        subst e1 e2
        exact hc
      have hwr := hw.below hT1.below
      have hc := HC.out _ hT1.below
      generalize oat ps k = x at hc HC
      go_wp2_with fail
      refine (I.hold_put bt p K O vf Ot x k wr hT1.t hwr (hT1.post h1) (by omega)).mono ?_
      rintro e w4 ⟨rfl, ⟨Ot', hHt, hOt⟩, hK4⟩
      obtain ⟨hu4, hb4⟩ := hT1.mid hK4
      have hc4 := HC.out w4 hb4
      have hw4 := hw.below hb4
      generalize (if x ∈ O then vf x else _) = r1
      generalize decide (x ∈ O) = d1
      go_wp2_with fail
      refine (S.hold_put bu p K O uf Ou x _ w4 hu4 hw4 (hT1.posu h1) (by omega)).mono ?_
      rintro e w5 ⟨rfl, ⟨Ou', hHu, hOu⟩, hK5⟩
      have hT5 := hT1.step hHt hOt hK4 hHu hOu hK5
      have hw5 := hw.below hT5.below
      have hc5 := HC.out w5 hT5.below
      generalize (if x ∈ O then uf x else _) = r2
      generalize decide (x ∈ O) = d2
      have hget := I.hold_get bt _ _ _ _ _ x w5 hT5.t hw5
      rw [if_pos (putO_mem O x), decide_eq_true (putO_mem O x), upd_same] at hget
      have hlen := putO_len O x
      clear hc hc4 hu4 hHt hHu hT1 HC
      go_wp2_with fail
      refine hget.mono ?_
      rintro e w6 ⟨rfl, hw6⟩
      replace hw6 := hw6.symm
      subst hw6
      go_wp2_with fail
      go_roundw
      case rel => exact ⟨k + 1, _, _, _, _, _, _, _, by omega, by go_num, by omega, hT5⟩
      case measure => simp [intOf]; omega
    · obtain rfl : k = ps.length := by omega
      clear hlt hk
      go_wp2_with fail
      obtain ⟨W1, hW1⟩ : ∃ W, W = wr := ⟨_, rfl⟩
      subst hW1
      go_loopw [10] (fun i wr => ∃ (k p : Nat) (K : List (Option Int)) (O : List Int) (vf uf : Int → Value) (Ot Ou : Nat → Prop), k ≤ ts.length ∧ i = .int .i64 k ∧ O.length ≤ ps.length ∧ Two w wr bt bu p K O vf uf Ot Ou) (fun i _ => ts.length - (intOf i).toNat)
      case atStart => exact ⟨0, _, _, _, _, _, _, _, by omega, rfl, hOk, hT1⟩
      case round =>
        clear hT1 hOk
        obtain ⟨k, p, K, O, vf, uf, Ot, Ou, hk, rfl, hOk, hT1⟩ := hrel
        by_cases hlt : k < ts.length
        · obtain ⟨g, off, rfl, _⟩ := ht.at hlt
          have HC : Hid (∀ W, Below w.heap.size w W → W.cell? ⟨g, off + k, none⟩ = some (.int .u64 (oat ts k))) := fun W hb => by
            obtain ⟨g2, o2, e, hc⟩ := (ht.below hb).at hlt
            injection e with e
            injection e with e1 e2
            subst e1 e2
            exact hc
          have hwr := hw.below hT1.below
          have hc := HC.out _ hT1.below
          generalize oat ts k = x at hc HC
          have hget1 := I.hold_get bt _ _ _ _ _ x wr hT1.t hwr
          have htake := I.hold_take bt _ _ _ _ _ x wr hT1.t hwr (hT1.post h1)
          generalize (if x ∈ O then vf x else _) = r1 at hget1 htake
          generalize decide (x ∈ O) = d1 at hget1 htake
          go_wp2_with fail
          refine hget1.mono ?_
          rintro e w4 ⟨rfl, hw4⟩
          replace hw4 := hw4.symm
          subst hw4
          go_wp2_with fail
          refine htake.mono ?_
          rintro e w4 ⟨rfl, ⟨Ot', hHt, hOt⟩, hK4⟩
          obtain ⟨hu4, hb4⟩ := hT1.mid hK4
          have hc4 := HC.out w4 hb4
          have hw4 := hw.below hb4
          go_wp2_with fail
          refine (S.hold_take bu p K O uf Ou x w4 hu4 hw4 (hT1.posu h1)).mono ?_
          rintro e w5 ⟨rfl, ⟨Ou', hHu, hOu⟩, hK5⟩
          have hT5 := hT1.step hHt (fun q hq => .inl (hOt q hq)) hK4 hHu (fun q hq => .inl (hOu q hq)) hK5
          have hw5 := hw.below hT5.below
          have hc5 := HC.out w5 hT5.below
          generalize (if x ∈ O then uf x else _) = r2
          generalize decide (x ∈ O) = d2
          have hget := I.hold_get bt _ _ _ _ _ x w5 hT5.t hw5
          rw [if_neg (mem_taken O x), decide_eq_false (mem_taken O x)] at hget
          have hlen := List.length_filter_le (fun q => decide (q ≠ x)) O
          clear hc hc4 hu4 hHt hHu hT1 HC
          go_wp2_with fail
          refine hget.mono ?_
          rintro e w6 ⟨rfl, hw6⟩
          replace hw6 := hw6.symm
          subst hw6
          go_wp2_with fail
          go_roundw
          case rel => exact ⟨k + 1, _, _, _, _, _, _, _, by omega, by go_num, by omega, hT5⟩
          case measure => simp [intOf]; omega
        · obtain rfl : k = ts.length := by omega
          clear hlt hk
          go_wp2_with fail
          obtain ⟨W2, hW2⟩ : ∃ W, W = wr := ⟨_, rfl⟩
          subst hW2
          go_loop [17] (fun i => ∃ k : Nat, k ≤ ps.length ∧ i = .int .i64 k) (fun i => ps.length - (intOf i).toNat)
          case atStart => exact ⟨0, by omega, rfl⟩
          case round =>
            obtain ⟨k, hk, rfl⟩ := hrel
            have hwr := hw.below hT1.below
            by_cases hlt : k < ps.length
            · obtain ⟨g, off, rfl, hc⟩ := (hp.below hT1.below).at hlt
              generalize oat ps k = x at hc
              have ha := I.hold_asked bt _ _ _ _ _ x W2 hT1.t hwr
              have hb := S.hold_asked bu _ _ _ _ _ x W2 hT1.u hwr
              have hl := I.hold_len bt _ _ _ _ _ W2 hT1.t
              have hle := look_le hT1.t.inv x
              have hle1 : lookN (2 ^ p) K (homeP p x) x + 1 ≤ O.length + 1 := by omega
              have hle2 : 1 ≤ lookN (2 ^ p) K (homeP p x) x + 1 := by omega
              clear hle
              generalize lookN (2 ^ p) K (homeP p x) x + 1 = L at *
              go_wp2_with (first
                | (go_at_call 29; refine ha.mono ?_; rintro e w6 ⟨rfl, hw6⟩; replace hw6 := hw6.symm; subst hw6)
                | (go_at_call 30; refine hl.mono ?_; rintro e w6 ⟨rfl, hw6⟩; replace hw6 := hw6.symm; subst hw6)
                | (go_at_call 31; refine hb.mono ?_; rintro e w6 ⟨rfl, hw6⟩; replace hw6 := hw6.symm; subst hw6))
              go_round
              case rel => exact ⟨k + 1, by omega, by go_num⟩
              case measure => simp [intOf]; omega
            · obtain rfl : k = ps.length := by omega
              have hl := I.hold_len bt _ _ _ _ _ W2 hT1.t
              have hm := S.hold_len bu _ _ _ _ _ W2 hT1.u
              have hs := I.hold_slots bt _ _ _ _ _ W2 hT1.t
              have hr := S.hold_slots bu _ _ _ _ _ W2 hT1.u
              have hload := hT1.t.load
              have hpw : 2 ^ p ≤ 35184372088832 := Nat.pow_le_pow_right (n := 2) (by decide) hT1.t.p38
              generalize 2 ^ p = P at hs hr hload hpw
              go_wp2_with (first
                | (go_at_call 32; refine hs.mono ?_; rintro e w6 ⟨rfl, hw6⟩; replace hw6 := hw6.symm; subst hw6)
                | (go_at_call 30; refine hl.mono ?_; rintro e w6 ⟨rfl, hw6⟩; replace hw6 := hw6.symm; subst hw6)
                | (go_at_call 34; refine hm.mono ?_; rintro e w6 ⟨rfl, hw6⟩; replace hw6 := hw6.symm; subst hw6)
                | (go_at_call 33; refine hr.mono ?_; rintro e w6 ⟨rfl, hw6⟩; replace hw6 := hw6.symm; subst hw6))
              refine (I.hold_keys bt _ _ _ _ _ W2 hT1.t).mono ?_
              rintro e w7 ⟨v1, rfl, ho1, hb1⟩
              have hlenO : O.length ≤ 35184372088832 := by omega
              have hR1 := reads_own hlenO ho1
              go_wp2_with fail
              refine (S.hold_keys bu _ _ _ _ _ w7 (hT1.u.below hb1)).mono ?_
              rintro e w8 ⟨v2, rfl, ho2, hb2⟩
              have hR2 := reads_own hlenO ho2
              have hR1' := hR1.below hb2
              have hsz1 := hT1.below.size
              have hb3 := (hT1.below.trans (hb1.mono hsz1)).trans (hb2.mono (Nat.le_trans hsz1 hb1.size))
              go_wp2_with fail
              refine (same_at v1 v2 O w8 hR1' hR2).mono ?_
              rintro e w9 ⟨rfl, m, rfl⟩
              go_wp2_with fail
              go_ret
              exact ⟨rfl, ⟨hb3.os, hb3.tape, hb3.output, hb3.size, hb3.block⟩⟩
end Go.Proofs.YtbhocajmcfdffaaDoor
