/-
  The walk of the law CellsMeans at rows that are made. No statement of the seat is proved here.
-/
import Derived.Test.YtmffkcbdgpaieaaMeansB
namespace Go.Proofs.Ytmffkcbdgpaieaa
open Go.RowKit

theorem RowAt.drew {w : World} {t e : TypeId} {b c : Nat} {ws : List Int} {n : Int} (h : RowAt w t e b c ws n) : RowAt w.drew t e b c ws n := ⟨h.row, h.words, h.ne, h.pos, h.le⟩

theorem RowAt.drewN {w : World} {t e : TypeId} {b c : Nat} {ws : List Int} {n : Int} (h : RowAt w t e b c ws n) (m : Nat) : RowAt (w.drewN m) t e b c ws n := ⟨h.row, h.words, h.ne, h.pos, h.le⟩
theorem Keeps.cell {S : Nat → Prop} {w w' : World} (k : Keeps S w w') {b i : Nat} {v : Value} (hb : ¬ S b) (h : w.cell? ⟨b, i, none⟩ = some v) : w'.cell? ⟨b, i, none⟩ = some v :=
  (World.cell?_of_block (w := w) (a := ⟨b, i, none⟩) (k.block b (World.block_lt_of_cell? _ _ h) hb)).trans h
theorem Keeps.from_drew {S : Nat → Prop} {w w' : World} (k : Keeps S w.drew w') : Keeps S w w' := ⟨k.os, k.tape, k.output, k.size, k.block⟩
theorem Keeps.from_drewN {S : Nat → Prop} {w w' : World} {m : Nat} (k : Keeps S (w.drewN m) w') : Keeps S w w' := ⟨k.os, k.tape, k.output, k.size, k.block⟩

theorem same_as (ba ca bb cb : Nat) (wa wb : List Int) (na nb : Int) (d : Bool) (hd : decide (wa = wb) = d) (w : World) (ha : RowAt w 74 36 ba ca wa na) (hb : RowAt w 74 36 bb cb wb nb) :
    Calls Try.prog 32 #[.pointer (some ⟨ba, 0, none⟩), .pointer (some ⟨bb, 0, none⟩)] w fun e w' => e = .returned (.bool d) ∧ Below w.heap.size w w' := by
  have h := same_at ba ca bb cb wa wb na nb w ha hb
  rw [hd] at h
  exact h

theorem of_row (sp : Option Addr) (l c : Nat) (ws : List Int) (w : World) (hn : ws.length = l) (hr : Reads w sp ws) (h1 : 1 ≤ l) (h2 : l ≤ 65536) :
    Calls Try.prog 10 #[.slice sp l c] w fun e w' => ∃ b d, e = .returned (.tuple #[.pointer (some ⟨b, 0, none⟩), .int .i64 0]) ∧ w.heap.size ≤ b ∧ w.heap.size ≤ d ∧ RowAt w' 74 36 b d ws 0 ∧ Keeps (fun _ => False) w w' :=
  (of_yes sp l c ws w hn hr h1 h2).mono fun _ _ ⟨h1, h2, h3⟩ => ⟨_, _, h1, by omega, by omega, h2, h3⟩

set_option maxRecDepth 100000 in
set_option maxHeartbeats 2000000 in
theorem means_yes (sp sp1 sp2 : Option Addr) (l c l1 c1 l2 c2 : Nat) (ws : List Int) (cs ds : List (Int × Int)) (w : World) (hn : ws.length = l) (hr : Reads w sp ws) (h0 : sp = none → c = 0) (hl : 1 ≤ l) (hl' : l ≤ 65536)
    (hn1 : cs.length = l1) (hp1 : Pairs w sp1 cs) (hb1 : l1 * 16 ≤ 140737488351232) (hn2 : ds.length = l2) (hp2 : Pairs w sp2 ds) (hb2 : l2 * 16 ≤ 140737488351232)
    (hw1 : ∀ x ∈ cs, (0 ≤ x.1 ∧ x.1 ≤ 18446744073709551615) ∧ 0 ≤ x.2 ∧ x.2 ≤ 18446744073709551615) (hw2 : ∀ x ∈ ds, (0 ≤ x.1 ∧ x.1 ≤ 18446744073709551615) ∧ 0 ≤ x.2 ∧ x.2 ≤ 18446744073709551615) (hwf : Wf ws) :
    Calls Try.prog 5 #[.slice sp l c, .slice sp1 l1 c1, .slice sp2 l2 c2] w fun e w' => e = .returned (.bool true) ∧ Keeps (fun _ => False) w w' := by
  have H0 : Hid (sp = none → c = 0) := h0
  have HN : Hid (ws.length = l) := hn
  have HN1 : Hid (cs.length = l1) := hn1
  have HN2 : Hid (ds.length = l2) := hn2
  have HW1 : Hid (∀ x ∈ cs, (0 ≤ x.1 ∧ x.1 ≤ 18446744073709551615) ∧ 0 ≤ x.2 ∧ x.2 ≤ 18446744073709551615) := hw1
  have HW2 : Hid (∀ x ∈ ds, (0 ≤ x.1 ∧ x.1 ≤ 18446744073709551615) ∧ 0 ≤ x.2 ∧ x.2 ≤ 18446744073709551615) := hw2
  have hq1 : (l1 : Int) ≤ 8796093021952 := by omega
  have hq2 : (l2 : Int) ≤ 8796093021952 := by omega
  clear h0 hn hn1 hn2 hw1 hw2 hb1 hb2
  go_enter Try.func5, Try.ntmps5
  go_wp2_with fail
  refine (known_any _).mono ?_
  rintro e w1 ⟨rfl, k1⟩
  go_wp2_with fail
  refine (lent_any sp l c ws _ HN.out (hr.kept k1) H0.out (by omega)).mono ?_
  rintro e w2 ⟨g, cap, rfl, hg, hL, k2⟩
  replace k2 := k1.trans k2
  clear k1
  go_wp2_with fail
  refine (of_row _ l _ ws _ HN.out hL.reads hl hl').mono ?_
  rintro e w3 ⟨ba, ca, rfl, hba, hca, ra, k3⟩
  have hza := k2.size
  replace k3 := k2.trans k3
  clear k2 hL hg
  go_wp2_with fail
  refine (lent_any sp l c ws _ HN.out (hr.kept k3) H0.out (by omega)).mono ?_
  rintro e w4 ⟨g2, cap2, rfl, hg2, hL2, k4⟩
  replace ra := ra.kept k4 (fun f => f) (fun f => f)
  replace k4 := k3.trans k4
  clear k3
  go_wp2_with fail
  refine (of_row _ l _ ws _ HN.out hL2.reads hl hl').mono ?_
  rintro e w5 ⟨bb, cb, rfl, hbb, hcb, rb, k5⟩
  have hx1 := ra.ltb
  have hx2 := ra.ltc
  replace ra := ra.kept k5 (fun f => f) (fun f => f)
  have hzb := k4.size
  replace k5 := k4.trans k5
  clear k4 hL2 hg2
  go_wp2_with (go_at_call 13; refine (num_any _ _).mono ?_; rintro e w' ⟨rfl, hw'⟩; subst hw')
  have hab1 : ¬ (ba = bb ∨ ba = cb) := by omega
  have hab2 : ¬ (ca = bb ∨ ca = cb) := by omega
  go_loopw [11] (fun i wr => ∃ (k : Nat) (nb : Int), k ≤ l1 ∧ i = .int .i64 k ∧ RowAt wr 74 36 bb cb (putAll ws (cs.take k)) nb ∧ Keeps (fun x => x = bb ∨ x = cb) w' wr)
    (fun i _ => l1 - (intOf i).toNat)
  case atStart => exact ⟨0, 0, Nat.zero_le _, rfl, rb, Keeps.refl _ _⟩
  case round =>
    obtain ⟨k, nb, hk, rfl, rk, kk⟩ := hrel
    by_cases hlt : k < l1
    · have hkc : k < cs.length := by rw [HN1.out]; exact hlt
      have hpk : Pairs wr sp1 cs := (hp1.kept k5 (fun _ _ _ _ f => f)).kept kk (fun b o s e => by have := hp1.lt (by omega) b o s e; omega)
      obtain ⟨sb, so, rfl, hc1, hc2⟩ := hpk k hkc
      have hst := putAll_step ws cs k hkc
      have hlen := putAll_len (cs.take k) ws
      rw [HN.out] at hlen
      have hmem : (cs[k]?.getD (0, 0)) ∈ cs := by rw [List.getElem?_eq_getElem hkc]; exact List.getElem_mem hkc
      obtain ⟨⟨ha0, ha1⟩, hv0, hv1⟩ := HW1.out _ hmem
      generalize (cs[k]?.getD (0, 0)).1 = A at hc1 hst ha0 ha1
      generalize (cs[k]?.getD (0, 0)).2 = V at hc2 hst hv0 hv1
      generalize putAll ws (cs.take k) = X at rk hst hlen
      have HST : Hid (putAll ws (cs.take (k + 1)) = putAt X A V) := hst
      have HLEN : Hid (X.length = l) := hlen
      clear hst hmem hpk hlen
      have hVV : (V != V) = false := by simp
      have hsb : ¬ (sb = bb ∨ sb = cb) := by
        have := hp1.lt (by omega) sb so none rfl
        omega
      by_cases hin : A < (l : Int)
      · have hin' : A < (X.length : Int) := by rw [HLEN.out]; exact hin
        go_wp2
        go_region_held3 (fun w' => w'.cell? ⟨sb, so + k * 2, none⟩ = some (.int .u64 A) ∧ w'.cell? ⟨sb, so + k * 2 + 1, none⟩ = some (.int .u64 V)) (go_keep)
          ((go_at_call 24; refine (store_in bb cb X nb A V _ (by exact rk.drew) ha0 hin').mono ?_; rintro e w7 ⟨rfl, r7, k7⟩; replace k7 := k7.from_drew; have q1 := k7.cell hsb hc1; have q2 := k7.cell hsb hc2))
        have hin2 : A < ((putAt X A V).length : Int) := by rw [putAt_len]; exact hin'
        have hwd := wordAt_put X A V ha0 hin'
        have HWD : Hid (wordAt (putAt X A V) A = V) := hwd
        clear hwd
        generalize putAt X A V = Y at r7 hin2 HWD HST
        go_wp2_with fail
        refine (load_in bb cb Y _ A V _ r7 ha0 hin2 HWD.out).mono ?_
        rintro e w8 ⟨rfl, r8, k8⟩
        have q3 := k8.cell hsb q1
        have q4 := k8.cell hsb q2
        replace k8 := k7.trans k8
        clear k7 q1 q2 r7
        go_wp2
        go_quiet ((go_at_call 13; exact Calls.quiet_of_same (num_any _ _)))
        go_wp2_with fail
        refine (swap_in bb cb Y _ A V _ (r8.drewN _) ha0 _ hin2 HWD.out (succ_ne V) 5).mono ?_
        rintro e w9 ⟨rfl, r9, k9⟩
        have q5 := k9.from_drewN.cell hsb q3
        replace k9 := k8.trans k9.from_drewN
        clear k8 q3 q4 r8
        go_wp2_with fail
        refine (load_in bb cb Y _ A V _ r9 ha0 hin2 HWD.out).mono ?_
        rintro e w10 ⟨rfl, r10, k10⟩
        replace k10 := k9.trans k10
        clear k9 q5 r9
        go_wp2
        go_roundw
        case rel => exact ⟨k + 1, _, by omega, by go_num, by rw [HST.out]; exact r10, kk.trans k10⟩
        case measure => simp [intOf]; omega
      · have hin' : (X.length : Int) ≤ A := by rw [HLEN.out]; omega
        have hdl : decide (A < (l : Int)) = false := by simpa using hin
        go_wp2
        go_region_held3 (fun w' => w'.cell? ⟨sb, so + k * 2, none⟩ = some (.int .u64 A) ∧ w'.cell? ⟨sb, so + k * 2 + 1, none⟩ = some (.int .u64 V)) (go_keep)
          ((go_at_call 24; refine (store_out bb cb X nb A V _ (by exact rk.drew) ha0 (Int.not_lt.2 hin')).mono ?_; rintro e w7 ⟨rfl, r7, k7⟩; replace k7 := k7.from_drew; have q1 := k7.cell hsb hc1; have q2 := k7.cell hsb hc2))
        have hin2 : ((putAt X A V).length : Int) ≤ A := by rw [putAt_len]; exact hin'
        generalize putAt X A V = Y at r7 hin2 HST
        go_wp2_with fail
        refine (load_out bb cb Y _ A _ r7 ha0 (Int.not_lt.2 hin2)).mono ?_
        rintro e w8 ⟨rfl, r8, k8⟩
        have q3 := k8.cell hsb q1
        have q4 := k8.cell hsb q2
        replace k8 := k7.trans k8
        clear k7 q1 q2 r7
        go_wp2
        go_quiet ((go_at_call 13; exact Calls.quiet_of_same (num_any _ _)))
        go_wp2_with fail
        refine (swap_out bb cb Y _ A _ (r8.drewN _) ha0 _ (Int.not_lt.2 hin2) 5).mono ?_
        rintro e w9 ⟨rfl, r9, k9⟩
        have q5 := k9.from_drewN.cell hsb q3
        replace k9 := k8.trans k9.from_drewN
        clear k8 q3 q4 r8
        go_wp2_with fail
        refine (load_out bb cb Y _ A _ r9 ha0 (Int.not_lt.2 hin2)).mono ?_
        rintro e w10 ⟨rfl, r10, k10⟩
        replace k10 := k9.trans k10
        clear k9 q5 r9
        go_wp2
        go_roundw
        case rel => exact ⟨k + 1, _, by omega, by go_num, by rw [HST.out]; exact r10, kk.trans k10⟩
        case measure => simp [intOf]; omega
    · obtain rfl : k = l1 := by omega
      have hput : Hid (putAll ws (cs.take k) = putAll ws cs) := congrArg (putAll ws) (List.take_of_length_le (Nat.le_of_eq HN1.out))
      rw [hput.out] at rk
      have hlb : (putAll ws cs).length = l := by rw [putAll_len]; exact HN.out
      have hwb : Wf (putAll ws cs) := hwf.putAll (fun x hx => (HW1.out x hx).2)
      replace ra := ra.kept kk hab1 hab2
      have hkw : Keeps (fun _ => False) w wr := keeps_new k5 kk (by omega) (by omega)
      generalize putAll ws cs = ys at rk hlb hwb
      have HLB : Hid (ys.length = l) := hlb
      clear hlb hput kk k5 rb hp1
      go_wp2_with fail
      have hlab : ys.length = ws.length := by rw [HLB.out, HN.out]
      refine (differ_eq ba ca bb cb ws ys 0 _ _ ra rk hlab).mono ?_
      rintro e w6 ⟨v, rfl, hown, hbel⟩
      obtain ⟨sp3, cap3, rfl, hp3, hlt3⟩ := pairs_own hown
      have hL1 := dl_put_all ws ys hlab
      have hL2 : ∀ x ∈ asInts (dl ws ys ys.length), 0 ≤ x.1 ∧ x.1 < (l : Int) := fun x hx => by
        obtain ⟨y, hy, rfl⟩ := List.mem_map.1 hx
        have := dl_addr ws ys _ y hy
        rw [HLB.out] at this
        exact ⟨Int.natCast_nonneg _, Int.ofNat_lt.2 this⟩
      have hL3 : (asInts (dl ws ys ys.length)).length = (dl ws ys ys.length).length := by simp [asInts]
      have hsm : decide (ws = ys) = (((dl ws ys ys.length).length : Int) == 0) := by
        have := dl_empty hlab
        by_cases he : ws = ys
        · rw [decide_eq_true he, this.2 he]
          rfl
        · rw [decide_eq_false he]
          symm
          have hne : dl ws ys ys.length ≠ [] := fun h => he (this.1 h)
          have : (dl ws ys ys.length).length ≠ 0 := fun h => hne (List.eq_nil_of_length_eq_zero h)
          simp
          omega
      have hl3 : (dl ws ys ys.length).length ≤ 65536 := Nat.le_trans (dl_length _ _ _) (by rw [HLB.out]; exact hl')
      have ra6 := ra.below hbel
      have rb6 := rk.below hbel
      have hz6 := hbel.size
      have hkw6 : Keeps (fun _ => False) w w6 := hkw.trans (Keeps.of_below hbel _)
      have hxb := rk.ltb
      have hxc := rk.ltc
      have hxa := ra.ltb
      have hxd := ra.ltc
      clear hown
      generalize asInts (dl ws ys ys.length) = L at hp3 hL1 hL2 hL3
      generalize (dl ws ys ys.length).length = l3 at hL3 hsm hl3 ⊢
      have HDD : Hid (decide (ws = ys) = ((l3 : Int) == 0)) := hsm
      have HL1 : Hid (putAll ws L = ys) := hL1
      have HL2 : Hid (∀ x ∈ L, 0 ≤ x.1 ∧ x.1 < (l : Int)) := hL2
      have HL3 : Hid (L.length = l3) := hL3
      clear hL1 hL2 hL3 hlab hkw hbel ra rk hsm
      have hlt3' : ∀ b o s, sp3 = some ⟨b, o, s⟩ → wr.heap.size ≤ b := fun b o s e => (hlt3 b o s e).1
      go_wp2_with (go_at_call 13; refine (num_any _ _).mono ?_; rintro e w' ⟨rfl, hw'⟩; subst hw')
      refine (same_as ba ca bb cb ws ys _ _ _ HDD.out _ ra6 rb6).mono ?_
      rintro e w7 ⟨rfl, k7⟩
      have ra7 := ra6.below k7
      have rb7 := rb6.below k7
      have hz7 := k7.size
      have hkw7 := hkw6.trans (Keeps.of_below k7 _)
      have hp7 := hp3.kept (Keeps.of_below k7 (fun _ => False)) (fun _ _ _ _ f => f)
      clear ra6 rb6 k7 hkw6 hp3 HDD
      go_wp2
      go_loopw [21] (fun i wr => ∃ (k : Nat) (na : Int), k ≤ l3 ∧ i = .int .i64 k ∧ RowAt wr 74 36 ba ca (putAll ws (L.take k)) na ∧ Keeps (fun x => x = ba ∨ x = ca) w7 wr)
        (fun i _ => l3 - (intOf i).toNat)
      case atStart => exact ⟨0, 0, Nat.zero_le _, rfl, ra7, Keeps.refl _ _⟩
      case round =>
        obtain ⟨k, na, hk, rfl, rk, kk⟩ := hrel
        by_cases hlt : k < l3
        · have hkc : k < L.length := by rw [HL3.out]; exact hlt
          have hpk := hp7.kept kk (fun b o s e => by have := hlt3' b o s e; omega)
          obtain ⟨sb, so, rfl, hc1, hc2⟩ := hpk k hkc
          have hst := putAll_step ws L k hkc
          have hlen := putAll_len (L.take k) ws
          rw [HN.out] at hlen
          have hmem : (L[k]?.getD (0, 0)) ∈ L := by rw [List.getElem?_eq_getElem hkc]; exact List.getElem_mem hkc
          obtain ⟨ha0, ha1⟩ := HL2.out _ hmem
          generalize (L[k]?.getD (0, 0)).1 = A at hc1 hst ha0 ha1
          generalize (L[k]?.getD (0, 0)).2 = V at hc2 hst
          generalize putAll ws (L.take k) = X at rk hst hlen
          have HST : Hid (putAll ws (L.take (k + 1)) = putAt X A V) := hst
          have hin' : A < (X.length : Int) := by rw [hlen]; exact ha1
          have hsb : ¬ (sb = ba ∨ sb = ca) := by
            have := hlt3' sb so none rfl
            omega
          clear hst hmem hpk hlen
          go_wp2
          go_region_held3 (fun w' => w'.cell? ⟨sb, so + k * 2, none⟩ = some (.int .u64 A) ∧ w'.cell? ⟨sb, so + k * 2 + 1, none⟩ = some (.int .u64 V)) (go_keep)
            ((first
              | (go_at_call 24; refine (store_in ba ca X na A V _ (by exact rk.drew) ha0 hin').mono ?_; rintro e w8 ⟨rfl, r8, k8⟩; replace k8 := k8.from_drew; have q1 := k8.cell hsb hc1; have q2 := k8.cell hsb hc2)
              | (go_at_call 13; refine (num_any _ _).mono ?_; rintro e w' ⟨rfl, hw'⟩; subst hw')))
          go_wp2
          go_roundw
          case rel => exact ⟨k + 1, _, by omega, by go_num, by rw [HST.out]; exact r8, kk.trans k8⟩
          case measure => simp [intOf]; omega
        · obtain rfl : k = l3 := by omega
          have hput : Hid (putAll ws (L.take k) = ys) := (congrArg (putAll ws) (List.take_of_length_le (Nat.le_of_eq HL3.out))).trans HL1.out
          rw [hput.out] at rk
          have hba1 : ¬ (bb = ba ∨ bb = ca) := by omega
          have hba2 : ¬ (cb = ba ∨ cb = ca) := by omega
          have rb8 := rb7.kept kk hba1 hba2
          have hkw8 : Keeps (fun _ => False) w wr := keeps_new hkw7 kk (by omega) (by omega)
          have hz8 := kk.size
          clear hput kk hkw7 rb7 ra7 hp7 HL1 HL2 HL3
          go_wp2_with fail
          refine (same_as ba ca bb cb ys ys _ _ true (by simp) _ rk rb8).mono ?_
          rintro e w9 ⟨rfl, k9⟩
          have ra9 := rk.below k9
          have rb9 := rb8.below k9
          have hz9 := k9.size
          have hkw9 := hkw8.trans (Keeps.of_below k9 _)
          clear rk rb8 hkw8 k9
          have hsa := sum_at ba ca ys _ w9 ra9 hwb
          have hsb' := sum_at bb cb ys _ w9 rb9 hwb
          generalize sumTo ys ys.length = SS at hsa hsb'
          have HSA : Hid (Calls Try.prog 33 #[.pointer (some ⟨ba, 0, none⟩)] w9 fun e w' => e = .returned (.int .u64 SS) ∧ w' = w9) := hsa
          have HSB : Hid (Calls Try.prog 33 #[.pointer (some ⟨bb, 0, none⟩)] w9 fun e w' => e = .returned (.int .u64 SS) ∧ w' = w9) := hsb'
          clear hsa hsb'
          have hSS : (SS != SS) = false := by simp
          go_wp2_with fail
          refine HSA.out.mono ?_
          rintro e w' ⟨rfl, hw'⟩
          subst hw'
          go_wp2_with fail
          refine HSB.out.mono ?_
          rintro e w'' ⟨rfl, hw'⟩
          subst hw'
          clear HSA HSB
          go_wp2_with fail
          go_loopw [22] (fun i wr => ∃ (k : Nat) (na nb : Int), k ≤ l2 ∧ i = .int .i64 k ∧ RowAt wr 74 36 ba ca (addAll ys (ds.take k)) na ∧ RowAt wr 74 36 bb cb (addAll ys (ds.reverse.take k)) nb ∧ Keeps (fun _ => False) w wr)
            (fun i _ => l2 - (intOf i).toNat)
          case atStart => exact ⟨0, _, _, Nat.zero_le _, rfl, ra9, rb9, hkw9⟩
          case round =>
            obtain ⟨k, na, nb, hk, rfl, rka, rkb, kk⟩ := hrel
            by_cases hlt : k < l2
            · have hkc : k < ds.length := by rw [HN2.out]; exact hlt
              have hkr : k < ds.reverse.length := by rw [List.length_reverse]; exact hkc
              obtain ⟨j, hj⟩ : ∃ j, l2 = k + 1 + j := ⟨l2 - (k + 1), by omega⟩
              have hjc : j < ds.length := by rw [HN2.out]; omega
              have hpk := hp2.kept kk (fun _ _ _ _ f => f)
              obtain ⟨sb, so, hsp, hc3, hc4⟩ := hpk j hjc
              obtain ⟨sb', so', hsp', hc1, hc2⟩ := hpk k hkc
              rw [hsp] at hsp'
              cases hsp'
              have hsbl : sb < w.heap.size := hp2.lt (by omega) sb so none hsp
              have hrev : ds.reverse[k]?.getD (0, 0) = ds[j]?.getD (0, 0) := by
                rw [List.getElem?_reverse hkc]
                congr 2
                rw [HN2.out]
                omega
              have hsa := addAll_step ys ds k hkc
              have hsb2 := addAll_step ys ds.reverse k hkr
              rw [hrev] at hsb2
              have hm1 : (ds[k]?.getD (0, 0)) ∈ ds := by rw [List.getElem?_eq_getElem hkc]; exact List.getElem_mem hkc
              have hm2 : (ds[j]?.getD (0, 0)) ∈ ds := by rw [List.getElem?_eq_getElem hjc]; exact List.getElem_mem hjc
              obtain ⟨⟨ha0, _⟩, _, _⟩ := HW2.out _ hm1
              obtain ⟨⟨hb0, _⟩, _, _⟩ := HW2.out _ hm2
              subst hsp
              generalize (ds[k]?.getD (0, 0)).1 = A at hc1 hsa ha0
              generalize (ds[k]?.getD (0, 0)).2 = V at hc2 hsa
              generalize (ds[j]?.getD (0, 0)).1 = B at hc3 hsb2 hb0
              generalize (ds[j]?.getD (0, 0)).2 = U at hc4 hsb2
              generalize addAll ys (ds.take k) = X at rka hsa
              generalize addAll ys (ds.reverse.take k) = Y at rkb hsb2
              have HSA : Hid (addAll ys (ds.take (k + 1)) = addAt X A V) := hsa
              have HSB : Hid (addAll ys (ds.reverse.take (k + 1)) = addAt Y B U) := hsb2
              have HJ : Hid (l2 = k + 1 + j) := hj
              have n1 : ¬ (sb = ba ∨ sb = ca) := by omega
              have n2 : ¬ (bb = ba ∨ bb = ca) := by omega
              have n3 : ¬ (cb = ba ∨ cb = ca) := by omega
              have n4 : ¬ (ba = bb ∨ ba = cb) := by omega
              have n5 : ¬ (ca = bb ∨ ca = cb) := by omega
              have e1 : ((l2 : Int) - 1 - (k : Int)).toNat = j := by omega
              have e2 : (0 : Int) ≤ (l2 : Int) - 1 - (k : Int) := by omega
              have e3 : (l2 : Int) - 1 - (k : Int) < (l2 : Int) := by omega
              clear hsa hsb2 hm1 hm2 hpk hrev hkr hj hp2
              go_wp2
              go_region_held3 (fun w' => w'.cell? ⟨sb, so + k * 2, none⟩ = some (.int .u64 A) ∧ w'.cell? ⟨sb, so + k * 2 + 1, none⟩ = some (.int .u64 V)) (go_keep)
                ((go_at_call 34; refine (add_at ba ca X na A V _ (by exact rka.drew) ha0).mono ?_; rintro e w8 ⟨rfl, r8, k8⟩; replace k8 := k8.from_drew; have q1 := k8.cell n1 hc1; have q2 := k8.cell n1 hc2; have q3 := k8.cell n1 hc3; have q4 := k8.cell n1 hc4))
              go_wp2_with fail
              refine (add_at bb cb Y nb B U _ ((rkb.kept k8 n2 n3).alloc _) hb0).mono ?_
              rintro e w10 ⟨rfl, r10, k10⟩
              have ra10 := (r8.alloc (.cells #[.int .u64 B, .int .u64 U] 58)).kept k10 n4 n5
              have hk8 := keeps_new kk k8 (by omega) (by omega)
              have hk10 := keeps_new (hk8.alloc (.cells #[.int .u64 B, .int .u64 U] 58)) k10 (by omega) (by omega)
              clear r8 k8 k10 hk8 q1 q2 q3 q4 hc1 hc2 hc3 hc4
              go_wp2
              go_roundw
              case rel => exact ⟨k + 1, _, _, by omega, by go_num, by rw [HSA.out]; exact ra10, by rw [HSB.out]; exact r10, hk10⟩
              case measure => simp [intOf]; omega
            · obtain rfl : k = l2 := by omega
              have p1 : Hid (addAll ys (ds.take k) = addAll ys ds) := congrArg (addAll ys) (List.take_of_length_le (Nat.le_of_eq HN2.out))
              have p2 : Hid (addAll ys (ds.reverse.take k) = addAll ys ds) := (congrArg (addAll ys) (List.take_of_length_le (Nat.le_of_eq (by rw [List.length_reverse]; exact HN2.out)))).trans (addAll_reverse ds ys (fun y hy => (HW2.out y hy).1.1))
              have p3 : (addAll ys ds).length = l := by rw [addAll_len]; exact HLB.out
              rw [p1.out] at rka
              rw [p2.out] at rkb
              generalize addAll ys ds = zs at rka rkb p3
              have P3 : Hid (zs.length = l) := p3
              clear p1 p2 p3
              go_wp2_with fail
              refine (same_as ba ca bb cb zs zs _ _ true (by simp) _ rka rkb).mono ?_
              rintro e w11 ⟨rfl, k11⟩
              have cz := (rka.below k11).cell0
              rw [P3.out] at cz
              have hk11 := kk.trans (Keeps.of_below k11 _)
              clear rka rkb kk k11
              go_wp2_with (go_at_call 35; refine (len_at ba _ l l _ cz).mono ?_; rintro e w' ⟨rfl, hw'⟩; subst hw')
              go_ret
              exact ⟨by simp, hk11⟩

end Go.Proofs.Ytmffkcbdgpaieaa
