/-
  No statement of the seat is proved here. (Several texts in one: AzB, AzC, AzD, AzE.)
-/
import Derived.Test.YtppejcfghlpbjaaGreatDoorN19AyH
import Derived.Test.YtppejcfghlpbjaaGreatDoorM10AwD

/- Walks of writeNumbers (package asm). No statement of the seat is proved here. -/
namespace Go.Proofs.YtppejcfghlpbjaaGreatDoor
open Go.RowKit Go.Shelf

theorem blk64_snoc (A : List Nat) (n : Nat) : blk64 (A ++ [n]) = blk64 A ++ 32 :: Lib.decDigits n := by simp [blk64]
/-- A line of numbers behind a word, or nothing. -/
def numT (head : List UInt8) (L : List Nat) : List UInt8 := if L = [] then [] else head ++ blk64 L ++ [10]

set_option maxRecDepth 100000 in
set_option maxHeartbeats 8000000 in
theorem wnum_int (B b : Nat) (R : World → Prop) (HRW : Hid (∀ X X', R X → Below B X X' → Lib.OthersKept 5 (some b) X X' → R X')) (HRK : Hid (∀ X X', R X → Keeps (fun _ => False) X X' → R X')) (HG : Hid (∀ X, R X → Gp X)) (head : List UInt8) (hh : head.length ≤ 64) (a : Option Addr) (cap : Nat) (L : List Nat) (hL : L.length ≤ 1048576) (HM : Hid (∀ n ∈ L, n ≤ m63))
    (HR : Hid (∀ X, R X → ∀ k (hk : k < L.length), k < cap ∧ ∃ g off, a = some ⟨g, off, none⟩ ∧ X.cell? ⟨g, off + k, none⟩ = some (.int .i64 (L[k] : Int)))) (l0 : List UInt8) (hl0 : l0.length ≤ 1099511627776) (w : World) (hR : R w) (hb : Bld w B b l0) :
    Calls Tryz.prog 17 #[.pointer (some ⟨b, 0, none⟩), .string ⟨head.toArray⟩, .slice a L.length cap] w fun e w' => (∃ v, e = .returned v) ∧ Bld w' B b (l0 ++ numT head L) ∧ R w' := by
  by_cases hL0 : L = []
  · subst hL0
    have hb' : Hid (Bld w B b (l0 ++ numT head [])) := by unfold Hid; rw [show numT head [] = [] from rfl, List.append_nil]; exact hb
    clear HRW HRK HG HR hb HM
    go_enter Tryz.func17, Tryz.ntmps17
    go_wp2_with fail
    refine bodyPost_ret (results_none rfl _ _ _) rfl ?_
    exact ⟨⟨_, rfl⟩, hb'.out, hR⟩
  · have hpos := List.length_pos_iff.2 hL0
    have hz : ((L.length : Int) == 0) = false := by simp; omega
    have WH := (write_any head l0 B b w hb (by omega)).mono (R' := fun e X => (∃ n, e = .returned (.tuple #[.int .i64 n, .nilIface])) ∧ Hid (Bld X B b (l0 ++ head) ∧ R X)) fun e X h => ⟨h.1, h.2.1, HRW.out w X hR h.2.2.1 h.2.2.2⟩
    have HNT : Hid (numT head L = head ++ blk64 L ++ [10]) := by unfold Hid numT; rw [if_neg hL0]
    clear hb hR hL0
    go_enter Tryz.func17, Tryz.ntmps17
    go_wp2_with fail
    refine WH.mono ?_
    rintro e w1 ⟨⟨n0, rfl⟩, S0⟩
    clear WH
    go_wp2_with fail
    go_loopw [16] (fun u wr => ∃ k : Nat, u = .int .i64 (k : Int) ∧ k ≤ L.length ∧ Hid ((blk64 (L.take k)).length ≤ 21 * k ∧ Bld wr B b (l0 ++ head ++ blk64 (L.take k)) ∧ R wr)) (fun u _ => L.length - (intOf u).toNat)
    case atStart => exact ⟨0, rfl, Nat.zero_le _, ⟨by simp [blk64], by simpa [blk64] using S0.out.1, S0.out.2⟩⟩
    case round =>
      obtain ⟨k, rfl, hk, hP⟩ := hrel
      clear S0
      by_cases hlt : k < L.length
      · have hki : (k : Int) < L.length := by omega
        obtain ⟨hcap, g, off, rfl, hc⟩ := HR.out wr hP.out.2.2 k hlt
        have hkc : (k : Int) < cap := by omega
        have hnm := HM.out _ (List.getElem_mem hlt)
        have HT : Hid (blk64 (L.take (k + 1)) = blk64 (L.take k) ++ 32 :: Lib.decDigits (L[k])) := by
          unfold Hid
          rw [List.take_succ_eq_append_getElem hlt, blk64_snoc]
        have HQ := hP.out
        generalize L[k]'hlt = y at *
        have hy64 : y < 18446744073709551616 := Nat.lt_of_le_of_lt hnm (by decide)
        have hdl : (Lib.decDigits y).length ≤ 20 := by rw [Lib.decDigits_length]; exact Lib.nDigits_le20 _ (by omega)
        have FM := fmt_any y hy64 wr (HG.out wr HQ.2.2)
        have HWZ : Hid (∀ X, Keeps (fun _ => False) wr X → Calls Tryz.prog 19 #[.pointer (some ⟨b, 0, none⟩), .string (⟨#[32]⟩ ++ ⟨(Lib.decDigits y).toArray⟩)] X fun e X' => (∃ n, e = .returned (.tuple #[.int .i64 n, .nilIface])) ∧ Hid ((blk64 (L.take (k + 1))).length ≤ 21 * (k + 1) ∧ Bld X' B b (l0 ++ head ++ blk64 (L.take (k + 1))) ∧ R X')) := fun X kX => by
          have := str_app [32] (Lib.decDigits y)
          rw [show (⟨#[32]⟩ : ByteArray) = ⟨[(32 : UInt8)].toArray⟩ from rfl, this]
          refine (write_any ([32] ++ Lib.decDigits y) _ B b X (HQ.2.1.keeps kX) (by simp only [List.length_append, List.length_cons, List.length_nil]; omega)).mono fun e X' h => ⟨h.1, ?_, ?_, HRW.out X X' (HRK.out wr X HQ.2.2 kX) h.2.2.1 h.2.2.2⟩
          · rw [HT.out]; simp only [List.length_append, List.length_cons]; omega
          · rw [HT.out, ← List.append_assoc]; exact h.2.1
        have hcv : IntKind.u64.wrap (y : Int) = (y : Int) := by rw [IntKind.wrap_u64]; omega
        have tm1 : ¬ 9223372036854775807 < 1 + (Lib.decDigits y).length := by omega
        have tm2 : ¬ 9223372036854775807 < (Lib.decDigits y).length + 1 := by omega
        generalize Lib.decDigits y = D at *
        clear hP HQ HT HRW HRK HG HR HNT HM hnm hdl
        go_wp2_with fail
        refine FM.mono ?_
        rintro e X ⟨rfl, kX⟩
        have WZ := HWZ.out X kX
        clear FM HWZ kX
        go_wp2_with fail
        refine WZ.mono ?_
        rintro e X' ⟨⟨n, rfl⟩, fin⟩
        clear WZ
        go_wp2_with fail
        go_roundw
        · exact ⟨k + 1, by simp, by omega, fin⟩
        · simp [intOf]; omega
      · have hki : ¬ (k : Int) < L.length := by omega
        obtain ⟨h1, h2, h3⟩ := hP.out
        obtain rfl : k = L.length := by omega
        rw [List.take_length] at h1 h2
        have WZ := (write_any [10] _ B b wr h2 (by simp only [List.length_append, List.length_cons, List.length_nil]; omega)).mono (R' := fun e X => (∃ n, e = .returned (.tuple #[.int .i64 n, .nilIface])) ∧ Hid (Bld X B b (l0 ++ numT head L) ∧ R X)) fun e X h => ⟨h.1, by rw [HNT.out]; simpa using h.2.1, HRW.out wr X h3 h.2.2.1 h.2.2.2⟩
        rw [show (⟨[(10 : UInt8)].toArray⟩ : ByteArray) = ⟨#[10]⟩ from rfl] at WZ
        clear hP h1 h2 h3 HRW HRK HG HR HNT HM
        go_wp2_with fail
        refine WZ.mono ?_
        rintro e X' ⟨⟨n, rfl⟩, fin⟩
        clear WZ
        go_wp2_with fail
        go_end0
        exact ⟨⟨_, rfl⟩, fin.out.1, fin.out.2⟩

set_option maxRecDepth 100000 in
set_option maxHeartbeats 8000000 in
theorem wnum_uint64 (B b : Nat) (R : World → Prop) (HRW : Hid (∀ X X', R X → Below B X X' → Lib.OthersKept 5 (some b) X X' → R X')) (HRK : Hid (∀ X X', R X → Keeps (fun _ => False) X X' → R X')) (HG : Hid (∀ X, R X → Gp X)) (head : List UInt8) (hh : head.length ≤ 64) (a : Option Addr) (cap : Nat) (L : List Nat) (hL : L.length ≤ 1048576) (HM : Hid (∀ n ∈ L, n ≤ m64))
    (HR : Hid (∀ X, R X → ∀ k (hk : k < L.length), k < cap ∧ ∃ g off, a = some ⟨g, off, none⟩ ∧ X.cell? ⟨g, off + k, none⟩ = some (.int .u64 (L[k] : Int)))) (l0 : List UInt8) (hl0 : l0.length ≤ 1099511627776) (w : World) (hR : R w) (hb : Bld w B b l0) :
    Calls Tryz.prog 18 #[.pointer (some ⟨b, 0, none⟩), .string ⟨head.toArray⟩, .slice a L.length cap] w fun e w' => (∃ v, e = .returned v) ∧ Bld w' B b (l0 ++ numT head L) ∧ R w' := by
  by_cases hL0 : L = []
  · subst hL0
    have hb' : Hid (Bld w B b (l0 ++ numT head [])) := by unfold Hid; rw [show numT head [] = [] from rfl, List.append_nil]; exact hb
    clear HRW HRK HG HR hb HM
    go_enter Tryz.func18, Tryz.ntmps18
    go_wp2_with fail
    refine bodyPost_ret (results_none rfl _ _ _) rfl ?_
    exact ⟨⟨_, rfl⟩, hb'.out, hR⟩
  · have hpos := List.length_pos_iff.2 hL0
    have hz : ((L.length : Int) == 0) = false := by simp; omega
    have WH := (write_any head l0 B b w hb (by omega)).mono (R' := fun e X => (∃ n, e = .returned (.tuple #[.int .i64 n, .nilIface])) ∧ Hid (Bld X B b (l0 ++ head) ∧ R X)) fun e X h => ⟨h.1, h.2.1, HRW.out w X hR h.2.2.1 h.2.2.2⟩
    have HNT : Hid (numT head L = head ++ blk64 L ++ [10]) := by unfold Hid numT; rw [if_neg hL0]
    clear hb hR hL0
    go_enter Tryz.func18, Tryz.ntmps18
    go_wp2_with fail
    refine WH.mono ?_
    rintro e w1 ⟨⟨n0, rfl⟩, S0⟩
    clear WH
    go_wp2_with fail
    go_loopw [16] (fun u wr => ∃ k : Nat, u = .int .i64 (k : Int) ∧ k ≤ L.length ∧ Hid ((blk64 (L.take k)).length ≤ 21 * k ∧ Bld wr B b (l0 ++ head ++ blk64 (L.take k)) ∧ R wr)) (fun u _ => L.length - (intOf u).toNat)
    case atStart => exact ⟨0, rfl, Nat.zero_le _, ⟨by simp [blk64], by simpa [blk64] using S0.out.1, S0.out.2⟩⟩
    case round =>
      obtain ⟨k, rfl, hk, hP⟩ := hrel
      clear S0
      by_cases hlt : k < L.length
      · have hki : (k : Int) < L.length := by omega
        obtain ⟨hcap, g, off, rfl, hc⟩ := HR.out wr hP.out.2.2 k hlt
        have hkc : (k : Int) < cap := by omega
        have hnm := HM.out _ (List.getElem_mem hlt)
        have HT : Hid (blk64 (L.take (k + 1)) = blk64 (L.take k) ++ 32 :: Lib.decDigits (L[k])) := by
          unfold Hid
          rw [List.take_succ_eq_append_getElem hlt, blk64_snoc]
        have HQ := hP.out
        generalize L[k]'hlt = y at *
        have hy64 : y < 18446744073709551616 := Nat.lt_of_le_of_lt hnm (by decide)
        have hdl : (Lib.decDigits y).length ≤ 20 := by rw [Lib.decDigits_length]; exact Lib.nDigits_le20 _ (by omega)
        have FM := fmt_any y hy64 wr (HG.out wr HQ.2.2)
        have HWZ : Hid (∀ X, Keeps (fun _ => False) wr X → Calls Tryz.prog 19 #[.pointer (some ⟨b, 0, none⟩), .string (⟨#[32]⟩ ++ ⟨(Lib.decDigits y).toArray⟩)] X fun e X' => (∃ n, e = .returned (.tuple #[.int .i64 n, .nilIface])) ∧ Hid ((blk64 (L.take (k + 1))).length ≤ 21 * (k + 1) ∧ Bld X' B b (l0 ++ head ++ blk64 (L.take (k + 1))) ∧ R X')) := fun X kX => by
          have := str_app [32] (Lib.decDigits y)
          rw [show (⟨#[32]⟩ : ByteArray) = ⟨[(32 : UInt8)].toArray⟩ from rfl, this]
          refine (write_any ([32] ++ Lib.decDigits y) _ B b X (HQ.2.1.keeps kX) (by simp only [List.length_append, List.length_cons, List.length_nil]; omega)).mono fun e X' h => ⟨h.1, ?_, ?_, HRW.out X X' (HRK.out wr X HQ.2.2 kX) h.2.2.1 h.2.2.2⟩
          · rw [HT.out]; simp only [List.length_append, List.length_cons]; omega
          · rw [HT.out, ← List.append_assoc]; exact h.2.1
        skip
        have tm1 : ¬ 9223372036854775807 < 1 + (Lib.decDigits y).length := by omega
        have tm2 : ¬ 9223372036854775807 < (Lib.decDigits y).length + 1 := by omega
        generalize Lib.decDigits y = D at *
        clear hP HQ HT HRW HRK HG HR HNT HM hnm hdl
        go_wp2_with fail
        refine FM.mono ?_
        rintro e X ⟨rfl, kX⟩
        have WZ := HWZ.out X kX
        clear FM HWZ kX
        go_wp2_with fail
        refine WZ.mono ?_
        rintro e X' ⟨⟨n, rfl⟩, fin⟩
        clear WZ
        go_wp2_with fail
        go_roundw
        · exact ⟨k + 1, by simp, by omega, fin⟩
        · simp [intOf]; omega
      · have hki : ¬ (k : Int) < L.length := by omega
        obtain ⟨h1, h2, h3⟩ := hP.out
        obtain rfl : k = L.length := by omega
        rw [List.take_length] at h1 h2
        have WZ := (write_any [10] _ B b wr h2 (by simp only [List.length_append, List.length_cons, List.length_nil]; omega)).mono (R' := fun e X => (∃ n, e = .returned (.tuple #[.int .i64 n, .nilIface])) ∧ Hid (Bld X B b (l0 ++ numT head L) ∧ R X)) fun e X h => ⟨h.1, by rw [HNT.out]; simpa using h.2.1, HRW.out wr X h3 h.2.2.1 h.2.2.2⟩
        rw [show (⟨[(10 : UInt8)].toArray⟩ : ByteArray) = ⟨#[10]⟩ from rfl] at WZ
        clear hP h1 h2 h3 HRW HRK HG HR HNT HM
        go_wp2_with fail
        refine WZ.mono ?_
        rintro e X' ⟨⟨n, rfl⟩, fin⟩
        clear WZ
        go_wp2_with fail
        go_end0
        exact ⟨⟨_, rfl⟩, fin.out.1, fin.out.2⟩

set_option maxRecDepth 100000 in
set_option maxHeartbeats 8000000 in
theorem wnum_uint32 (B b : Nat) (R : World → Prop) (HRW : Hid (∀ X X', R X → Below B X X' → Lib.OthersKept 5 (some b) X X' → R X')) (HRK : Hid (∀ X X', R X → Keeps (fun _ => False) X X' → R X')) (HG : Hid (∀ X, R X → Gp X)) (head : List UInt8) (hh : head.length ≤ 64) (a : Option Addr) (cap : Nat) (L : List Nat) (hL : L.length ≤ 1048576) (HM : Hid (∀ n ∈ L, n ≤ m32))
    (HR : Hid (∀ X, R X → ∀ k (hk : k < L.length), k < cap ∧ ∃ g off, a = some ⟨g, off, none⟩ ∧ X.cell? ⟨g, off + k, none⟩ = some (.int .u32 (L[k] : Int)))) (l0 : List UInt8) (hl0 : l0.length ≤ 1099511627776) (w : World) (hR : R w) (hb : Bld w B b l0) :
    Calls Tryz.prog 21 #[.pointer (some ⟨b, 0, none⟩), .string ⟨head.toArray⟩, .slice a L.length cap] w fun e w' => (∃ v, e = .returned v) ∧ Bld w' B b (l0 ++ numT head L) ∧ R w' := by
  by_cases hL0 : L = []
  · subst hL0
    have hb' : Hid (Bld w B b (l0 ++ numT head [])) := by unfold Hid; rw [show numT head [] = [] from rfl, List.append_nil]; exact hb
    clear HRW HRK HG HR hb HM
    go_enter Tryz.func21, Tryz.ntmps21
    go_wp2_with fail
    refine bodyPost_ret (results_none rfl _ _ _) rfl ?_
    exact ⟨⟨_, rfl⟩, hb'.out, hR⟩
  · have hpos := List.length_pos_iff.2 hL0
    have hz : ((L.length : Int) == 0) = false := by simp; omega
    have WH := (write_any head l0 B b w hb (by omega)).mono (R' := fun e X => (∃ n, e = .returned (.tuple #[.int .i64 n, .nilIface])) ∧ Hid (Bld X B b (l0 ++ head) ∧ R X)) fun e X h => ⟨h.1, h.2.1, HRW.out w X hR h.2.2.1 h.2.2.2⟩
    have HNT : Hid (numT head L = head ++ blk64 L ++ [10]) := by unfold Hid numT; rw [if_neg hL0]
    clear hb hR hL0
    go_enter Tryz.func21, Tryz.ntmps21
    go_wp2_with fail
    refine WH.mono ?_
    rintro e w1 ⟨⟨n0, rfl⟩, S0⟩
    clear WH
    go_wp2_with fail
    go_loopw [16] (fun u wr => ∃ k : Nat, u = .int .i64 (k : Int) ∧ k ≤ L.length ∧ Hid ((blk64 (L.take k)).length ≤ 21 * k ∧ Bld wr B b (l0 ++ head ++ blk64 (L.take k)) ∧ R wr)) (fun u _ => L.length - (intOf u).toNat)
    case atStart => exact ⟨0, rfl, Nat.zero_le _, ⟨by simp [blk64], by simpa [blk64] using S0.out.1, S0.out.2⟩⟩
    case round =>
      obtain ⟨k, rfl, hk, hP⟩ := hrel
      clear S0
      by_cases hlt : k < L.length
      · have hki : (k : Int) < L.length := by omega
        obtain ⟨hcap, g, off, rfl, hc⟩ := HR.out wr hP.out.2.2 k hlt
        have hkc : (k : Int) < cap := by omega
        have hnm := HM.out _ (List.getElem_mem hlt)
        have HT : Hid (blk64 (L.take (k + 1)) = blk64 (L.take k) ++ 32 :: Lib.decDigits (L[k])) := by
          unfold Hid
          rw [List.take_succ_eq_append_getElem hlt, blk64_snoc]
        have HQ := hP.out
        generalize L[k]'hlt = y at *
        have hy64 : y < 18446744073709551616 := Nat.lt_of_le_of_lt hnm (by decide)
        have hdl : (Lib.decDigits y).length ≤ 20 := by rw [Lib.decDigits_length]; exact Lib.nDigits_le20 _ (by omega)
        have FM := fmt_any y hy64 wr (HG.out wr HQ.2.2)
        have HWZ : Hid (∀ X, Keeps (fun _ => False) wr X → Calls Tryz.prog 19 #[.pointer (some ⟨b, 0, none⟩), .string (⟨#[32]⟩ ++ ⟨(Lib.decDigits y).toArray⟩)] X fun e X' => (∃ n, e = .returned (.tuple #[.int .i64 n, .nilIface])) ∧ Hid ((blk64 (L.take (k + 1))).length ≤ 21 * (k + 1) ∧ Bld X' B b (l0 ++ head ++ blk64 (L.take (k + 1))) ∧ R X')) := fun X kX => by
          have := str_app [32] (Lib.decDigits y)
          rw [show (⟨#[32]⟩ : ByteArray) = ⟨[(32 : UInt8)].toArray⟩ from rfl, this]
          refine (write_any ([32] ++ Lib.decDigits y) _ B b X (HQ.2.1.keeps kX) (by simp only [List.length_append, List.length_cons, List.length_nil]; omega)).mono fun e X' h => ⟨h.1, ?_, ?_, HRW.out X X' (HRK.out wr X HQ.2.2 kX) h.2.2.1 h.2.2.2⟩
          · rw [HT.out]; simp only [List.length_append, List.length_cons]; omega
          · rw [HT.out, ← List.append_assoc]; exact h.2.1
        have hcv : IntKind.u64.wrap (y : Int) = (y : Int) := by rw [IntKind.wrap_u64]; omega
        have tm1 : ¬ 9223372036854775807 < 1 + (Lib.decDigits y).length := by omega
        have tm2 : ¬ 9223372036854775807 < (Lib.decDigits y).length + 1 := by omega
        generalize Lib.decDigits y = D at *
        clear hP HQ HT HRW HRK HG HR HNT HM hnm hdl
        go_wp2_with fail
        refine FM.mono ?_
        rintro e X ⟨rfl, kX⟩
        have WZ := HWZ.out X kX
        clear FM HWZ kX
        go_wp2_with fail
        refine WZ.mono ?_
        rintro e X' ⟨⟨n, rfl⟩, fin⟩
        clear WZ
        go_wp2_with fail
        go_roundw
        · exact ⟨k + 1, by simp, by omega, fin⟩
        · simp [intOf]; omega
      · have hki : ¬ (k : Int) < L.length := by omega
        obtain ⟨h1, h2, h3⟩ := hP.out
        obtain rfl : k = L.length := by omega
        rw [List.take_length] at h1 h2
        have WZ := (write_any [10] _ B b wr h2 (by simp only [List.length_append, List.length_cons, List.length_nil]; omega)).mono (R' := fun e X => (∃ n, e = .returned (.tuple #[.int .i64 n, .nilIface])) ∧ Hid (Bld X B b (l0 ++ numT head L) ∧ R X)) fun e X h => ⟨h.1, by rw [HNT.out]; simpa using h.2.1, HRW.out wr X h3 h.2.2.1 h.2.2.2⟩
        rw [show (⟨[(10 : UInt8)].toArray⟩ : ByteArray) = ⟨#[10]⟩ from rfl] at WZ
        clear hP h1 h2 h3 HRW HRK HG HR HNT HM
        go_wp2_with fail
        refine WZ.mono ?_
        rintro e X' ⟨⟨n, rfl⟩, fin⟩
        clear WZ
        go_wp2_with fail
        go_end0
        exact ⟨⟨_, rfl⟩, fin.out.1, fin.out.2⟩
end Go.Proofs.YtppejcfghlpbjaaGreatDoor


/- Walk of Script (package asm). No statement of the seat is proved here. -/
namespace Go.Proofs.YtppejcfghlpbjaaGreatDoor
open Go.RowKit Go.Shelf

def progT (ps : List (List I5)) : List UInt8 := ps.flatMap fun p => threadW ++ [10] ++ plainL p
theorem plainK_map {L : List I5} : ∀ k, k ≤ L.length → plainK L k = ((L.take k).map textL).flatMap (· ++ [10])
  | 0, _ => by simp [plainK]
  | k + 1, h => by
    rw [plainK_succ (by omega), plainK_map k (by omega), List.take_succ_eq_append_getElem (by omega), List.map_append, List.flatMap_append]
    simp only [List.map_cons, List.map_nil, List.flatMap_cons, List.flatMap_nil, List.append_nil]
theorem plainL_map (L : List I5) : plainL L = (L.map textL).flatMap (· ++ [10]) := by
  unfold plainL
  rw [plainK_map _ (Nat.le_refl _), List.take_length]
theorem plainL_len {L : List I5} (hf : L.all formedB = true) (hw : ∀ i ∈ L, i.wf) : (plainL L).length ≤ 128 * L.length := by
  rw [plainL_map]
  induction L with
  | nil => simp
  | cons i L ih =>
    rw [List.all_cons, Bool.and_eq_true] at hf
    have h1 := text_len hf.1 (hw i (by simp)).2.2.2.2.1 (hw i (by simp)).2.2.2.2.2
    have h2 := ih hf.2 (fun j hj => hw j (by simp [hj]))
    simp only [List.map_cons, List.flatMap_cons, List.length_append, List.length_cons, List.length_nil]
    omega
theorem progT_snoc (P : List (List I5)) (p : List I5) : progT (P ++ [p]) = progT P ++ (threadW ++ [10]) ++ plainL p := by simp [progT]
theorem progT_bodies (ps : List (List I5)) : progT ps = (ps.flatMap fun p => threadW :: p.map textL).flatMap (· ++ [10]) := by
  unfold progT
  induction ps with
  | nil => rfl
  | cons p ps ih =>
    rw [List.flatMap_cons, List.flatMap_cons, List.flatMap_append, ← ih, plainL_map]
    simp
theorem scrT_eq (x : Sc) : scrT x = numT cellsW [x.cells] ++ numT firstW x.first ++ progT x.progs ++ numT picksW x.picks := by
  unfold scrT bodies
  rw [List.flatMap_cons, List.flatMap_append, List.flatMap_append, ← progT_bodies]
  have h : ∀ (head : List UInt8) (L : List Nat), (if L = [] then [] else [head ++ blk64 L]).flatMap (· ++ [10]) = numT head L := fun head L => by
    unfold numT
    split
    · rfl
    · simp
  rw [h, h]
  have h2 : numT cellsW [x.cells] = cellsW ++ blk64 [x.cells] ++ [10] := by unfold numT; rw [if_neg (by simp)]
  rw [h2]
  simp
/-- Are all programs formed? -/
def allF (ps : List (List I5)) : Bool := ps.all fun p => p.all formedB
theorem allF_no {ps : List (List I5)} {k : Nat} (hk : k < ps.length) (h : (ps[k]).all formedB = false) : allF ps = false := by
  unfold allF
  rw [List.all_eq_false]
  exact ⟨ps[k], List.getElem_mem hk, by simp [h]⟩
theorem allF_take {ps : List (List I5)} {k : Nat} (hk : k < ps.length) (h0 : allF (ps.take k) = true) (h : (ps[k]).all formedB = true) : allF (ps.take (k + 1)) = true := by
  unfold allF at *
  rw [List.take_succ_eq_append_getElem hk, List.all_append, h0]
  simp [h]
/-- What Script answers, of a script whose cells are none below nought. -/
def SrPost (x : Sc) (e : Ending) : Prop := (allF x.progs = true → e = .returned (.tuple #[.string ⟨(scrT x).toArray⟩, .int .i64 0])) ∧ (allF x.progs = false → e = .returned (.tuple #[.string ⟨#[]⟩, .int .i64 180]))
/-- What a script may hold, to be written. -/
structure Few (x : Sc) : Prop where
  cells : x.cells ≤ m63
  first : ∀ n ∈ x.first, n ≤ m64
  picks : ∀ n ∈ x.picks, n ≤ m32
  wf : ∀ p ∈ x.progs, ∀ i ∈ p, i.wf
  nf : x.first.length ≤ 2000
  nk : x.picks.length ≤ 2000
  np : x.progs.length ≤ 300
  each : ∀ p ∈ x.progs, p.length ≤ 2000
theorem blk64_len (L : List Nat) (h : ∀ n ∈ L, n ≤ m64) : (blk64 L).length ≤ 21 * L.length := by
  induction L with
  | nil => simp [blk64]
  | cons n L ih =>
    have h1 := ih (fun k hk => h k (by simp [hk]))
    have hn : n ≤ 18446744073709551615 := h n (by simp)
    have hd : (Lib.decDigits n).length ≤ 20 := by rw [Lib.decDigits_length]; exact Lib.nDigits_le20 _ (by omega)
    have e : blk64 (n :: L) = 32 :: (Lib.decDigits n ++ blk64 L) := by simp [blk64]
    rw [e]
    simp only [List.length_cons, List.length_append]
    omega
theorem numT_len (head : List UInt8) (L : List Nat) (h : ∀ n ∈ L, n ≤ m64) : (numT head L).length ≤ head.length + 21 * L.length + 1 := by
  unfold numT
  split
  · simp
  · have := blk64_len L h
    simp only [List.length_append, List.length_cons, List.length_nil]
    omega
set_option maxRecDepth 100000 in
set_option maxHeartbeats 8000000 in
theorem script_neg (c : Int) (hc : c < 0) (vf vp vk : Value) (w : World) (h1 : ∃ a n k, vf = .slice a n k) (h2 : ∃ a n k, vp = .slice a n k) (h3 : ∃ a n k, vk = .slice a n k) : Calls Tryz.prog 8 #[.agg #[.int .i64 c, vf, vp, vk]] w fun e w' => e = .returned (.tuple #[.string ⟨#[]⟩, .int .i64 2]) ∧ Keeps (fun _ => False) w w' := by
  obtain ⟨fa, fn, fc, rfl⟩ := h1
  obtain ⟨pa, pn, pc, rfl⟩ := h2
  obtain ⟨ka, kn, kc, rfl⟩ := h3
  have kA := (Keeps.refl (fun _ => False) w).alloc (.cells #[.int .i64 c, .slice fa fn fc, .slice pa pn pc, .slice ka kn kc] 26)
  go_enter Tryz.func8, Tryz.ntmps8
  go_wp2_with fail
  go_ret2
  exact ⟨rfl, kA⟩
set_option maxRecDepth 100000 in
set_option maxHeartbeats 8000000 in
theorem script_any (x : Sc) (hx : Few x) (vf vp vk : Value) (w : World) (hg : Gp w) (h : ScAt w vf vp vk x) : Calls Tryz.prog 8 #[.agg #[.int .i64 (x.cells : Int), vf, vp, vk]] w fun e w' => SrPost x e ∧ Keeps (fun _ => False) w w' := by
  have HA : Hid (∀ X, Keeps (fun _ => False) w X → ScAt X vf vp vk x) := fun X k => h.keeps k
  have HOK : Hid (allF x.progs = true → SrPost x (.returned (.tuple #[.string ⟨(scrT x).toArray⟩, .int .i64 0]))) := fun q => ⟨fun _ => rfl, (fun f => by rw [q] at f; cases f)⟩
  have HNO : Hid (allF x.progs = false → SrPost x (.returned (.tuple #[.string ⟨#[]⟩, .int .i64 180]))) := fun q => ⟨(fun f => by rw [q] at f; cases f), fun _ => rfl⟩
  have HGP : Hid (∀ X, Keeps (fun _ => False) w X → Gp X) := fun X k => hg.keeps k
  obtain ⟨⟨fa, fc, rfl, lf, _⟩, ⟨pa, pc, rfl, lp, _⟩, ⟨ka, kc, rfl, lk, _⟩⟩ := h
  obtain ⟨c, F, P, K⟩ := x
  dsimp only at *
  have hc63 : (c : Int) ≤ 9223372036854775807 := by have : c ≤ 9223372036854775807 := hx.cells; omega
  have hc0 : ¬ (c : Int) < 0 := by omega
  have hnf : F.length ≤ 2000 := hx.nf
  have hnk : K.length ≤ 2000 := hx.nk
  have hnp : P.length ≤ 300 := hx.np
  have HX : Hid (Few ⟨c, F, P, K⟩) := hx
  obtain ⟨W1, hW1⟩ : ∃ W, W = w.alloc (.cells #[.int .i64 (c : Int), .slice fa F.length fc, .slice pa P.length pc, .slice ka K.length kc] 26) := ⟨_, rfl⟩
  have k1 : Keeps (fun _ => False) w W1 := by rw [hW1]; exact (Keeps.refl _ w).alloc _
  have b1 : W1.heap[w.heap.size]? = some (.cells #[.int .i64 (c : Int), .slice fa F.length fc, .slice pa P.length pc, .slice ka K.length kc] 26 (0, 0)) := by rw [hW1]; exact alloc_block _ _
  have s1 : W1.heap.size = w.heap.size + 1 := by rw [hW1]; simp
  obtain ⟨W2, hW2⟩ : ∃ W, W = W1.alloc (.cells #[.pointer none, .slice none 0 0] 54) := ⟨_, rfl⟩
  have k2 : Keeps (fun _ => False) W1 W2 := by rw [hW2]; exact (Keeps.refl _ W1).alloc _
  have s2 : W2.heap.size = w.heap.size + 2 := by rw [hW2]; simp [s1]
  have bl2 : Bld W2 W1.heap.size W1.heap.size [] := by rw [hW2]; exact Bld.new W1
  obtain ⟨W3, hW3⟩ : ∃ W, W = W2.alloc (.cells #[.int .i64 (c : Int)] 3) := ⟨_, rfl⟩
  have k3 : Keeps (fun _ => False) W2 W3 := by rw [hW3]; exact (Keeps.refl _ W2).alloc _
  have b3 : W3.heap[w.heap.size + 2]? = some (.cells #[.int .i64 (c : Int)] 3 (0, 0)) := by rw [hW3, ← s2]; exact alloc_block _ _
  have bl3 := bl2.keeps k3
  rw [s1] at bl3
  have HRW1 : Hid (∀ X X', (Keeps (fun _ => False) W1 X ∧ X.heap[w.heap.size + 2]? = some (.cells #[.int .i64 (c : Int)] 3 (0, 0))) → Below (w.heap.size + 1) X X' → Lib.OthersKept 5 (some (w.heap.size + 1)) X X' → (Keeps (fun _ => False) W1 X' ∧ X'.heap[w.heap.size + 2]? = some (.cells #[.int .i64 (c : Int)] 3 (0, 0)))) := fun X X' q1 q2 q3 => ⟨keeps_upon q1.1 (by rw [s1]; exact q2), q3 _ _ q1.2 (by simp) (fun cc fz f => by simp only [Obj.cells.injEq] at f; exact absurd f.2.1 (by decide))⟩
  have WN := wnum_int (w.heap.size + 1) (w.heap.size + 1) (fun X => Keeps (fun _ => False) W1 X ∧ X.heap[w.heap.size + 2]? = some (.cells #[.int .i64 (c : Int)] 3 (0, 0))) HRW1 (fun X X' q k => ⟨q.1.trans k, (k.block _ (lt_of_block q.2) (fun f => f)).trans q.2⟩) (fun X q => HGP.out X (k1.trans q.1)) cellsW (by decide) (some ⟨w.heap.size + 2, 0, none⟩) 1 [c] (by simp) (fun n hn => by simp only [List.mem_singleton] at hn; subst hn; exact hx.cells) (fun X q k hk => by
    obtain rfl : k = 0 := by simp at hk; omega
    exact ⟨by omega, _, _, rfl, by rw [cell_of_block q.2]; rfl⟩) [] (by simp) W3 ⟨k2.trans k3, b3⟩ bl3
  rw [show (⟨cellsW.toArray⟩ : ByteArray) = ⟨#[99, 101, 108, 108, 115]⟩ from rfl, List.nil_append, show [c].length = 1 from rfl] at WN
  have c0 : W1.cell? ⟨w.heap.size, 0, none⟩ = some (.int .i64 (c : Int)) := by rw [cell_of_block b1]; rfl
  have c0b : W2.cell? ⟨w.heap.size, 0, none⟩ = some (.int .i64 (c : Int)) := cell_keep k2 c0
  have HBX : Hid (∀ X, Keeps (fun _ => False) W1 X → X.cell? ⟨w.heap.size, 1, none⟩ = some (.slice fa F.length fc) ∧ X.cell? ⟨w.heap.size, 2, none⟩ = some (.slice pa P.length pc) ∧ X.cell? ⟨w.heap.size, 3, none⟩ = some (.slice ka K.length kc)) := fun X k => by
    have q := (k.block _ (lt_of_block b1) (fun f => f)).trans b1
    exact ⟨by rw [cell_of_block q]; rfl, by rw [cell_of_block q]; rfl, by rw [cell_of_block q]; rfl⟩
  have HW1 : Hid (W1 = w.alloc (.cells #[.int .i64 (c : Int), .slice fa F.length fc, .slice pa P.length pc, .slice ka K.length kc] 26)) := hW1
  have HW2 : Hid (W2 = W1.alloc (.cells #[.pointer none, .slice none 0 0] 54)) := hW2
  have HW3 : Hid (W3 = W2.alloc (.cells #[.int .i64 (c : Int)] 3)) := hW3
  have HS1 : Hid (W1.heap.size = w.heap.size + 1) := s1
  have K1 : Hid (Keeps (fun _ => False) w W1) := k1
  have hR1 : ∀ X X', Keeps (fun _ => False) W1 X → Below (w.heap.size + 1) X X' → Lib.OthersKept 5 (some (w.heap.size + 1)) X X' → Keeps (fun _ => False) W1 X' := fun X X' q1 q2 _ => keeps_upon q1 (by rw [s1]; exact q2)
  have HRW : Hid (∀ X X', Keeps (fun _ => False) W1 X → Below (w.heap.size + 1) X X' → Lib.OthersKept 5 (some (w.heap.size + 1)) X X' → Keeps (fun _ => False) W1 X') := hR1
  have HRK : Hid (∀ X X', Keeps (fun _ => False) W1 X → Keeps (fun _ => False) X X' → Keeps (fun _ => False) W1 X') := fun X X' q k => q.trans k
  have HG1 : Hid (∀ X, Keeps (fun _ => False) W1 X → Gp X) := fun X q => HGP.out X (k1.trans q)
  have hl1 : (numT cellsW [c]).length ≤ 200 := by
    have := numT_len cellsW [c] (fun n hn => by simp only [List.mem_singleton] at hn; subst hn; exact Nat.le_trans hx.cells (by decide))
    have e : cellsW.length = 5 := rfl
    simp only [List.length_cons, List.length_nil] at this
    omega
  have WF := fun X (kX : Keeps (fun _ => False) W1 X) (bX : Bld X (w.heap.size + 1) (w.heap.size + 1) (numT cellsW [c])) => wnum_uint64 (w.heap.size + 1) (w.heap.size + 1) (fun X => Keeps (fun _ => False) W1 X) HRW HRK HG1 firstW (by decide) fa fc F (by omega) HX.out.first (fun Y q k hk => by
    obtain ⟨⟨_, _, e1, e2, e3⟩, _, _⟩ := HA.out Y (k1.trans q)
    simp only [Value.slice.injEq] at e1
    obtain ⟨rfl, -, rfl⟩ := e1
    exact ⟨by omega, e3 k hk⟩) (numT cellsW [c]) (by omega) X kX bX
  rw [show (⟨firstW.toArray⟩ : ByteArray) = ⟨#[102, 105, 114, 115, 116]⟩ from rfl] at WF
  have hl2 : (numT firstW F).length ≤ 50000 := by
    have := numT_len firstW F HX.out.first
    have e : firstW.length = 5 := rfl
    omega
  have WK := fun l0 (hl0 : l0.length ≤ 1099511627776) X (kX : Keeps (fun _ => False) W1 X) (bX : Bld X (w.heap.size + 1) (w.heap.size + 1) l0) => wnum_uint32 (w.heap.size + 1) (w.heap.size + 1) (fun X => Keeps (fun _ => False) W1 X) HRW HRK HG1 picksW (by decide) ka kc K (by omega) HX.out.picks (fun Y q k hk => by
    obtain ⟨_, _, ⟨_, _, e1, e2, e3⟩⟩ := HA.out Y (k1.trans q)
    simp only [Value.slice.injEq] at e1
    obtain ⟨rfl, -, rfl⟩ := e1
    exact ⟨by omega, e3 k hk⟩) l0 hl0 X kX bX
  rw [show (⟨picksW.toArray⟩ : ByteArray) = ⟨#[112, 105, 99, 107, 115]⟩ from rfl] at WK
  have HWK : Hid _ := WK
  have HST : Hid (scrT ⟨c, F, P, K⟩ = numT cellsW [c] ++ numT firstW F ++ progT P ++ numT picksW K) := scrT_eq _
  clear hW1 hW2 hW3 k1 k2 k3 b1 b3 bl2 bl3 HRW1 hR1 s1 s2 HGP hx WK lf lp lk
  go_enter Tryz.func8, Tryz.ntmps8
  go_wp2_with fail
  rw [← HW1.out, ← HW2.out, ← HW3.out]
  refine WN.mono ?_
  rintro e X1 ⟨⟨v, rfl⟩, bX1, kX1, -⟩
  obtain ⟨x1, -, -⟩ := HBX.out X1 kX1
  have WF1 := WF X1 kX1 bX1
  clear WN WF c0 c0b HW2 HW3 bX1 kX1
  go_wp2_with fail
  refine WF1.mono ?_
  rintro e X2 ⟨⟨v2, rfl⟩, bX2, kX2⟩
  obtain ⟨-, x2, -⟩ := HBX.out X2 kX2
  have S0 : Hid (allF (P.take 0) = true ∧ (progT (P.take 0)).length ≤ 300000 * 0 ∧ Bld X2 (w.heap.size + 1) (w.heap.size + 1) (numT cellsW [c] ++ numT firstW F ++ progT (P.take 0)) ∧ Keeps (fun _ => False) W1 X2) := ⟨rfl, by simp [progT], by simpa [progT] using bX2, kX2⟩
  clear WF1 bX2 kX2 x1
  go_wp2_with fail
  clear x2
  go_loopw [21] (fun u wr => ∃ k : Nat, u = .int .i64 (k : Int) ∧ k ≤ P.length ∧ Hid (allF (P.take k) = true ∧ (progT (P.take k)).length ≤ 300000 * k ∧ Bld wr (w.heap.size + 1) (w.heap.size + 1) (numT cellsW [c] ++ numT firstW F ++ progT (P.take k)) ∧ Keeps (fun _ => False) W1 wr)) (fun u _ => P.length - (intOf u).toNat)
  case atStart => exact ⟨0, rfl, Nat.zero_le _, S0⟩
  case round =>
    obtain ⟨k, rfl, hk, hP⟩ := hrel
    clear S0
    by_cases hlt : k < P.length
    · have hki : (k : Int) < P.length := by omega
      obtain ⟨h1, h2, h3, h4⟩ := hP.out
      obtain ⟨_, ⟨_, _, e1, e2, e3⟩, _⟩ := HA.out wr (K1.out.trans h4)
      simp only [Value.slice.injEq] at e1
      obtain ⟨rfl, -, rfl⟩ := e1
      obtain ⟨g, off, v, rfl, cx, ia⟩ := e3 k hlt
      have e2' : P.length ≤ pc := e2
      have hkc : (k : Int) < pc := by omega
      clear e2'
      have hpm : P[k] ∈ P := List.getElem_mem hlt
      have hel : (P[k]).length ≤ 2000 := HX.out.each _ hpm
      have hwf : ∀ i ∈ P[k], i.wf := HX.out.wf _ hpm
      have HF : Hid (((P[k]).all formedB = false → allF P = false) ∧ ((P[k]).all formedB = true → allF (P.take (k + 1)) = true ∧ (plainL (P[k])).length ≤ 256000)) := ⟨allF_no hlt, fun q => ⟨allF_take hlt h1 q, by have := plainL_len q hwf; omega⟩⟩
      have HPT : Hid (progT (P.take (k + 1)) = progT (P.take k) ++ (threadW ++ [10]) ++ plainL (P[k])) := by
        unfold Hid
        rw [List.take_succ_eq_append_getElem hlt, progT_snoc]
      obtain ⟨aa, ac, rfl, -⟩ := ia.form
      have WT := (write_any (threadW ++ [10]) _ _ _ wr h3 (by have e : (threadW ++ [(10 : UInt8)]).length = 7 := rfl; simp only [List.length_append] at e ⊢; omega)).mono (R' := fun e X => (∃ n, e = .returned (.tuple #[.int .i64 n, .nilIface])) ∧ Hid (Bld X (w.heap.size + 1) (w.heap.size + 1) (numT cellsW [c] ++ numT firstW F ++ progT (P.take k) ++ (threadW ++ [10])) ∧ Keeps (fun _ => False) W1 X)) fun e X q => ⟨q.1, q.2.1, HRW.out wr X h4 q.2.2.1 q.2.2.2⟩
      rw [show (⟨(threadW ++ [(10 : UInt8)]).toArray⟩ : ByteArray) = ⟨#[116, 104, 114, 101, 97, 100, 10]⟩ from rfl] at WT
      have HWC : Hid (∀ X, Bld X (w.heap.size + 1) (w.heap.size + 1) (numT cellsW [c] ++ numT firstW F ++ progT (P.take k) ++ (threadW ++ [10])) → Keeps (fun _ => False) W1 X → Calls Tryz.prog 20 #[.pointer (some ⟨w.heap.size + 1, 0, none⟩), .slice aa (P[k]).length ac] X fun e X' => (((P[k]).all formedB = true → e = .returned (.int .i64 0) ∧ Bld X' (w.heap.size + 1) (w.heap.size + 1) (numT cellsW [c] ++ numT firstW F ++ progT (P.take k) ++ (threadW ++ [10]) ++ plainL (P[k]))) ∧ ((P[k]).all formedB = false → e = .returned (.int .i64 180))) ∧ Keeps (fun _ => False) W1 X') := fun X bX kX => by
        have iw : InsAt W1 (.slice aa (P[k]).length ac) (P[k]) := by
          obtain ⟨_, ⟨_, _, e1', _, e3'⟩, _⟩ := HA.out W1 K1.out
          simp only [Value.slice.injEq] at e1'
          obtain ⟨rfl, -, rfl⟩ := e1'
          obtain ⟨g', off', v', e4, cx', ia'⟩ := e3' k hlt
          simp only [Option.some.injEq, Addr.mk.injEq] at e4
          obtain ⟨rfl, rfl, -⟩ := e4
          have cx2 := cell_keep h4 cx'
          rw [cx] at cx2
          have ev := Option.some.inj cx2
          rw [← ev] at ia'
          exact ia'
        have := wcode_any (.slice aa (P[k]).length ac) (P[k]) (by omega) W1 (HG1.out W1 (Keeps.refl _ _)) iw (w.heap.size + 1) (numT cellsW [c] ++ numT firstW F ++ progT (P.take k) ++ (threadW ++ [10])) (by have e : (threadW ++ [(10 : UInt8)]).length = 7 := rfl; simp only [List.length_append] at e ⊢; omega) X kX (by rw [HS1.out]; exact bX)
        rw [HS1.out] at this
        exact this
      generalize P[k]'hlt = p at *
      clear ia HA hpm hwf e2 e3 h1 h3 HX
      have hln := h2
      clear h2
      have H4 : Hid (Keeps (fun _ => False) W1 wr) := h4
      clear h4 hP
      go_wp2_with fail
      refine WT.mono ?_
      rintro e X3 ⟨⟨n3, rfl⟩, S3⟩
      have WC := HWC.out X3 S3.out.1 S3.out.2
      clear WT HWC S3
      go_wp2_with fail
      refine WC.mono ?_
      cases hf : p.all formedB with
      | false =>
        rintro e X4 ⟨⟨-, q⟩, kX4⟩
        obtain rfl := q rfl
        have hR := HNO.out (HF.out.1 hf)
        have kf := K1.out.trans kX4
        clear WC HF HPT HOK HNO hf
        go_wp2_with fail
        go_ret2
        exact ⟨hR, kf⟩
      | true =>
        rintro e X4 ⟨⟨q, -⟩, kX4⟩
        obtain ⟨rfl, bX4⟩ := q rfl
        obtain ⟨hF, hpl⟩ := HF.out.2 hf
        have FI : Hid (allF (P.take (k + 1)) = true ∧ (progT (P.take (k + 1))).length ≤ 300000 * (k + 1) ∧ Bld X4 (w.heap.size + 1) (w.heap.size + 1) (numT cellsW [c] ++ numT firstW F ++ progT (P.take (k + 1))) ∧ Keeps (fun _ => False) W1 X4) := by
          refine ⟨hF, ?_, ?_, kX4⟩
          · rw [HPT.out]
            have e : (threadW ++ [(10 : UInt8)]).length = 7 := rfl
            simp only [List.length_append] at e ⊢
            omega
          · rw [HPT.out]; simpa only [List.append_assoc] using bX4
        clear WC HF HPT hf bX4 kX4 hF hpl
        go_wp2_with fail
        go_roundw
        · exact ⟨k + 1, by simp, by omega, FI⟩
        · simp [intOf]; omega
    · have hki : ¬ (k : Int) < P.length := by omega
      obtain rfl : k = P.length := by omega
      obtain ⟨h1, h2, h3, h4⟩ := hP.out
      rw [List.take_length] at h1 h2 h3
      obtain ⟨-, -, x3⟩ := HBX.out wr h4
      have WP := HWK.out _ (by simp only [List.length_append]; omega) wr h4 h3
      have hR := HOK.out h1
      rw [HST.out] at hR
      clear hP h1 h2 h3 h4 HA HBX HWK HOK HNO HST HX HRW HRK HG1
      go_wp2_with fail
      refine WP.mono ?_
      rintro e X5 ⟨⟨v5, rfl⟩, bX5, kX5⟩
      have BS := (bstring_any _ _ _ X5 bX5).mono (R' := fun e X => e = .returned (.string ⟨(numT cellsW [c] ++ numT firstW F ++ progT P ++ numT picksW K).toArray⟩) ∧ Keeps (fun _ => False) w X) fun e X q => ⟨q.1, K1.out.trans (keeps_upon kX5 (by rw [HS1.out]; exact q.2))⟩
      generalize numT cellsW [c] ++ numT firstW F ++ progT P ++ numT picksW K = Z at *
      clear WP bX5 kX5
      go_wp2_with fail
      refine BS.mono ?_
      rintro e X6 ⟨rfl, kX6⟩
      clear BS
      go_wp2_with fail
      go_ret2
      exact ⟨hR, kX6⟩
end Go.Proofs.YtppejcfghlpbjaaGreatDoor


/- Walk of the document's Script (package parleyref09). No statement of the seat is proved here. -/
namespace Go.Proofs.YtppejcfghlpbjaaGreatDoor
open Go.RowKit Go.Shelf

/-- The text of a line of numbers, so far. -/
def nK (head : List UInt8) (L : List Nat) (k : Nat) : List UInt8 := if k = 0 then [] else head ++ blk64 (L.take k) ++ (if k = L.length then [10] else [])
theorem nK_end (head : List UInt8) (L : List Nat) : nK head L L.length = numT head L := by
  unfold nK numT
  by_cases h : L = []
  · rw [if_pos h, if_pos (by rw [h]; rfl)]
  · rw [if_neg h, if_neg (fun e => h (List.length_eq_zero_iff.1 e)), if_pos rfl, List.take_length]
theorem nK_step (head : List UInt8) (L : List Nat) {k : Nat} (hk : k < L.length) : nK head L (k + 1) = (if k = 0 then head else nK head L k) ++ [32] ++ Lib.decDigits (L[k]) ++ (if k + 1 = L.length then [10] else []) := by
  unfold nK
  rw [if_neg (by omega : ¬ k + 1 = 0), List.take_succ_eq_append_getElem hk, blk64_snoc]
  by_cases h0 : k = 0
  · subst h0
    rw [if_pos rfl]
    simp [blk64]
  · rw [if_neg h0, if_neg h0, if_neg (by omega : ¬ k = L.length)]
    simp
theorem cat (A B : List UInt8) : ∃ Y : List UInt8, (⟨A.toArray⟩ : ByteArray) ++ ⟨B.toArray⟩ = ⟨Y.toArray⟩ ∧ Y = A ++ B ∧ Y.length = A.length + B.length := ⟨A ++ B, str_app A B, rfl, by simp⟩
set_option maxRecDepth 100000 in
set_option maxHeartbeats 8000000 in
theorem rscript_neg (c : Int) (hc : c < 0) (vf vp vk : Value) (w : World) (h1 : ∃ a n k, vf = .slice a n k) (h2 : ∃ a n k, vp = .slice a n k) (h3 : ∃ a n k, vk = .slice a n k) : Calls Tryz.prog 9 #[.agg #[.int .i64 c, vf, vp, vk]] w fun e w' => e = .returned (.tuple #[.string ⟨#[]⟩, .int .i64 2]) ∧ Keeps (fun _ => False) w w' := by
  obtain ⟨fa, fn, fc, rfl⟩ := h1
  obtain ⟨pa, pn, pc, rfl⟩ := h2
  obtain ⟨ka, kn, kc, rfl⟩ := h3
  have kA := (Keeps.refl (fun _ => False) w).alloc (.cells #[.int .i64 c, .slice fa fn fc, .slice pa pn pc, .slice ka kn kc] 26)
  go_enter Tryz.func9, Tryz.ntmps9
  go_wp2_with fail
  go_ret2
  exact ⟨rfl, kA⟩
set_option maxRecDepth 100000 in
set_option maxHeartbeats 8000000 in
theorem rscript_any (x : Sc) (hx : Few x) (vf vp vk : Value) (w : World) (h : ScAt w vf vp vk x) : Calls Tryz.prog 9 #[.agg #[.int .i64 (x.cells : Int), vf, vp, vk]] w fun e w' => SrPost x e ∧ Keeps (fun _ => False) w w' := by
  have HA : Hid (∀ X, Keeps (fun _ => False) w X → ScAt X vf vp vk x) := fun X k => h.keeps k
  have HOK : Hid (allF x.progs = true → SrPost x (.returned (.tuple #[.string ⟨(scrT x).toArray⟩, .int .i64 0]))) := fun q => ⟨fun _ => rfl, (fun f => by rw [q] at f; cases f)⟩
  have HNO : Hid (allF x.progs = false → SrPost x (.returned (.tuple #[.string ⟨#[]⟩, .int .i64 180]))) := fun q => ⟨(fun f => by rw [q] at f; cases f), fun _ => rfl⟩
  obtain ⟨⟨fa, fc, rfl, _⟩, ⟨pa, pc, rfl, _⟩, ⟨ka, kc, rfl, _⟩⟩ := h
  obtain ⟨c, F, P, K⟩ := x
  dsimp only at *
  have hcc : c ≤ 9223372036854775807 := hx.cells
  have hc0 : ¬ (c : Int) < 0 := by omega
  have hnf : F.length ≤ 2000 := hx.nf
  have hnk : K.length ≤ 2000 := hx.nk
  have hnp : P.length ≤ 300 := hx.np
  have HX : Hid (Few ⟨c, F, P, K⟩) := hx
  obtain ⟨W1, hW1⟩ : ∃ W, W = w.alloc (.cells #[.int .i64 (c : Int), .slice fa F.length fc, .slice pa P.length pc, .slice ka K.length kc] 26) := ⟨_, rfl⟩
  have k1 : Keeps (fun _ => False) w W1 := by rw [hW1]; exact (Keeps.refl _ w).alloc _
  have b1 : W1.heap[w.heap.size]? = some (.cells #[.int .i64 (c : Int), .slice fa F.length fc, .slice pa P.length pc, .slice ka K.length kc] 26 (0, 0)) := by rw [hW1]; exact alloc_block _ _
  have HBX : Hid (∀ X, Keeps (fun _ => False) W1 X → X.cell? ⟨w.heap.size, 1, none⟩ = some (.slice fa F.length fc) ∧ X.cell? ⟨w.heap.size, 2, none⟩ = some (.slice pa P.length pc) ∧ X.cell? ⟨w.heap.size, 3, none⟩ = some (.slice ka K.length kc)) := fun X k => by
    have q := (k.block _ (lt_of_block b1) (fun f => f)).trans b1
    exact ⟨by rw [cell_of_block q]; rfl, by rw [cell_of_block q]; rfl, by rw [cell_of_block q]; rfl⟩
  have HW1 : Hid (W1 = w.alloc (.cells #[.int .i64 (c : Int), .slice fa F.length fc, .slice pa P.length pc, .slice ka K.length kc] 26)) := hW1
  have K1 : Hid (Keeps (fun _ => False) w W1) := k1
  have HST : Hid (scrT ⟨c, F, P, K⟩ = numT cellsW [c] ++ numT firstW F ++ progT P ++ numT picksW K) := scrT_eq _
  have hcv : IntKind.u64.wrap (c : Int) = (c : Int) := by rw [IntKind.wrap_u64]; omega
  have RD := rdigits_any c (by omega)
  have hdl : (Lib.decDigits c).length ≤ 20 := by rw [Lib.decDigits_length]; exact Lib.nDigits_le20 _ (by omega)
  have HD : Hid (numT cellsW [c] = [99, 101, 108, 108, 115, 32] ++ Lib.decDigits c ++ [10]) := by unfold Hid numT; rw [if_neg (by simp)]; simp [blk64, cellsW]
  generalize Lib.decDigits c = D at *
  obtain ⟨Y1, sY1, eY1, lY1⟩ := cat [99, 101, 108, 108, 115, 32] D
  change (⟨#[99, 101, 108, 108, 115, 32]⟩ : ByteArray) ++ ⟨D.toArray⟩ = _ at sY1
  change Y1.length = 6 + D.length at lY1
  have tY1 : ¬ 9223372036854775807 < 6 + D.length := by omega
  obtain ⟨X, sX, eX, lX⟩ := cat Y1 [10]
  change (⟨Y1.toArray⟩ : ByteArray) ++ ⟨#[10]⟩ = _ at sX
  change X.length = Y1.length + 1 at lX
  have tX : ¬ 9223372036854775807 < Y1.length + 1 := by omega
  have ST : Hid (X = numT cellsW [c] ++ nK firstW F 0) := by unfold Hid; rw [HD.out, eX, eY1]; simp [nK]
  have hXl : X.length ≤ 70 := by omega
  clear hW1 k1 b1 hx HD eX eY1 lX lY1 hcc hdl
  go_enter Tryz.func9, Tryz.ntmps9
  go_wp2_with fail
  rw [← HW1.out]
  refine (RD _).mono ?_
  rintro e X9 ⟨rfl, k9⟩
  have KS : Hid (Keeps (fun _ => False) W1 X9) := k9
  clear RD k9 HW1
  go_wp2_with fail
  go_loopw [4, 5] (fun u4 u5 wr => ∃ (k : Nat) (X : List UInt8), u4 = .string ⟨X.toArray⟩ ∧ u5 = .int .i64 (k : Int) ∧ k ≤ F.length ∧ X.length ≤ (70 + 50 * k) ∧ Hid (X = numT cellsW [c] ++ nK firstW F k) ∧ Hid (Keeps (fun _ => False) W1 wr)) (fun _ u _ => F.length - (intOf u).toNat)
  case atStart => exact ⟨0, X, rfl, rfl, Nat.zero_le _, by omega, ST, KS⟩
  case round =>
    clear ST KS hXl
    obtain ⟨k, X, rfl, rfl, hk, hXl, HXE, KR⟩ := hrel
    have x1 := (HBX.out wr KR.out).1
    by_cases hlt : k < F.length
    · have hki : (k : Int) < F.length := by omega
      obtain ⟨⟨_, _, q1, q2, q3⟩, _, _⟩ := HA.out wr (K1.out.trans KR.out)
      simp only [Value.slice.injEq] at q1
      obtain ⟨rfl, -, rfl⟩ := q1
      obtain ⟨g, off, rfl, cx⟩ := q3 k hlt
      have q2 : F.length ≤ fc := q2
      have hkc : (k : Int) < fc := by omega
      have hym := HX.out.first _ (List.getElem_mem hlt)
      have HNX : Hid (nK firstW F (k + 1) = (if k = 0 then firstW else nK firstW F k) ++ [32] ++ Lib.decDigits (F[k]) ++ (if k + 1 = F.length then [10] else [])) := nK_step _ _ hlt
      dsimp only at cx hym
      generalize F[k]'hlt = y at *
      have hy64 : y < 18446744073709551616 := Nat.lt_of_le_of_lt hym (by decide)
      have hdl : (Lib.decDigits y).length ≤ 20 := by rw [Lib.decDigits_length]; exact Lib.nDigits_le20 _ (by omega)
      have RD := rdigits_any y hy64
      generalize Lib.decDigits y = D at *
      clear hym q2 q3 HA HX HOK HNO HST
      by_cases hk0 : k = 0
      · subst hk0
        simp only [Nat.add_zero] at cx
        by_cases hlast : 0 + 1 = F.length
        · have hll : (F.length : Int) = 1 := by omega
          have hlq : ((0 : Int) == (F.length : Int) - 1) = true := by simp; omega
          obtain ⟨Y1, sY1, eY1, lY1⟩ := cat X [102, 105, 114, 115, 116]
          change (⟨X.toArray⟩ : ByteArray) ++ ⟨#[102, 105, 114, 115, 116]⟩ = _ at sY1
          change Y1.length = X.length + 5 at lY1
          have tY1 : ¬ 9223372036854775807 < X.length + 5 := by omega
          obtain ⟨Y2, sY2, eY2, lY2⟩ := cat Y1 [32]
          change (⟨Y1.toArray⟩ : ByteArray) ++ ⟨#[32]⟩ = _ at sY2
          change Y2.length = Y1.length + 1 at lY2
          have tY2 : ¬ 9223372036854775807 < Y1.length + 1 := by omega
          obtain ⟨Y3, sY3, eY3, lY3⟩ := cat Y2 D
          have tY3 : ¬ 9223372036854775807 < Y2.length + D.length := by omega
          obtain ⟨Y4, sY4, eY4, lY4⟩ := cat Y3 [10]
          change (⟨Y3.toArray⟩ : ByteArray) ++ ⟨#[10]⟩ = _ at sY4
          change Y4.length = Y3.length + 1 at lY4
          have tY4 : ¬ 9223372036854775807 < Y3.length + 1 := by omega
          have fin : Hid (Y4 = numT cellsW [c] ++ nK firstW F (0 + 1)) := by
            unfold Hid
            rw [show (0 + 1 : Nat) = 0 + 1 from rfl, HNX.out, if_pos rfl, if_pos hlast]
            rw [eY4]
            rw [eY3]
            rw [eY2]
            rw [eY1]
            rw [HXE.out]
            simp [nK, firstW]
          have fl : Y4.length ≤ (70 + 50 * (0 + 1)) := by omega
          clear eY1 lY1 eY2 lY2 eY3 lY3 eY4 lY4 HNX HXE hdl hXl
          go_wp2_with fail
          refine (RD _).mono ?_
          rintro e X9 ⟨rfl, k9⟩
          have kk : Hid (Keeps (fun _ => False) W1 X9) := KR.out.trans k9
          have z1 := (HBX.out X9 kk.out).1
          clear RD k9 KR
          go_wp2_with fail
          go_roundw
          · exact ⟨0 + 1, Y4, by first | rfl | simp, by first | rfl | simp, by omega, fl, fin, kk⟩
          · simp [intOf]; omega
        · have hlq : ((0 : Int) == (F.length : Int) - 1) = false := by simp; omega
          obtain ⟨Y1, sY1, eY1, lY1⟩ := cat X [102, 105, 114, 115, 116]
          change (⟨X.toArray⟩ : ByteArray) ++ ⟨#[102, 105, 114, 115, 116]⟩ = _ at sY1
          change Y1.length = X.length + 5 at lY1
          have tY1 : ¬ 9223372036854775807 < X.length + 5 := by omega
          obtain ⟨Y2, sY2, eY2, lY2⟩ := cat Y1 [32]
          change (⟨Y1.toArray⟩ : ByteArray) ++ ⟨#[32]⟩ = _ at sY2
          change Y2.length = Y1.length + 1 at lY2
          have tY2 : ¬ 9223372036854775807 < Y1.length + 1 := by omega
          obtain ⟨Y3, sY3, eY3, lY3⟩ := cat Y2 D
          have tY3 : ¬ 9223372036854775807 < Y2.length + D.length := by omega
          have fin : Hid (Y3 = numT cellsW [c] ++ nK firstW F (0 + 1)) := by
            unfold Hid
            rw [HNX.out, if_pos rfl, if_neg hlast]
            rw [eY3]
            rw [eY2]
            rw [eY1]
            rw [HXE.out]
            simp [nK, firstW]
          have fl : Y3.length ≤ (70 + 50 * (0 + 1)) := by omega
          clear eY1 lY1 eY2 lY2 eY3 lY3 HNX HXE hdl hXl
          go_wp2_with fail
          refine (RD _).mono ?_
          rintro e X9 ⟨rfl, k9⟩
          have kk : Hid (Keeps (fun _ => False) W1 X9) := KR.out.trans k9
          have z1 := (HBX.out X9 kk.out).1
          clear RD k9 KR
          go_wp2_with fail
          go_roundw
          · exact ⟨0 + 1, Y3, by first | rfl | simp, by first | rfl | simp, by omega, fl, fin, kk⟩
          · simp [intOf]; omega
      · have hkz : ((k : Int) == 0) = false := by simp; omega
        by_cases hlast : k + 1 = F.length
        · have hlq : ((k : Int) == (F.length : Int) - 1) = true := by simp; omega
          obtain ⟨Y2, sY2, eY2, lY2⟩ := cat X [32]
          change (⟨X.toArray⟩ : ByteArray) ++ ⟨#[32]⟩ = _ at sY2
          change Y2.length = X.length + 1 at lY2
          have tY2 : ¬ 9223372036854775807 < X.length + 1 := by omega
          obtain ⟨Y3, sY3, eY3, lY3⟩ := cat Y2 D
          have tY3 : ¬ 9223372036854775807 < Y2.length + D.length := by omega
          obtain ⟨Y4, sY4, eY4, lY4⟩ := cat Y3 [10]
          change (⟨Y3.toArray⟩ : ByteArray) ++ ⟨#[10]⟩ = _ at sY4
          change Y4.length = Y3.length + 1 at lY4
          have tY4 : ¬ 9223372036854775807 < Y3.length + 1 := by omega
          have fin : Hid (Y4 = numT cellsW [c] ++ nK firstW F (k + 1)) := by
            unfold Hid
            rw [HNX.out, if_neg hk0, if_pos hlast]
            rw [eY4]
            rw [eY3]
            rw [eY2]
            rw [HXE.out]
            simp
          have fl : Y4.length ≤ (70 + 50 * (k + 1)) := by omega
          clear eY2 lY2 eY3 lY3 eY4 lY4 HNX HXE hdl hXl
          go_wp2_with fail
          refine (RD _).mono ?_
          rintro e X9 ⟨rfl, k9⟩
          have kk : Hid (Keeps (fun _ => False) W1 X9) := KR.out.trans k9
          have z1 := (HBX.out X9 kk.out).1
          clear RD k9 KR
          go_wp2_with fail
          go_roundw
          · exact ⟨k + 1, Y4, by first | rfl | simp, by first | rfl | simp, by omega, fl, fin, kk⟩
          · simp [intOf]; omega
        · have hlq : ((k : Int) == (F.length : Int) - 1) = false := by simp; omega
          obtain ⟨Y2, sY2, eY2, lY2⟩ := cat X [32]
          change (⟨X.toArray⟩ : ByteArray) ++ ⟨#[32]⟩ = _ at sY2
          change Y2.length = X.length + 1 at lY2
          have tY2 : ¬ 9223372036854775807 < X.length + 1 := by omega
          obtain ⟨Y3, sY3, eY3, lY3⟩ := cat Y2 D
          have tY3 : ¬ 9223372036854775807 < Y2.length + D.length := by omega
          have fin : Hid (Y3 = numT cellsW [c] ++ nK firstW F (k + 1)) := by
            unfold Hid
            rw [HNX.out, if_neg hk0, if_neg hlast]
            rw [eY3]
            rw [eY2]
            rw [HXE.out]
            simp
          have fl : Y3.length ≤ (70 + 50 * (k + 1)) := by omega
          clear eY2 lY2 eY3 lY3 HNX HXE hdl hXl
          go_wp2_with fail
          refine (RD _).mono ?_
          rintro e X9 ⟨rfl, k9⟩
          have kk : Hid (Keeps (fun _ => False) W1 X9) := KR.out.trans k9
          have z1 := (HBX.out X9 kk.out).1
          clear RD k9 KR
          go_wp2_with fail
          go_roundw
          · exact ⟨k + 1, Y3, by first | rfl | simp, by first | rfl | simp, by omega, fl, fin, kk⟩
          · simp [intOf]; omega
    · have hki : ¬ (k : Int) < F.length := by omega
      obtain rfl : k = F.length := by omega
      have HXE2 : Hid (X = numT cellsW [c] ++ numT firstW F) := by rw [← nK_end firstW F]; exact HXE
      clear HXE hk
      go_wp2_with fail
      clear x1
      have ST : Hid (X = numT cellsW [c] ++ numT firstW F ++ progT (P.take 0) ∧ allF (P.take 0) = true) := ⟨by rw [HXE2.out]; simp [progT], rfl⟩
      have KS := KR
      clear KR HXE2
      go_loopw [4, 6] (fun u4 u5 wr => ∃ (k : Nat) (X : List UInt8), u4 = .string ⟨X.toArray⟩ ∧ u5 = .int .i64 (k : Int) ∧ k ≤ P.length ∧ X.length ≤ 200000 + 300000 * k ∧ Hid (X = numT cellsW [c] ++ numT firstW F ++ progT (P.take k) ∧ allF (P.take k) = true) ∧ Hid (Keeps (fun _ => False) W1 wr)) (fun _ u _ => P.length - (intOf u).toNat)
      case atStart => exact ⟨0, X, rfl, rfl, Nat.zero_le _, by omega, ST, KS⟩
      case round =>
        clear ST KS hXl
        obtain ⟨k, X, rfl, rfl, hk, hXl, HXE, KR⟩ := hrel
        have x2 := (HBX.out wr KR.out).2.1
        by_cases hlt : k < P.length
        · have hki : (k : Int) < P.length := by omega
          obtain ⟨_, ⟨_, _, q1, q2, q3⟩, _⟩ := HA.out wr (K1.out.trans KR.out)
          simp only [Value.slice.injEq] at q1
          obtain ⟨rfl, -, rfl⟩ := q1
          obtain ⟨g, off, v, rfl, cx, ia⟩ := q3 k hlt
          have q2 : P.length ≤ pc := q2
          have hkc : (k : Int) < pc := by omega
          have hel : (P[k]).length ≤ 2000 := HX.out.each _ (List.getElem_mem hlt)
          have hwf : ∀ i ∈ P[k], i.wf := HX.out.wf _ (List.getElem_mem hlt)
          have RT := rtext_any v (P[k]) (by omega) wr ia
          unfold TxPost at RT
          have HF : Hid (((P[k]).all formedB = false → allF P = false) ∧ ((P[k]).all formedB = true → allF (P.take (k + 1)) = true ∧ (plainL (P[k])).length ≤ 256000)) := ⟨allF_no hlt, fun q => ⟨allF_take hlt HXE.out.2 q, by have := plainL_len q hwf; omega⟩⟩
          have HPT : Hid (progT (P.take (k + 1)) = progT (P.take k) ++ (threadW ++ [10]) ++ plainL (P[k])) := by
            unfold Hid
            rw [List.take_succ_eq_append_getElem hlt, progT_snoc]
          obtain ⟨aa, ac, rfl, -⟩ := ia.form
          generalize P[k]'hlt = p at *
          clear ia hwf q2 q3 HA HX HST
          cases hf : p.all formedB with
          | false =>
            rw [hf] at RT
            have hR := HNO.out (HF.out.1 hf)
            clear HF HPT hf
            go_wp2_with fail
            refine RT.mono ?_
            rintro e X4 ⟨⟨-, q⟩, k4⟩
            obtain rfl := q (by first | rfl | trivial)
            have kf := K1.out.trans (KR.out.trans k4)
            clear RT HOK HNO KR k4
            go_wp2_with fail
            go_ret2
            exact ⟨hR, kf⟩
          | true =>
            rw [hf] at RT
            obtain ⟨hF, hpl⟩ := HF.out.2 hf
            generalize plainL p = T at *
            obtain ⟨Y1, sY1, eY1, lY1⟩ := cat X [116, 104, 114, 101, 97, 100, 10]
            change (⟨X.toArray⟩ : ByteArray) ++ ⟨#[116, 104, 114, 101, 97, 100, 10]⟩ = _ at sY1
            change Y1.length = X.length + 7 at lY1
            have tY1 : ¬ 9223372036854775807 < X.length + 7 := by omega
            obtain ⟨Y2, sY2, eY2, lY2⟩ := cat Y1 T
            have tY2 : ¬ 9223372036854775807 < Y1.length + T.length := by omega
            have fin : Hid (Y2 = numT cellsW [c] ++ numT firstW F ++ progT (P.take (k + 1)) ∧ allF (P.take (k + 1)) = true) := by
              refine ⟨?_, hF⟩
              rw [eY2, eY1, HXE.out.1, HPT.out]
              simp [threadW]
            have fl : Y2.length ≤ 200000 + 300000 * (k + 1) := by omega
            clear HF HPT hf eY1 eY2 lY1 lY2 hpl hF HXE hel hXl
            go_wp2_with fail
            refine RT.mono ?_
            rintro e X4 ⟨⟨q, -⟩, k4⟩
            obtain rfl := q (by first | rfl | trivial)
            have kk : Hid (Keeps (fun _ => False) W1 X4) := KR.out.trans k4
            clear RT HOK HNO KR k4
            go_wp2_with fail
            go_roundw
            · exact ⟨k + 1, Y2, by first | rfl | simp, by first | rfl | simp, by omega, fl, fin, kk⟩
            · simp [intOf]; omega
        · have hki : ¬ (k : Int) < P.length := by omega
          obtain rfl : k = P.length := by omega
          obtain ⟨HXE, hal⟩ := HXE.out
          rw [List.take_length] at HXE hal
          have hXl : X.length ≤ 100000000 := by omega
          have ST : Hid (X = numT cellsW [c] ++ numT firstW F ++ progT P ++ nK picksW K 0) := by unfold Hid; rw [HXE]; simp [nK]
          have KS := KR
          have HAL : Hid (allF P = true) := hal
          clear KR HXE hal hk
          go_wp2_with fail
          clear x2
          go_loopw [4, 9] (fun u4 u5 wr => ∃ (k : Nat) (X : List UInt8), u4 = .string ⟨X.toArray⟩ ∧ u5 = .int .i64 (k : Int) ∧ k ≤ K.length ∧ X.length ≤ (100000100 + 50 * k) ∧ Hid (X = numT cellsW [c] ++ numT firstW F ++ progT P ++ nK picksW K k) ∧ Hid (Keeps (fun _ => False) W1 wr)) (fun _ u _ => K.length - (intOf u).toNat)
          case atStart => exact ⟨0, X, rfl, rfl, Nat.zero_le _, by omega, ST, KS⟩
          case round =>
            clear ST KS hXl
            obtain ⟨k, X, rfl, rfl, hk, hXl, HXE, KR⟩ := hrel
            have x3 := (HBX.out wr KR.out).2.2
            by_cases hlt : k < K.length
            · have hki : (k : Int) < K.length := by omega
              obtain ⟨_, _, ⟨_, _, q1, q2, q3⟩⟩ := HA.out wr (K1.out.trans KR.out)
              simp only [Value.slice.injEq] at q1
              obtain ⟨rfl, -, rfl⟩ := q1
              obtain ⟨g, off, rfl, cx⟩ := q3 k hlt
              have q2 : K.length ≤ kc := q2
              have hkc : (k : Int) < kc := by omega
              have hym := HX.out.picks _ (List.getElem_mem hlt)
              have HNX : Hid (nK picksW K (k + 1) = (if k = 0 then picksW else nK picksW K k) ++ [32] ++ Lib.decDigits (K[k]) ++ (if k + 1 = K.length then [10] else [])) := nK_step _ _ hlt
              dsimp only at cx hym
              generalize K[k]'hlt = y at *
              have hy64 : y < 18446744073709551616 := Nat.lt_of_le_of_lt hym (by decide)
              have hdl : (Lib.decDigits y).length ≤ 20 := by rw [Lib.decDigits_length]; exact Lib.nDigits_le20 _ (by omega)
              have RD := rdigits_any y hy64
              have hcv : IntKind.u64.wrap (y : Int) = (y : Int) := by rw [IntKind.wrap_u64]; omega
              generalize Lib.decDigits y = D at *
              clear hym q2 q3 HA HX HOK HNO HST
              by_cases hk0 : k = 0
              · subst hk0
                simp only [Nat.add_zero] at cx
                by_cases hlast : 0 + 1 = K.length
                · have hll : (K.length : Int) = 1 := by omega
                  have hlq : ((0 : Int) == (K.length : Int) - 1) = true := by simp; omega
                  obtain ⟨Y1, sY1, eY1, lY1⟩ := cat X [112, 105, 99, 107, 115]
                  change (⟨X.toArray⟩ : ByteArray) ++ ⟨#[112, 105, 99, 107, 115]⟩ = _ at sY1
                  change Y1.length = X.length + 5 at lY1
                  have tY1 : ¬ 9223372036854775807 < X.length + 5 := by omega
                  obtain ⟨Y2, sY2, eY2, lY2⟩ := cat Y1 [32]
                  change (⟨Y1.toArray⟩ : ByteArray) ++ ⟨#[32]⟩ = _ at sY2
                  change Y2.length = Y1.length + 1 at lY2
                  have tY2 : ¬ 9223372036854775807 < Y1.length + 1 := by omega
                  obtain ⟨Y3, sY3, eY3, lY3⟩ := cat Y2 D
                  have tY3 : ¬ 9223372036854775807 < Y2.length + D.length := by omega
                  obtain ⟨Y4, sY4, eY4, lY4⟩ := cat Y3 [10]
                  change (⟨Y3.toArray⟩ : ByteArray) ++ ⟨#[10]⟩ = _ at sY4
                  change Y4.length = Y3.length + 1 at lY4
                  have tY4 : ¬ 9223372036854775807 < Y3.length + 1 := by omega
                  have fin : Hid (Y4 = numT cellsW [c] ++ numT firstW F ++ progT P ++ nK picksW K (0 + 1)) := by
                    unfold Hid
                    rw [show (0 + 1 : Nat) = 0 + 1 from rfl, HNX.out, if_pos rfl, if_pos hlast]
                    rw [eY4]
                    rw [eY3]
                    rw [eY2]
                    rw [eY1]
                    rw [HXE.out]
                    simp [nK, picksW]
                  have fl : Y4.length ≤ (100000100 + 50 * (0 + 1)) := by omega
                  clear eY1 lY1 eY2 lY2 eY3 lY3 eY4 lY4 HNX HXE hdl hXl
                  go_wp2_with fail
                  refine (RD _).mono ?_
                  rintro e X9 ⟨rfl, k9⟩
                  have kk : Hid (Keeps (fun _ => False) W1 X9) := KR.out.trans k9
                  have z3 := (HBX.out X9 kk.out).2.2
                  clear RD k9 KR
                  go_wp2_with fail
                  go_roundw
                  · exact ⟨0 + 1, Y4, by first | rfl | simp, by first | rfl | simp, by omega, fl, fin, kk⟩
                  · simp [intOf]; omega
                · have hlq : ((0 : Int) == (K.length : Int) - 1) = false := by simp; omega
                  obtain ⟨Y1, sY1, eY1, lY1⟩ := cat X [112, 105, 99, 107, 115]
                  change (⟨X.toArray⟩ : ByteArray) ++ ⟨#[112, 105, 99, 107, 115]⟩ = _ at sY1
                  change Y1.length = X.length + 5 at lY1
                  have tY1 : ¬ 9223372036854775807 < X.length + 5 := by omega
                  obtain ⟨Y2, sY2, eY2, lY2⟩ := cat Y1 [32]
                  change (⟨Y1.toArray⟩ : ByteArray) ++ ⟨#[32]⟩ = _ at sY2
                  change Y2.length = Y1.length + 1 at lY2
                  have tY2 : ¬ 9223372036854775807 < Y1.length + 1 := by omega
                  obtain ⟨Y3, sY3, eY3, lY3⟩ := cat Y2 D
                  have tY3 : ¬ 9223372036854775807 < Y2.length + D.length := by omega
                  have fin : Hid (Y3 = numT cellsW [c] ++ numT firstW F ++ progT P ++ nK picksW K (0 + 1)) := by
                    unfold Hid
                    rw [HNX.out, if_pos rfl, if_neg hlast]
                    rw [eY3]
                    rw [eY2]
                    rw [eY1]
                    rw [HXE.out]
                    simp [nK, picksW]
                  have fl : Y3.length ≤ (100000100 + 50 * (0 + 1)) := by omega
                  clear eY1 lY1 eY2 lY2 eY3 lY3 HNX HXE hdl hXl
                  go_wp2_with fail
                  refine (RD _).mono ?_
                  rintro e X9 ⟨rfl, k9⟩
                  have kk : Hid (Keeps (fun _ => False) W1 X9) := KR.out.trans k9
                  have z3 := (HBX.out X9 kk.out).2.2
                  clear RD k9 KR
                  go_wp2_with fail
                  go_roundw
                  · exact ⟨0 + 1, Y3, by first | rfl | simp, by first | rfl | simp, by omega, fl, fin, kk⟩
                  · simp [intOf]; omega
              · have hkz : ((k : Int) == 0) = false := by simp; omega
                by_cases hlast : k + 1 = K.length
                · have hlq : ((k : Int) == (K.length : Int) - 1) = true := by simp; omega
                  obtain ⟨Y2, sY2, eY2, lY2⟩ := cat X [32]
                  change (⟨X.toArray⟩ : ByteArray) ++ ⟨#[32]⟩ = _ at sY2
                  change Y2.length = X.length + 1 at lY2
                  have tY2 : ¬ 9223372036854775807 < X.length + 1 := by omega
                  obtain ⟨Y3, sY3, eY3, lY3⟩ := cat Y2 D
                  have tY3 : ¬ 9223372036854775807 < Y2.length + D.length := by omega
                  obtain ⟨Y4, sY4, eY4, lY4⟩ := cat Y3 [10]
                  change (⟨Y3.toArray⟩ : ByteArray) ++ ⟨#[10]⟩ = _ at sY4
                  change Y4.length = Y3.length + 1 at lY4
                  have tY4 : ¬ 9223372036854775807 < Y3.length + 1 := by omega
                  have fin : Hid (Y4 = numT cellsW [c] ++ numT firstW F ++ progT P ++ nK picksW K (k + 1)) := by
                    unfold Hid
                    rw [HNX.out, if_neg hk0, if_pos hlast]
                    rw [eY4]
                    rw [eY3]
                    rw [eY2]
                    rw [HXE.out]
                    simp
                  have fl : Y4.length ≤ (100000100 + 50 * (k + 1)) := by omega
                  clear eY2 lY2 eY3 lY3 eY4 lY4 HNX HXE hdl hXl
                  go_wp2_with fail
                  refine (RD _).mono ?_
                  rintro e X9 ⟨rfl, k9⟩
                  have kk : Hid (Keeps (fun _ => False) W1 X9) := KR.out.trans k9
                  have z3 := (HBX.out X9 kk.out).2.2
                  clear RD k9 KR
                  go_wp2_with fail
                  go_roundw
                  · exact ⟨k + 1, Y4, by first | rfl | simp, by first | rfl | simp, by omega, fl, fin, kk⟩
                  · simp [intOf]; omega
                · have hlq : ((k : Int) == (K.length : Int) - 1) = false := by simp; omega
                  obtain ⟨Y2, sY2, eY2, lY2⟩ := cat X [32]
                  change (⟨X.toArray⟩ : ByteArray) ++ ⟨#[32]⟩ = _ at sY2
                  change Y2.length = X.length + 1 at lY2
                  have tY2 : ¬ 9223372036854775807 < X.length + 1 := by omega
                  obtain ⟨Y3, sY3, eY3, lY3⟩ := cat Y2 D
                  have tY3 : ¬ 9223372036854775807 < Y2.length + D.length := by omega
                  have fin : Hid (Y3 = numT cellsW [c] ++ numT firstW F ++ progT P ++ nK picksW K (k + 1)) := by
                    unfold Hid
                    rw [HNX.out, if_neg hk0, if_neg hlast]
                    rw [eY3]
                    rw [eY2]
                    rw [HXE.out]
                    simp
                  have fl : Y3.length ≤ (100000100 + 50 * (k + 1)) := by omega
                  clear eY2 lY2 eY3 lY3 HNX HXE hdl hXl
                  go_wp2_with fail
                  refine (RD _).mono ?_
                  rintro e X9 ⟨rfl, k9⟩
                  have kk : Hid (Keeps (fun _ => False) W1 X9) := KR.out.trans k9
                  have z3 := (HBX.out X9 kk.out).2.2
                  clear RD k9 KR
                  go_wp2_with fail
                  go_roundw
                  · exact ⟨k + 1, Y3, by first | rfl | simp, by first | rfl | simp, by omega, fl, fin, kk⟩
                  · simp [intOf]; omega
            · have hki : ¬ (k : Int) < K.length := by omega
              obtain rfl : k = K.length := by omega
              have HXE2 : Hid (X = numT cellsW [c] ++ numT firstW F ++ progT P ++ numT picksW K) := by rw [← nK_end picksW K]; exact HXE
              clear HXE hk
              have hR := HOK.out HAL.out
              rw [HST.out, ← HXE2.out] at hR
              have kf := K1.out.trans KR.out
              clear HXE2 HOK HNO HST HA HX HBX
              go_wp2_with fail
              go_ret2
              exact ⟨hR, kf⟩
end Go.Proofs.YtppejcfghlpbjaaGreatDoor


/- Rows of numbers put behind one another; a script in memory of its own, with its marks. No statement of the seat is proved here. -/
namespace Go.Proofs.YtppejcfghlpbjaaGreatDoor
open Go.RowKit Go.Shelf

theorem Nums.app {w : World} {base : Nat} {v : Value} {L : List Nat} (h : Nums w base v L) (a : Option Addr) (cap : Nat) (M : List Nat) (hrow : ∀ k (hk : k < M.length), ∃ g off, a = some ⟨g, off, none⟩ ∧ w.cell? ⟨g, off + k, none⟩ = some (.int .u64 (M[k] : Int))) (hb : L.length + M.length ≤ 1048576) :
    ∃ v' w', (Builtin.append_ #[22, 22] 22 #[v, .slice a M.length cap]).run Tryz.prog w = .ok v' w' ∧ Nums w' base v' (L ++ M) ∧ Grew w w' v v' := by
  obtain ⟨i0, hi, hz0, hz1, hz2⟩ := info_parts info_u64
  cases a with
  | none =>
    obtain rfl : M = [] := by
      cases M with
      | nil => rfl
      | cons m M =>
        obtain ⟨g, off, e, _⟩ := hrow 0 (by simp)
        cases e
    simp only [List.length_nil, List.append_nil]
    have hv : ∃ b n c', v = .slice b n c' ∧ n ≤ c' := by
      rcases h.own.2 with ⟨rfl, _⟩ | ⟨g, cap, cur, rfl, _, _, h3, _⟩
      · exact ⟨none, 0, 0, rfl, Nat.le_refl _⟩
      · exact ⟨_, _, cap, rfl, h3⟩
    obtain ⟨b, n, c', rfl, hle⟩ := hv
    exact ⟨_, w, run_append_nothing w 22 22 22 40 i0 Tryz.underlying22 hi b n c' hle _ (Src.ofNil _ (e' := 40) Tryz.underlying22 cap), h, Grew.refl _ _⟩
  | some a =>
    obtain ⟨v', w', h1, h2, h3, h4⟩ := own_push (P := Tryz.prog) w base 22 22 40 _ 1 8 Tryz.underlying22 info_u64 rfl (by decide) v L.length _ h.own a M.length cap (M.map fun (n : Nat) => Value.int .u64 (n : Int)) (by simp) (fun j u hj => by
      have hjl : j < M.length := by
        have := (List.getElem?_eq_some_iff.1 hj).1
        simpa using this
      obtain ⟨g, off, e, hc⟩ := hrow j hjl
      obtain rfl := Option.some.inj e
      rw [addr_add, hc]
      rw [List.getElem?_map, List.getElem?_eq_getElem hjl] at hj
      exact hj) (by intro u hu; obtain ⟨n, _, rfl⟩ := List.mem_map.1 hu; rfl) (by omega) (by decide) h.base
    exact ⟨v', w', h1, ⟨by simpa using h2, Nat.le_trans h.base h3.size⟩, ⟨(Keeps.refl _ _).grown h3 fun k hk => .inr hk, h4⟩⟩
theorem Nums.mono {w : World} {base base' : Nat} {v : Value} {L : List Nat} (h : Nums w base v L) (hb : base' ≤ base) : Nums w base' v L := ⟨own_mono h.own hb, Nat.le_trans hb h.base⟩
theorem Nums.last {w : World} {base : Nat} {v : Value} {L : List Nat} {m : Nat} (h : Nums w base v (L ++ [m])) : ∃ g cap, v = .slice (some ⟨g, 0, none⟩) (L.length + 1) cap ∧ L.length + 1 ≤ cap ∧ base ≤ g ∧ g < w.heap.size ∧ (∀ k (hk : k < L.length), w.cell? ⟨g, k, none⟩ = some (.int .u64 (L[k] : Int))) ∧ w.cell? ⟨g, L.length, none⟩ = some (.int .u64 (m : Int)) := by
  obtain ⟨g, cap, e1, e2, e3⟩ := row1_at h.own (by simp)
  have hl : (L ++ [m]).length = L.length + 1 := by simp
  rw [hl] at e1 e2 e3
  have eo : v.ownBlock = some g := by rw [e1]; rfl
  have ob := own_block h.own eo
  refine ⟨g, cap, e1, e2, ob.2, ob.1, fun k hk => e3 k _ (by omega) (by simp [List.getElem?_append_left, hk]), e3 _ _ (by omega) (by simp)⟩
/-- A row and a mark behind it: the row is copied first. -/
theorem copA_64 (D : World) (a : Option Addr) (cap : Nat) (M : List Nat) (hrow : ∀ k (hk : k < M.length), ∃ g off, a = some ⟨g, off, none⟩ ∧ D.cell? ⟨g, off + k, none⟩ = some (.int .u64 (M[k] : Int))) (hb : M.length ≤ 2000) :
    ∃ v1 A1 v2 A2, (Builtin.append_ #[22, 22] 22 #[.slice none 0 0, .slice a M.length cap]).run Tryz.prog D = .ok v1 A1 ∧ (Builtin.append_ #[22, 22] 22 #[v1, .slice (some ⟨A1.heap.size, 0, none⟩) 1 1]).run Tryz.prog (A1.alloc (.cells #[.int .u64 23130] 40)) = .ok v2 A2 ∧ Nums A2 D.heap.size v2 (M ++ [23130]) ∧ Keeps (fun _ => False) D A1 ∧ Keeps (fun _ => False) D (A1.alloc (.cells #[.int .u64 23130] 40)) ∧ Keeps (fun _ => False) D A2 := by
  obtain ⟨v1, A1, r1, n1, g1⟩ := (Nums.nil D).app a cap M hrow (by simp; omega)
  rw [List.nil_append] at n1
  have k1 : Keeps (fun _ => False) D A1 := kept_grew g1 (Keeps.refl _ _) (fun g e => by simp [Value.ownBlock] at e)
  have ka := (Keeps.refl (fun _ => False) A1).alloc (.cells #[.int .u64 23130] 40)
  have ba := alloc_block A1 (.cells #[.int .u64 23130] 40)
  obtain ⟨v2, A2, r2, n2, g2⟩ := (n1.keeps ka (fun _ _ f => f)).app (some ⟨A1.heap.size, 0, none⟩) 1 [23130] (fun k hk => by
    obtain rfl : k = 0 := by simp at hk; omega
    exact ⟨_, _, rfl, by rw [cell_of_block ba]; rfl⟩) (by simp; omega)
  exact ⟨v1, A1, v2, A2, r1, r2, n2, k1, k1.trans ka, kept_grew g2 (k1.trans ka) (fun g e => (own_block n1.own e).2)⟩
/-- The mark is laid first. -/
theorem copB_64 (D : World) (a : Option Addr) (cap : Nat) (M : List Nat) (hrow : ∀ k (hk : k < M.length), ∃ g off, a = some ⟨g, off, none⟩ ∧ D.cell? ⟨g, off + k, none⟩ = some (.int .u64 (M[k] : Int))) (hb : M.length ≤ 2000) :
    ∃ v1 A1 v2 A2, (Builtin.append_ #[22, 22] 22 #[.slice none 0 0, .slice a M.length cap]).run Tryz.prog (D.alloc (.cells #[.int .u64 23130] 40)) = .ok v1 A1 ∧ (Builtin.append_ #[22, 22] 22 #[v1, .slice (some ⟨D.heap.size, 0, none⟩) 1 1]).run Tryz.prog A1 = .ok v2 A2 ∧ Nums A2 D.heap.size v2 (M ++ [23130]) ∧ Keeps (fun _ => False) D A1 ∧ Keeps (fun _ => False) D (D.alloc (.cells #[.int .u64 23130] 40)) ∧ Keeps (fun _ => False) D A2 := by
  have ka := (Keeps.refl (fun _ => False) D).alloc (.cells #[.int .u64 23130] 40)
  have ba := alloc_block D (.cells #[.int .u64 23130] 40)
  obtain ⟨v1, A1, r1, n1, g1⟩ := (Nums.nil (D.alloc (.cells #[.int .u64 23130] 40))).app a cap M (fun k hk => by
    obtain ⟨g, off, e, hc⟩ := hrow k hk
    exact ⟨g, off, e, cell_keep ka hc⟩) (by simp; omega)
  rw [List.nil_append] at n1
  have k1' : Keeps (fun _ => False) (D.alloc (.cells #[.int .u64 23130] 40)) A1 := kept_grew g1 (Keeps.refl _ _) (fun g e => by simp [Value.ownBlock] at e)
  have k1 := ka.trans k1'
  have ba1 := (k1'.block _ (lt_of_block ba) (fun f => f)).trans ba
  obtain ⟨v2, A2, r2, n2, g2⟩ := n1.app (some ⟨D.heap.size, 0, none⟩) 1 [23130] (fun k hk => by
    obtain rfl : k = 0 := by simp at hk; omega
    exact ⟨_, _, rfl, by rw [cell_of_block ba1]; rfl⟩) (by simp; omega)
  exact ⟨v1, A1, v2, A2, r1, r2, n2.mono ka.size, k1, ka, kept_grew g2 k1 (fun g e => Nat.le_trans ka.size (own_block n1.own e).2)⟩

theorem Nms32.app {w : World} {base : Nat} {v : Value} {L : List Nat} (h : Nms32 w base v L) (a : Option Addr) (cap : Nat) (M : List Nat) (hrow : ∀ k (hk : k < M.length), ∃ g off, a = some ⟨g, off, none⟩ ∧ w.cell? ⟨g, off + k, none⟩ = some (.int .u32 (M[k] : Int))) (hb : L.length + M.length ≤ 1048576) :
    ∃ v' w', (Builtin.append_ #[24, 24] 24 #[v, .slice a M.length cap]).run Tryz.prog w = .ok v' w' ∧ Nms32 w' base v' (L ++ M) ∧ Grew w w' v v' := by
  obtain ⟨i0, hi, hz0, hz1, hz2⟩ := info_parts info_u32
  cases a with
  | none =>
    obtain rfl : M = [] := by
      cases M with
      | nil => rfl
      | cons m M =>
        obtain ⟨g, off, e, _⟩ := hrow 0 (by simp)
        cases e
    simp only [List.length_nil, List.append_nil]
    have hv : ∃ b n c', v = .slice b n c' ∧ n ≤ c' := by
      rcases h.own.2 with ⟨rfl, _⟩ | ⟨g, cap, cur, rfl, _, _, h3, _⟩
      · exact ⟨none, 0, 0, rfl, Nat.le_refl _⟩
      · exact ⟨_, _, cap, rfl, h3⟩
    obtain ⟨b, n, c', rfl, hle⟩ := hv
    exact ⟨_, w, run_append_nothing w 24 24 24 41 i0 Tryz.underlying24 hi b n c' hle _ (Src.ofNil _ (e' := 41) Tryz.underlying24 cap), h, Grew.refl _ _⟩
  | some a =>
    obtain ⟨v', w', h1, h2, h3, h4⟩ := own_push (P := Tryz.prog) w base 24 24 41 _ 1 4 Tryz.underlying24 info_u32 rfl (by decide) v L.length _ h.own a M.length cap (M.map fun (n : Nat) => Value.int .u32 (n : Int)) (by simp) (fun j u hj => by
      have hjl : j < M.length := by
        have := (List.getElem?_eq_some_iff.1 hj).1
        simpa using this
      obtain ⟨g, off, e, hc⟩ := hrow j hjl
      obtain rfl := Option.some.inj e
      rw [addr_add, hc]
      rw [List.getElem?_map, List.getElem?_eq_getElem hjl] at hj
      exact hj) (by intro u hu; obtain ⟨n, _, rfl⟩ := List.mem_map.1 hu; rfl) (by omega) (by decide) h.base
    exact ⟨v', w', h1, ⟨by simpa using h2, Nat.le_trans h.base h3.size⟩, ⟨(Keeps.refl _ _).grown h3 fun k hk => .inr hk, h4⟩⟩
theorem Nms32.mono {w : World} {base base' : Nat} {v : Value} {L : List Nat} (h : Nms32 w base v L) (hb : base' ≤ base) : Nms32 w base' v L := ⟨own_mono h.own hb, Nat.le_trans hb h.base⟩
theorem Nms32.last {w : World} {base : Nat} {v : Value} {L : List Nat} {m : Nat} (h : Nms32 w base v (L ++ [m])) : ∃ g cap, v = .slice (some ⟨g, 0, none⟩) (L.length + 1) cap ∧ L.length + 1 ≤ cap ∧ base ≤ g ∧ g < w.heap.size ∧ (∀ k (hk : k < L.length), w.cell? ⟨g, k, none⟩ = some (.int .u32 (L[k] : Int))) ∧ w.cell? ⟨g, L.length, none⟩ = some (.int .u32 (m : Int)) := by
  obtain ⟨g, cap, e1, e2, e3⟩ := row1_at h.own (by simp)
  have hl : (L ++ [m]).length = L.length + 1 := by simp
  rw [hl] at e1 e2 e3
  have eo : v.ownBlock = some g := by rw [e1]; rfl
  have ob := own_block h.own eo
  refine ⟨g, cap, e1, e2, ob.2, ob.1, fun k hk => e3 k _ (by omega) (by simp [List.getElem?_append_left, hk]), e3 _ _ (by omega) (by simp)⟩
/-- A row and a mark behind it: the row is copied first. -/
theorem copA_32 (D : World) (a : Option Addr) (cap : Nat) (M : List Nat) (hrow : ∀ k (hk : k < M.length), ∃ g off, a = some ⟨g, off, none⟩ ∧ D.cell? ⟨g, off + k, none⟩ = some (.int .u32 (M[k] : Int))) (hb : M.length ≤ 2000) :
    ∃ v1 A1 v2 A2, (Builtin.append_ #[24, 24] 24 #[.slice none 0 0, .slice a M.length cap]).run Tryz.prog D = .ok v1 A1 ∧ (Builtin.append_ #[24, 24] 24 #[v1, .slice (some ⟨A1.heap.size, 0, none⟩) 1 1]).run Tryz.prog (A1.alloc (.cells #[.int .u32 23130] 41)) = .ok v2 A2 ∧ Nms32 A2 D.heap.size v2 (M ++ [23130]) ∧ Keeps (fun _ => False) D A1 ∧ Keeps (fun _ => False) D (A1.alloc (.cells #[.int .u32 23130] 41)) ∧ Keeps (fun _ => False) D A2 := by
  obtain ⟨v1, A1, r1, n1, g1⟩ := (Nms32.nil D).app a cap M hrow (by simp; omega)
  rw [List.nil_append] at n1
  have k1 : Keeps (fun _ => False) D A1 := kept_grew g1 (Keeps.refl _ _) (fun g e => by simp [Value.ownBlock] at e)
  have ka := (Keeps.refl (fun _ => False) A1).alloc (.cells #[.int .u32 23130] 41)
  have ba := alloc_block A1 (.cells #[.int .u32 23130] 41)
  obtain ⟨v2, A2, r2, n2, g2⟩ := (n1.keeps ka (fun _ _ f => f)).app (some ⟨A1.heap.size, 0, none⟩) 1 [23130] (fun k hk => by
    obtain rfl : k = 0 := by simp at hk; omega
    exact ⟨_, _, rfl, by rw [cell_of_block ba]; rfl⟩) (by simp; omega)
  exact ⟨v1, A1, v2, A2, r1, r2, n2, k1, k1.trans ka, kept_grew g2 (k1.trans ka) (fun g e => (own_block n1.own e).2)⟩
/-- The mark is laid first. -/
theorem copB_32 (D : World) (a : Option Addr) (cap : Nat) (M : List Nat) (hrow : ∀ k (hk : k < M.length), ∃ g off, a = some ⟨g, off, none⟩ ∧ D.cell? ⟨g, off + k, none⟩ = some (.int .u32 (M[k] : Int))) (hb : M.length ≤ 2000) :
    ∃ v1 A1 v2 A2, (Builtin.append_ #[24, 24] 24 #[.slice none 0 0, .slice a M.length cap]).run Tryz.prog (D.alloc (.cells #[.int .u32 23130] 41)) = .ok v1 A1 ∧ (Builtin.append_ #[24, 24] 24 #[v1, .slice (some ⟨D.heap.size, 0, none⟩) 1 1]).run Tryz.prog A1 = .ok v2 A2 ∧ Nms32 A2 D.heap.size v2 (M ++ [23130]) ∧ Keeps (fun _ => False) D A1 ∧ Keeps (fun _ => False) D (D.alloc (.cells #[.int .u32 23130] 41)) ∧ Keeps (fun _ => False) D A2 := by
  have ka := (Keeps.refl (fun _ => False) D).alloc (.cells #[.int .u32 23130] 41)
  have ba := alloc_block D (.cells #[.int .u32 23130] 41)
  obtain ⟨v1, A1, r1, n1, g1⟩ := (Nms32.nil (D.alloc (.cells #[.int .u32 23130] 41))).app a cap M (fun k hk => by
    obtain ⟨g, off, e, hc⟩ := hrow k hk
    exact ⟨g, off, e, cell_keep ka hc⟩) (by simp; omega)
  rw [List.nil_append] at n1
  have k1' : Keeps (fun _ => False) (D.alloc (.cells #[.int .u32 23130] 41)) A1 := kept_grew g1 (Keeps.refl _ _) (fun g e => by simp [Value.ownBlock] at e)
  have k1 := ka.trans k1'
  have ba1 := (k1'.block _ (lt_of_block ba) (fun f => f)).trans ba
  obtain ⟨v2, A2, r2, n2, g2⟩ := n1.app (some ⟨D.heap.size, 0, none⟩) 1 [23130] (fun k hk => by
    obtain rfl : k = 0 := by simp at hk; omega
    exact ⟨_, _, rfl, by rw [cell_of_block ba1]; rfl⟩) (by simp; omega)
  exact ⟨v1, A1, v2, A2, r1, r2, n2.mono ka.size, k1, ka, kept_grew g2 k1 (fun g e => Nat.le_trans ka.size (own_block n1.own e).2)⟩

/-- A script in memory of its own: its rows, and what stands behind them. -/
structure Cpy (W : World) (uf up uk : Value) (x : Sc) : Prop where
  first : ∃ g cap, uf = .slice (some ⟨g, 0, none⟩) x.first.length cap ∧ x.first.length + 1 ≤ cap ∧ (∀ k (hk : k < x.first.length), W.cell? ⟨g, k, none⟩ = some (.int .u64 (x.first[k] : Int))) ∧ W.cell? ⟨g, x.first.length, none⟩ = some (.int .u64 23130)
  picks : ∃ g cap, uk = .slice (some ⟨g, 0, none⟩) x.picks.length cap ∧ x.picks.length + 1 ≤ cap ∧ (∀ k (hk : k < x.picks.length), W.cell? ⟨g, k, none⟩ = some (.int .u32 (x.picks[k] : Int))) ∧ W.cell? ⟨g, x.picks.length, none⟩ = some (.int .u32 23130)
  progs : ∃ g cap gm, up = .slice (some ⟨g, 0, none⟩) x.progs.length cap ∧ x.progs.length + 1 ≤ cap ∧ (∀ k (hk : k < x.progs.length), ∃ gk ck, W.cell? ⟨g, k, none⟩ = some (.slice (some ⟨gk, 0, none⟩) (x.progs[k]).length ck) ∧ (x.progs[k]).length + 2 ≤ ck ∧ InsAt W (.slice (some ⟨gk, 0, none⟩) ((x.progs[k]).length + 2) ck) (x.progs[k] ++ marksC)) ∧ W.cell? ⟨g, x.progs.length, none⟩ = some (.slice (some ⟨gm, 0, none⟩) 1 1) ∧ W.cell? ⟨gm, 0, none⟩ = some (.int .i64 97)
theorem Cpy.keeps {W W' : World} {uf up uk : Value} {x : Sc} (h : Cpy W uf up uk x) (k : Keeps (fun _ => False) W W') : Cpy W' uf up uk x := by
  obtain ⟨⟨g, c, e1, e2, e3, e4⟩, ⟨g', c', f1, f2, f3, f4⟩, ⟨p, q, m, p1, p2, p3, p4, p5⟩⟩ := h
  refine ⟨⟨g, c, e1, e2, fun j hj => cell_keep k (e3 j hj), cell_keep k e4⟩, ⟨g', c', f1, f2, fun j hj => cell_keep k (f3 j hj), cell_keep k f4⟩, ⟨p, q, m, p1, p2, fun j hj => ?_, cell_keep k p4, cell_keep k p5⟩⟩
  obtain ⟨gk, ck, q1, q2, q3⟩ := p3 j hj
  exact ⟨gk, ck, cell_keep k q1, q2, q3.keeps k⟩
theorem Cpy.at {W : World} {uf up uk : Value} {x : Sc} (h : Cpy W uf up uk x) : ScAt W uf up uk x := by
  obtain ⟨⟨g, c, e1, e2, e3, e4⟩, ⟨g', c', f1, f2, f3, f4⟩, ⟨p, q, m, p1, p2, p3, p4, p5⟩⟩ := h
  refine ⟨⟨_, c, e1, by omega, fun j hj => ⟨g, 0, rfl, by rw [Nat.zero_add]; exact e3 j hj⟩⟩, ⟨_, q, p1, by omega, fun j hj => ?_⟩, ⟨_, c', f1, by omega, fun j hj => ⟨g', 0, rfl, by rw [Nat.zero_add]; exact f3 j hj⟩⟩⟩
  obtain ⟨gk, ck, q1, q2, q3⟩ := p3 j hj
  exact ⟨p, 0, _, rfl, by rw [Nat.zero_add]; exact q1, q3.prefix⟩
end Go.Proofs.YtppejcfghlpbjaaGreatDoor
