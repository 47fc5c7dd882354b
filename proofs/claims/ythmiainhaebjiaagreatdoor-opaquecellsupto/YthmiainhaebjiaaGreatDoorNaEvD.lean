import Derived.Test.YthmiainhaebjiaaGreatDoorM00CMem
import Derived.Test.YthmiainhaebjiaaGreatDoorM12EvK
import Derived.Deep.QuietTactic
import Derived.BigQuiet
import Derived.Test.YthmiainhaebjiaaGreatDoorM06OpC

/- A walk of the document's turn (package parleyref13). No statement of the seat is proved here. -/
namespace Go.Proofs.YthmiainhaebjiaaGreatDoor
open Go.RowKit Go.Shelf

def TP (n : Nat) (w : World) : Ending → World → Prop := fun ex w' => ex = .returned (.int .i64 ((n : Int) - 1)) ∧ Keeps (fun _ => False) w w'
theorem TP.mk {n : Nat} {z : Int} {w : World} {o : Obj} (h : (n : Int) - 1 = z) : TP n w (.returned (.int .i64 z)) (w.alloc o) := ⟨by rw [h], (Keeps.refl _ w).alloc o⟩
set_option maxRecDepth 100000 in
set_option maxHeartbeats 4000000 in
theorem rturn1 (th kd ad wd : Int) (own : Bool) (er : Int) (w : World) (h0 : 1 ≤ kd) (h1 : kd ≤ 12) : Calls Tryz.prog 85 #[.int .i64 0, .agg #[.int .i64 th, .int .i64 kd, .int .u64 ad, .int .u64 wd, .bool own, .int .i64 er]] w (TP (turnN 1 ⟨th, kd, ad, wd, own, er⟩) w) := by
  rcases kd12 h0 h1 with rfl | rfl | rfl | rfl | rfl | rfl | rfl | rfl | rfl | rfl | rfl | rfl
  · go_enter Tryz.func85, Tryz.ntmps85
    go_wp2_with fail
    go_ret
    exact TP.mk (by simp [turnN])
  · go_enter Tryz.func85, Tryz.ntmps85
    go_wp2_with fail
    go_ret
    exact TP.mk (by simp [turnN])
  · go_enter Tryz.func85, Tryz.ntmps85
    go_wp2_with fail
    go_ret
    exact TP.mk (by simp [turnN])
  · go_enter Tryz.func85, Tryz.ntmps85
    go_wp2_with fail
    go_ret
    exact TP.mk (by simp [turnN])
  · go_enter Tryz.func85, Tryz.ntmps85
    go_wp2_with fail
    go_ret
    exact TP.mk (by simp [turnN])
  · go_enter Tryz.func85, Tryz.ntmps85
    go_wp2_with fail
    go_ret
    exact TP.mk (by simp [turnN])
  · go_enter Tryz.func85, Tryz.ntmps85
    go_wp2_with fail
    go_ret
    exact TP.mk (by simp [turnN])
  · go_enter Tryz.func85, Tryz.ntmps85
    go_wp2_with fail
    go_ret
    exact TP.mk (by simp [turnN])
  · by_cases h4 : er = 4
    · go_enter Tryz.func85, Tryz.ntmps85
      go_wp2_with fail
      go_ret
      exact TP.mk (by simp [turnN, *])
    · go_enter Tryz.func85, Tryz.ntmps85
      go_wp2_with fail
      go_ret
      exact TP.mk (by simp [turnN, *])
  · go_enter Tryz.func85, Tryz.ntmps85
    go_wp2_with fail
    go_ret
    exact TP.mk (by simp [turnN])
  · go_enter Tryz.func85, Tryz.ntmps85
    go_wp2_with fail
    go_ret
    exact TP.mk (by simp [turnN])
  · go_enter Tryz.func85, Tryz.ntmps85
    go_wp2_with fail
    go_ret
    exact TP.mk (by simp [turnN])
set_option maxRecDepth 100000 in
set_option maxHeartbeats 4000000 in
theorem rturn2 (th kd ad wd : Int) (own : Bool) (er : Int) (w : World) (h0 : 1 ≤ kd) (h1 : kd ≤ 12) : Calls Tryz.prog 85 #[.int .i64 1, .agg #[.int .i64 th, .int .i64 kd, .int .u64 ad, .int .u64 wd, .bool own, .int .i64 er]] w (TP (turnN 2 ⟨th, kd, ad, wd, own, er⟩) w) := by
  rcases kd12 h0 h1 with rfl | rfl | rfl | rfl | rfl | rfl | rfl | rfl | rfl | rfl | rfl | rfl
  · go_enter Tryz.func85, Tryz.ntmps85
    go_wp2_with fail
    go_ret
    exact TP.mk (by simp [turnN])
  · go_enter Tryz.func85, Tryz.ntmps85
    go_wp2_with fail
    go_ret
    exact TP.mk (by simp [turnN])
  · go_enter Tryz.func85, Tryz.ntmps85
    go_wp2_with fail
    go_ret
    exact TP.mk (by simp [turnN])
  · go_enter Tryz.func85, Tryz.ntmps85
    go_wp2_with fail
    go_ret
    exact TP.mk (by simp [turnN])
  · go_enter Tryz.func85, Tryz.ntmps85
    go_wp2_with fail
    go_ret
    exact TP.mk (by simp [turnN])
  · go_enter Tryz.func85, Tryz.ntmps85
    go_wp2_with fail
    go_ret
    exact TP.mk (by simp [turnN])
  · go_enter Tryz.func85, Tryz.ntmps85
    go_wp2_with fail
    go_ret
    exact TP.mk (by simp [turnN])
  · go_enter Tryz.func85, Tryz.ntmps85
    go_wp2_with fail
    go_ret
    exact TP.mk (by simp [turnN])
  · go_enter Tryz.func85, Tryz.ntmps85
    go_wp2_with fail
    go_ret
    exact TP.mk (by simp [turnN])
  · go_enter Tryz.func85, Tryz.ntmps85
    go_wp2_with fail
    go_ret
    exact TP.mk (by simp [turnN])
  · go_enter Tryz.func85, Tryz.ntmps85
    go_wp2_with fail
    go_ret
    exact TP.mk (by simp [turnN])
  · go_enter Tryz.func85, Tryz.ntmps85
    go_wp2_with fail
    go_ret
    exact TP.mk (by simp [turnN])
set_option maxRecDepth 100000 in
set_option maxHeartbeats 4000000 in
theorem rturn3 (th kd ad wd : Int) (own : Bool) (er : Int) (w : World) : Calls Tryz.prog 85 #[.int .i64 2, .agg #[.int .i64 th, .int .i64 kd, .int .u64 ad, .int .u64 wd, .bool own, .int .i64 er]] w (TP (turnN 3 ⟨th, kd, ad, wd, own, er⟩) w) := by
  by_cases h6 : kd = 6
  · go_enter Tryz.func85, Tryz.ntmps85
    go_wp2_with fail
    go_ret
    exact TP.mk (by simp [turnN, *])
  · go_enter Tryz.func85, Tryz.ntmps85
    go_wp2_with fail
    go_ret
    exact TP.mk (by simp [turnN, *])
set_option maxRecDepth 100000 in
set_option maxHeartbeats 4000000 in
theorem rturn4 (th kd ad wd : Int) (own : Bool) (er : Int) (w : World) : Calls Tryz.prog 85 #[.int .i64 3, .agg #[.int .i64 th, .int .i64 kd, .int .u64 ad, .int .u64 wd, .bool own, .int .i64 er]] w (TP (turnN 4 ⟨th, kd, ad, wd, own, er⟩) w) := by
  go_enter Tryz.func85, Tryz.ntmps85
  go_wp2_with fail
  go_ret
  exact TP.mk (by simp [turnN])
theorem rturn_any (st : Nat) (hs : 1 ≤ st) (hs4 : st ≤ 4) (e : Ev) (h0 : 1 ≤ e.kd) (h1 : e.kd ≤ 12) (w : World) : Calls Tryz.prog 85 #[.int .i64 ((st : Int) - 1), .agg e.cells] w fun ex w' => ex = .returned (.int .i64 ((turnN st e : Int) - 1)) ∧ Keeps (fun _ => False) w w' := by
  obtain ⟨th, kd, ad, wd, own, er⟩ := e
  have : st = 1 ∨ st = 2 ∨ st = 3 ∨ st = 4 := by omega
  rcases this with rfl | rfl | rfl | rfl
  · exact rturn1 th kd ad wd own er w h0 h1
  · exact rturn2 th kd ad wd own er w h0 h1
  · exact rturn3 th kd ad wd own er w
  · exact rturn4 th kd ad wd own er w
end Go.Proofs.YthmiainhaebjiaaGreatDoor

/- The document's state of a history as it lies; walks of its locked, written, number, own (package parleyref13). No statement of the seat is proved here. -/
namespace Go.Proofs.YthmiainhaebjiaaGreatDoor
open Go.RowKit Go.Shelf

/-- An address and a word as cells. -/
@[reducible] def Cl2 (x : Int × Int) : List Value := [.int .u64 x.1, .int .u64 x.2]
theorem cl2_len (x : Int × Int) : (Cl2 x).length = 2 := rfl
theorem cl2_ne (x : Int × Int) : Cl2 x ≠ [] := by simp
theorem cl2_one (x : Int × Int) : ∀ u ∈ Cl2 x, u.oneCell' = true := by simp [Value.oneCell']
theorem info_cell : (Tryz.prog.info? 28).map (fun i => (i.zero, i.size, i.bytes)) = some (some (.agg #[.int .u64 0, .int .u64 0]), 2, 16) := by kernel_rfl
/-- The document's state as it lies: its block, the Writes of each thread in rows apart. -/
structure RW (w : World) (B b : Nat) (S : St) (m : Nat → Value) : Prop where
  blk : ∃ cs : Array Value, w.heap[b]? = some (.cells cs 147 (0, 0)) ∧ cs.size = 25 ∧ cs[24]? = some (.int .u64 S.n) ∧ ∀ i, i < 8 → cs[i * 3]? = some (.int .i64 (((S.sd i).st : Int) - 1)) ∧ cs[i * 3 + 1]? = some (.int .u64 (S.sd i).sn) ∧ cs[i * 3 + 2]? = some (m i)
  row : ∀ i, i < 8 → OwnR Cl2 2 28 w B (m i) (S.sd i).wr.reverse
  dis : ∀ i j g, i < 8 → j < 8 → i ≠ j → (m i).ownBlock = some g → (m j).ownBlock ≠ some g
  nb : ∀ i, i < 8 → (m i).ownBlock ≠ some b
  Bb : B ≤ b
  t8 : S.t.length = 8
theorem RW.keeps {w w' : World} {B b : Nat} {S : St} {m : Nat → Value} (h : RW w B b S m) (k : Keeps (fun _ => False) w w') : RW w' B b S m := by
  obtain ⟨cs, h1, h2⟩ := h.blk
  exact ⟨⟨cs, (k.block _ (lt_of_block h1) (fun f => f)).trans h1, h2⟩, fun i hi => (h.row i hi).keeps k (fun _ _ f => f), h.dis, h.nb, h.Bb, h.t8⟩
theorem RW.at {w : World} {B b : Nat} {S : St} {m : Nat → Value} (h : RW w B b S m) : w.cell? ⟨b, 24, none⟩ = some (.int .u64 S.n) ∧ ∀ i, i < 8 → w.cell? ⟨b, i * 3, none⟩ = some (.int .i64 (((S.sd i).st : Int) - 1)) ∧ w.cell? ⟨b, i * 3 + 1, none⟩ = some (.int .u64 (S.sd i).sn) ∧ w.cell? ⟨b, i * 3 + 2, none⟩ = some (m i) := by
  obtain ⟨cs, h1, h2, h3, h4⟩ := h.blk
  refine ⟨by rw [cell_of_block h1, h3], fun i hi => ?_⟩
  obtain ⟨q1, q2, q3⟩ := h4 i hi
  exact ⟨by rw [cell_of_block h1, q1], by rw [cell_of_block h1, q2], by rw [cell_of_block h1, q3]⟩
theorem RW.lt {w : World} {B b : Nat} {S : St} {m : Nat → Value} (h : RW w B b S m) : b < w.heap.size := by
  obtain ⟨cs, h1, _⟩ := h.blk
  exact lt_of_block h1

set_option maxRecDepth 100000 in
set_option maxHeartbeats 4000000 in
theorem rwritten_any (v : Value) (L : List (Int × Int)) (hL : L.length ≤ 4611686018427387) (ad : Int) (w : World) (hv : ElsAt Cl2 2 w v L) : Calls Tryz.prog 115 #[v, .int .u64 ad] w fun ex w' => ex = .returned (.tuple #[.int .u64 ((L.reverse.lookup ad).getD 0), .bool (L.reverse.lookup ad).isSome]) ∧ w' = w := by
  obtain ⟨a, cap, rfl, hcap⟩ := hv.shape
  have HV : Hid (ElsAt Cl2 2 w (.slice a L.length cap) L) := hv
  clear hv
  go_enter Tryz.func115, Tryz.ntmps115
  go_wp2_with fail
  go_loopw [6] (fun u wr => ∃ (j : Nat), u = .int .i64 ((j : Int) - 1) ∧ j ≤ L.length ∧ Hid (L.reverse.lookup ad = (L.take j).reverse.lookup ad) ∧ wr = w) (fun u _ => (intOf u + 1).toNat)
  case atStart => exact ⟨L.length, rfl, Nat.le_refl _, by unfold Hid; rw [List.take_length], rfl⟩
  case round =>
    obtain ⟨j, rfl, hj, hlk, rfl⟩ := hrel
    cases j with
    | zero =>
      have HN : Hid (L.reverse.lookup ad = none) := by unfold Hid; rw [hlk.out]; rfl
      clear hlk
      go_wp2_with fail
      go_ret2
      exact ⟨by rw [HN.out]; rfl, rfl⟩
    | succ j =>
      have hjl : j < L.length := by omega
      obtain ⟨g, off, rfl, q⟩ := HV.out.at j hjl
      have e0 : ((j + 1 : Nat) : Int) - 1 = (j : Int) := by omega
      have x0 := q 0 _ rfl
      have x1 := q 1 _ rfl
      simp only [Nat.add_zero] at x0
      have hji : (j : Int) < L.length := by omega
      have hj0 : (0 : Int) ≤ j := by omega
      have hw1 : IntKind.i64.wrap ((j : Int) - 1) = (j : Int) - 1 := by rw [IntKind.wrap_i64]; omega
      have htk : (L.take (j + 1)).reverse = L[j] :: (L.take j).reverse := by rw [List.take_succ_eq_append_getElem hjl]; simp
      rw [htk] at hlk
      simp only [e0]
      generalize L[j]'hjl = p at *
      obtain ⟨pa, pw⟩ := p
      dsimp only at x0 x1
      by_cases hpa : pa = ad
      · subst hpa
        have HY : Hid (L.reverse.lookup pa = some pw) := by unfold Hid; rw [hlk.out]; simp [List.lookup]
        clear hlk q htk
        go_wp2_with fail
        go_ret2
        exact ⟨by rw [HY.out]; rfl, rfl⟩
      · have hb1 : (pa == ad) = false := by simpa using hpa
        have hb2 : (ad == pa) = false := by simpa using fun h => hpa h.symm
        have HN : Hid (L.reverse.lookup ad = (L.take j).reverse.lookup ad) := by unfold Hid; rw [hlk.out]; simp [List.lookup, hb2]
        clear hlk q htk
        go_wp2_with fail
        go_roundw
        · exact ⟨j, by simp, by omega, HN, by first | rfl | trivial⟩
        · simp [intOf]
def lockB (S : St) (t : Nat) : Bool := (List.range 8).any fun i => decide (i ≠ t) && decide ((S.sd i).st = 3)
theorem lock_held {S : St} (h8 : S.t.length = 8) {t : Nat} (h : (S.sd t).st ≠ 3) : lockB S t = heldB S := by
  unfold lockB heldB
  rw [Bool.eq_iff_iff, List.any_eq_true, List.any_eq_true]
  constructor
  · rintro ⟨i, hi, hc⟩
    simp only [Bool.and_eq_true, decide_eq_true_eq] at hc
    have hi8 : i < S.t.length := by rw [h8]; simpa using hi
    refine ⟨S.t[i], List.getElem_mem hi8, ?_⟩
    have := hc.2
    simp only [St.sd, List.getElem?_eq_getElem hi8, Option.getD_some] at this
    simpa using this
  · rintro ⟨s, hs, hc⟩
    obtain ⟨i, hi, rfl⟩ := List.getElem_of_mem hs
    have e : S.sd i = S.t[i] := by simp [St.sd, List.getElem?_eq_getElem hi]
    refine ⟨i, by simpa [h8] using hi, ?_⟩
    simp only [Bool.and_eq_true, decide_eq_true_eq]
    refine ⟨fun q => h ?_, by rw [e]; simpa using hc⟩
    rw [← q, e]; simpa using hc
set_option maxRecDepth 100000 in
set_option maxHeartbeats 4000000 in
theorem rlocked_any (S : St) (t : Nat) (ht : t < 8) (b : Nat) (w : World) (hc : ∀ i, i < 8 → w.cell? ⟨b, i * 3, none⟩ = some (.int .i64 (((S.sd i).st : Int) - 1))) : Calls Tryz.prog 86 #[.pointer (some ⟨b, 0, none⟩), .int .i64 (t : Int)] w fun ex w' => ex = .returned (.bool (lockB S t)) ∧ w' = w := by
  have HC : Hid (∀ i, i < 8 → w.cell? ⟨b, i * 3, none⟩ = some (.int .i64 (((S.sd i).st : Int) - 1))) := hc
  clear hc
  go_enter Tryz.func86, Tryz.ntmps86
  go_wp2_with fail
  go_loopw [5] (fun u wr => ∃ (i : Nat), u = .int .i64 i ∧ i ≤ 8 ∧ Hid (∀ j, j < i → ¬ (j ≠ t ∧ (S.sd j).st = 3)) ∧ wr = w) (fun u _ => 8 - (intOf u).toNat)
  case atStart => exact ⟨0, rfl, by omega, fun j hj => by omega, rfl⟩
  case round =>
    obtain ⟨i, rfl, hi, hh, rfl⟩ := hrel
    by_cases hlt : i < 8
    · have hii : (i : Int) < 8 := by omega
      have hi0 : (0 : Int) ≤ i := by omega
      have c := HC.out i hlt
      have fin : Hid (¬ (i ≠ t ∧ (S.sd i).st = 3) → ∀ j, j < i + 1 → ¬ (j ≠ t ∧ (S.sd j).st = 3)) := fun hn j hj => by
        by_cases hji : j = i
        · subst hji; exact hn
        · exact hh.out j (by omega)
      have hY : Hid ((i ≠ t ∧ (S.sd i).st = 3) → lockB S t = true) := fun q => by
        unfold lockB
        rw [List.any_eq_true]
        exact ⟨i, by simpa using hlt, by simp [q.1, q.2]⟩
      clear hh
      generalize (S.sd i).st = st at *
      by_cases hit : i = t
      · subst hit
        have FN := fin.out (fun q => q.1 rfl)
        clear c
        go_wp2_with fail
        go_roundw
        · exact ⟨i + 1, by simp, by omega, FN, by first | rfl | trivial⟩
        · simp [intOf]; omega
      · have hit1 : ((i : Int) == (t : Int)) = false := by simp; omega
        have hit2 : ¬ (i : Int) = (t : Int) := by omega
        by_cases hst : st = 3
        · have HYY := hY.out ⟨hit, hst⟩
          subst hst
          have HYH : Hid (lockB S t = true) := HYY
          clear HYY
          go_wp2_with fail
          go_ret
          exact ⟨by rw [HYH.out]; rfl, rfl⟩
        · have FN := fin.out (fun q => hst q.2)
          have hs1 : (((st : Int) - 1) == 2) = false := by simp; omega
          have hs2 : ¬ ((st : Int) - 1 = 2) := by omega
          go_wp2_with fail
          go_roundw
          · exact ⟨i + 1, by simp, by omega, FN, by first | rfl | trivial⟩
          · simp [intOf]; omega
    · obtain rfl : i = 8 := by omega
      have HN : Hid (lockB S t = false) := by
        unfold Hid lockB
        rw [List.any_eq_false]
        intro j hj hc
        simp only [Bool.and_eq_true, decide_eq_true_eq] at hc
        exact hh.out j (by simpa using hj) hc
      clear hh
      go_wp2_with fail
      go_ret
      exact ⟨by rw [HN.out]; rfl, rfl⟩
end Go.Proofs.YthmiainhaebjiaaGreatDoor

/- Walks of the document's number, own (package parleyref13). No statement of the seat is proved here. -/
namespace Go.Proofs.YthmiainhaebjiaaGreatDoor
open Go.RowKit Go.Shelf

theorem boxed (w : World) (th kd ad wd : Int) (own : Bool) (er : Int) : Keeps (fun _ => False) w (w.alloc (.cells #[.int .i64 th, .int .i64 kd, .int .u64 ad, .int .u64 wd, .bool own, .int .i64 er] 60)) ∧ (w.alloc (.cells #[.int .i64 th, .int .i64 kd, .int .u64 ad, .int .u64 wd, .bool own, .int .i64 er] 60)).cell? ⟨w.heap.size, 0, none⟩ = some (.int .i64 th) ∧ (w.alloc (.cells #[.int .i64 th, .int .i64 kd, .int .u64 ad, .int .u64 wd, .bool own, .int .i64 er] 60)).cell? ⟨w.heap.size, 1, none⟩ = some (.int .i64 kd) ∧ (w.alloc (.cells #[.int .i64 th, .int .i64 kd, .int .u64 ad, .int .u64 wd, .bool own, .int .i64 er] 60)).cell? ⟨w.heap.size, 2, none⟩ = some (.int .u64 ad) ∧ (w.alloc (.cells #[.int .i64 th, .int .i64 kd, .int .u64 ad, .int .u64 wd, .bool own, .int .i64 er] 60)).cell? ⟨w.heap.size, 3, none⟩ = some (.int .u64 wd) ∧ (w.alloc (.cells #[.int .i64 th, .int .i64 kd, .int .u64 ad, .int .u64 wd, .bool own, .int .i64 er] 60)).cell? ⟨w.heap.size, 4, none⟩ = some (.bool own) ∧ (w.alloc (.cells #[.int .i64 th, .int .i64 kd, .int .u64 ad, .int .u64 wd, .bool own, .int .i64 er] 60)).cell? ⟨w.heap.size, 5, none⟩ = some (.int .i64 er) := by
  have h := (MapKept.heap_alloc w (.cells #[.int .i64 th, .int .i64 kd, .int .u64 ad, .int .u64 wd, .bool own, .int .i64 er] 60)).1
  exact ⟨(Keeps.refl _ w).alloc _, by rw [cell_of_block h]; rfl, by rw [cell_of_block h]; rfl, by rw [cell_of_block h]; rfl, by rw [cell_of_block h]; rfl, by rw [cell_of_block h]; rfl, by rw [cell_of_block h]; rfl⟩
theorem cell_more {w w' : World} {b o : Nat} {v : Value} (k : Keeps (fun _ => False) w w') (h : w.cell? ⟨b, o, none⟩ = some v) : w'.cell? ⟨b, o, none⟩ = some v := by
  have hb := k.block b (World.block_lt_of_cell? _ _ h) (fun f => f)
  rw [← h]; simp [World.cell?, hb]
set_option maxRecDepth 100000 in
set_option maxHeartbeats 4000000 in
theorem rnumber_any (b T : Nat) (n : Int) (hn0 : 0 ≤ n) (hn : n < 4611686018427387904) (s : Sd) (hs1 : 1 ≤ s.st) (hsn : 0 ≤ s.sn) (hsn2 : s.sn < 18446744073709551616) (e : Ev) (h0 : 1 ≤ e.kd) (h1 : e.kd ≤ 12) (w : World) (n0 : w.cell? ⟨b, 24, none⟩ = some (.int .u64 n)) (s0 : w.cell? ⟨b, T * 3, none⟩ = some (.int .i64 ((s.st : Int) - 1))) (s1 : w.cell? ⟨b, T * 3 + 1, none⟩ = some (.int .u64 s.sn)) :
    Calls Tryz.prog 87 #[.pointer (some ⟨b, 0, none⟩), .pointer (some ⟨b, T * 3, none⟩), .agg e.cells] w fun ex w' => ex = .returned (.bool (numE n s e)) ∧ Keeps (fun _ => False) w w' := by
  obtain ⟨th, kd, ad, wd, own, er⟩ := e
  obtain ⟨st, sn, wr⟩ := s
  dsimp only at h0 h1 s0 s1 hs1 hsn hsn2
  obtain ⟨k0, x0, x1, x2, x3, x4, x5⟩ := boxed w th kd ad wd own er
  replace n0 := cell_more k0 n0
  replace s0 := cell_more k0 s0
  replace s1 := cell_more k0 s1
  have w2 : IntKind.u64.wrap (2 * n) = 2 * n := by rw [IntKind.wrap_u64]; omega
  have w1 : IntKind.u64.wrap (n + 1) = n + 1 := by rw [IntKind.wrap_u64]; omega
  have wsd : IntKind.u64.wrap (sn / 2) = sn / 2 := by rw [IntKind.wrap_u64]; omega
  have td : sn.tdiv 2 = sn / 2 := by rw [Int.tdiv_eq_ediv_of_nonneg hsn]
  show Calls Tryz.prog 87 #[.pointer (some ⟨b, 0, none⟩), .pointer (some ⟨b, T * 3, none⟩), .agg #[.int .i64 th, .int .i64 kd, .int .u64 ad, .int .u64 wd, .bool own, .int .i64 er]] w _
  unfold numE
  dsimp only
  by_cases h1' : kd = 1
  · subst h1'
    go_enter Tryz.func87, Tryz.ntmps87
    go_wp2_with fail
    go_quiet (fail)
    go_wp2_with fail
    go_ret
    exact ⟨rfl, k0.drewN _⟩
  · by_cases h4 : kd = 4
    · subst h4
      by_cases hw : wd = 2 * n
      · have hw1 : (wd == 2 * n) = true := by simpa using hw
        have hE : decide (wd = 2 * n) = true := decide_eq_true hw
        have HE : Hid (wd = 2 * n) := hw
        clear hw
        go_enter Tryz.func87, Tryz.ntmps87
        go_wp2_with fail
        go_quiet (fail)
        go_wp2_with fail
        go_ret
        exact ⟨by simp, k0.drewN _⟩
      · have hw1 : (wd == 2 * n) = false := by simpa using hw
        have hE : decide (wd = 2 * n) = false := decide_eq_false hw
        go_enter Tryz.func87, Tryz.ntmps87
        go_wp2_with fail
        go_quiet (fail)
        go_wp2_with fail
        go_ret
        exact ⟨by simp, k0.drewN _⟩
    · by_cases h5 : kd = 5
      · subst h5
        go_enter Tryz.func87, Tryz.ntmps87
        go_wp2_with fail
        go_quiet (fail)
        go_wp2_with fail
        go_ret
        exact ⟨rfl, k0.drewN _⟩
      · by_cases h6 : kd = 6
        · subst h6
          by_cases hst : st = 3
          · subst hst
            go_enter Tryz.func87, Tryz.ntmps87
            go_wp2_with fail
            go_quiet (fail)
            go_wp2_with fail
            go_ret
            exact ⟨by simp; rfl, k0.drewN _⟩
          · have q1 : (((st : Int) - 1) == 2) = false := by simp; omega
            have q2 : ¬ ((st : Int) - 1 = 2) := by omega
            go_enter Tryz.func87, Tryz.ntmps87
            go_wp2_with fail
            go_quiet (fail)
            go_wp2_with fail
            go_ret
            exact ⟨by simp; rfl, k0.drewN _⟩
        · have e1 : (kd == 1) = false := by simpa using h1'
          have e4 : (kd == 4) = false := by simpa using h4
          have e5 : (kd == 5) = false := by simpa using h5
          have e6 : (kd == 6) = false := by simpa using h6
          go_enter Tryz.func87, Tryz.ntmps87
          go_wp2_with fail
          go_ret
          exact ⟨by simp, k0⟩
set_option maxRecDepth 100000 in
set_option maxHeartbeats 4000000 in
theorem rown_any (b T : Nat) (s : Sd) (hs1 : 1 ≤ s.st) (hsl : s.wr.length ≤ 4611686018427387) (e : Ev) (v : Value) (w : World) (s0 : w.cell? ⟨b, T * 3, none⟩ = some (.int .i64 ((s.st : Int) - 1))) (s2 : w.cell? ⟨b, T * 3 + 2, none⟩ = some v) (hv : ElsAt Cl2 2 w v s.wr.reverse) :
    Calls Tryz.prog 88 #[.pointer (some ⟨b, T * 3, none⟩), .agg e.cells] w fun ex w' => ex = .returned (.bool (ownE s e)) ∧ Keeps (fun _ => False) w w' := by
  obtain ⟨th, kd, ad, wd, own, er⟩ := e
  obtain ⟨st, sn, wr⟩ := s
  dsimp only at s0 hs1 hsl hv
  obtain ⟨k0, x0, x1, x2, x3, x4, x5⟩ := boxed w th kd ad wd own er
  replace s0 := cell_more k0 s0
  replace s2 := cell_more k0 s2
  have hv' := hv.keeps cl2_ne k0
  have WR : ∀ n, Calls Tryz.prog 115 #[v, .int .u64 ad] ((w.alloc (.cells #[.int .i64 th, .int .i64 kd, .int .u64 ad, .int .u64 wd, .bool own, .int .i64 er] 60)).drewN n) fun ex w' => ex = .returned (.tuple #[.int .u64 ((wr.lookup ad).getD 0), .bool (wr.lookup ad).isSome]) ∧ w' = (w.alloc (.cells #[.int .i64 th, .int .i64 kd, .int .u64 ad, .int .u64 wd, .bool own, .int .i64 er] 60)).drewN n := fun n => by
    have := rwritten_any v wr.reverse (by simpa using hsl) ad ((w.alloc (.cells #[.int .i64 th, .int .i64 kd, .int .u64 ad, .int .u64 wd, .bool own, .int .i64 er] 60)).drewN n) (hv'.keeps cl2_ne ((Keeps.refl _ _).drewN n))
    rwa [List.reverse_reverse] at this
  obtain ⟨a, cap, rfl, hcap⟩ := hv.shape
  have hrl : wr.reverse.length = wr.length := by simp
  rw [hrl] at s2 WR
  show Calls Tryz.prog 88 #[.pointer (some ⟨b, T * 3, none⟩), .agg #[.int .i64 th, .int .i64 kd, .int .u64 ad, .int .u64 wd, .bool own, .int .i64 er]] w _
  unfold ownE
  dsimp only
  clear hv hv'
  by_cases h2 : kd = 2
  · subst h2
    generalize wr.lookup ad = lk at *
    cases lk with
    | none =>
      simp only [Option.getD_none, Option.isSome_none] at WR
      cases own with
      | true =>
        go_enter Tryz.func88, Tryz.ntmps88
        go_wp2_with fail
        go_quiet ((go_at_call 115; exact Calls.quiet_of_same (WR _)))
        go_wp2_with fail
        go_ret
        exact ⟨rfl, k0.drewN _⟩
      | false =>
        go_enter Tryz.func88, Tryz.ntmps88
        go_wp2_with fail
        go_quiet ((go_at_call 115; exact Calls.quiet_of_same (WR _)))
        go_wp2_with fail
        go_ret
        exact ⟨rfl, k0.drewN _⟩
    | some x =>
      simp only [Option.getD_some, Option.isSome_some] at WR
      cases own with
      | true =>
        go_enter Tryz.func88, Tryz.ntmps88
        go_wp2_with fail
        go_quiet ((go_at_call 115; exact Calls.quiet_of_same (WR _)))
        go_wp2_with fail
        go_ret
        exact ⟨rfl, k0.drewN _⟩
      | false =>
        go_enter Tryz.func88, Tryz.ntmps88
        go_wp2_with fail
        go_quiet ((go_at_call 115; exact Calls.quiet_of_same (WR _)))
        go_wp2_with fail
        go_ret
        exact ⟨rfl, k0.drewN _⟩
  · have e2 : (kd == 2) = false := by simpa using h2
    clear WR
    by_cases h5 : kd = 5
    · subst h5
      go_enter Tryz.func88, Tryz.ntmps88
      go_wp2_with fail
      go_ret
      exact ⟨by cases wr <;> simp, k0⟩
    · have e5 : (kd == 5) = false := by simpa using h5
      by_cases h6 : kd = 6
      · subst h6
        by_cases hst : st = 3
        · subst hst
          go_enter Tryz.func88, Tryz.ntmps88
          go_wp2_with fail
          go_ret
          exact ⟨by simp, k0⟩
        · have q1 : (((st : Int) - 1) == 2) = false := by simp; omega
          have q2 : ¬ ((st : Int) - 1 = 2) := by omega
          have hw : ((wr.length : Int) == 0) = decide (wr = []) := by cases wr <;> simp; omega
          go_enter Tryz.func88, Tryz.ntmps88
          go_wp2_with fail
          go_ret
          exact ⟨by simp [← hw], k0⟩
      · have e6 : (kd == 6) = false := by simpa using h6
        go_enter Tryz.func88, Tryz.ntmps88
        go_wp2_with fail
        go_ret
        exact ⟨by simp, k0⟩
end Go.Proofs.YthmiainhaebjiaaGreatDoor

/- Small laws. No statement of the seat is proved here. -/
namespace Go.Proofs.YthmiainhaebjiaaGreatDoor
open Go.RowKit Go.Shelf

theorem blk6' {w : World} {g : Nat} {a b c d e f : Value} {t : TypeId} {fr : Nat × Nat} (h : w.heap[g]? = some (.cells #[a, b, c, d, e, f] t fr)) : w.cell? ⟨g, 0, none⟩ = some a ∧ w.cell? ⟨g, 1, none⟩ = some b ∧ w.cell? ⟨g, 2, none⟩ = some c ∧ w.cell? ⟨g, 3, none⟩ = some d ∧ w.cell? ⟨g, 4, none⟩ = some e ∧ w.cell? ⟨g, 5, none⟩ = some f :=
  ⟨by rw [cell_of_block h]; rfl, by rw [cell_of_block h]; rfl, by rw [cell_of_block h]; rfl, by rw [cell_of_block h]; rfl, by rw [cell_of_block h]; rfl, by rw [cell_of_block h]; rfl⟩
theorem wp_held_end {P : Program} {ops : Array Oper} {Q : Exit → Act → World → Prop} {id : Nat} {a : Act} {w : World} {S : World → Prop} (N : Nat) (hN : ops.size = N) (hm : P.follows .mixedOrders = true)
    (h : wpAnyH P .any ops (atEnd (Q .normal)) S N (Array.replicate N false) a w.drew) : (Code.region id ops true).wp P Q a w := by
  subst hN
  exact Code.wp_mono (fun e a w h => by cases e <;> first | exact h | exact h.elim) (wp_region_held hm h)
theorem hmx2 : Tryz.prog.follows .mixedOrders = true := by kernel_rfl

end Go.Proofs.YthmiainhaebjiaaGreatDoor
