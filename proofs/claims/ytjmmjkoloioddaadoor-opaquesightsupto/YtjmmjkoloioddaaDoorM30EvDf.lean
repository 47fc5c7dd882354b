/-
  No statement of the seat is proved here. (Several texts in one: EvDf, OqD, OqE, OqF, OqG.)
-/
import Derived.Test.YtjmmjkoloioddaaDoorEvDe
import Derived.Test.YtjmmjkoloioddaaDoorM09WiF
import Derived.Test.YtjmmjkoloioddaaDoorM20OqA
import Derived.Deep.QuietTactic
import Derived.BigQuiet

/- A walk of the document's Check (package parleyref13). No statement of the seat is proved here. -/
namespace Go.Proofs.YtjmmjkoloioddaaDoor
open Go.RowKit Go.Shelf

def rw0 : Array Value := #[.int .i64 0, .int .u64 0, .slice none 0 0, .int .i64 0, .int .u64 0, .slice none 0 0, .int .i64 0, .int .u64 0, .slice none 0 0, .int .i64 0, .int .u64 0, .slice none 0 0, .int .i64 0, .int .u64 0, .slice none 0 0, .int .i64 0, .int .u64 0, .slice none 0 0, .int .i64 0, .int .u64 0, .slice none 0 0, .int .i64 0, .int .u64 0, .slice none 0 0, .int .u64 0]
theorem st0_sdd (i : Nat) : st0.sd i = sd0 := by
  simp only [St.sd, st0, List.getElem?_replicate]
  split <;> rfl
theorem rw_start {w : World} {B b : Nat} (hb : w.heap[b]? = some (.cells rw0 130 (0, 0))) (hB : B ≤ b) : RW w B b st0 (fun _ => .slice none 0 0) := by
  refine ⟨⟨rw0, hb, rfl, rfl, fun i hi => ?_⟩, fun i _ => ?_, fun i j g _ _ _ hg => ?_, fun i _ hg => ?_, hB, rfl⟩
  · rw [st0_sdd]
    match i, hi with
    | 0, _ => exact ⟨rfl, rfl, rfl⟩
    | 1, _ => exact ⟨rfl, rfl, rfl⟩
    | 2, _ => exact ⟨rfl, rfl, rfl⟩
    | 3, _ => exact ⟨rfl, rfl, rfl⟩
    | 4, _ => exact ⟨rfl, rfl, rfl⟩
    | 5, _ => exact ⟨rfl, rfl, rfl⟩
    | 6, _ => exact ⟨rfl, rfl, rfl⟩
    | 7, _ => exact ⟨rfl, rfl, rfl⟩
  · rw [st0_sdd]
    exact OwnR.nilB _ _ _ _ _ (by have := lt_of_block hb; omega)
  · cases hg
  · cases hg
set_option maxRecDepth 100000 in
set_option maxHeartbeats 8000000 in
theorem rcheck_any (v : Value) (L : List Ev) (w : World) (hv : EvsAt w v L) :
    Calls Tryd.prog 36 #[v] w fun ex w' => ex = .returned (.agg (odV (checkL L).1 (checkL L).2)) ∧ Keeps (fun _ => False) w w' := by
  have hbig := hv.big
  have hwf := hv.wf
  have HV : Hid (∀ X, Keeps (fun _ => False) w X → EvsAt X v L) := fun X k => hv.keeps k
  obtain ⟨a, cap, rfl, hcap⟩ := hv.els.shape
  clear hv
  have k0 := (Keeps.refl (fun _ => False) w).alloc (.cells (odV 0 0) 28)
  have b0 : (w.alloc (.cells (odV 0 0) 28)).heap[w.heap.size]? = some (.cells (odV 0 0) 28 (0, 0)) := (MapKept.heap_alloc w _).1
  have k1 := (Keeps.refl (fun _ => False) (w.alloc (.cells (odV 0 0) 28))).alloc (.cells rw0 130)
  have b1 := (MapKept.heap_alloc (w.alloc (.cells (odV 0 0) 28)) (.cells rw0 130)).1
  rw [show (w.alloc (.cells (odV 0 0) 28)).heap.size = w.heap.size + 1 by simp] at b1
  have R1 := rw_start (B := w.heap.size + 1) b1 (Nat.le_refl _)
  have K1 := k0.trans k1
  have B1 := (k1.block _ (lt_of_block b0) (fun f => f)).trans b0
  clear k0 b0 k1 b1
  unfold odV rw0 at R1 K1 B1
  go_enter Tryd.func36, Tryd.ntmps36
  go_wp2_with fail
  go_loopw [4] (fun u wr => ∃ (k : Nat), u = .int .i64 k ∧ k ≤ L.length ∧ Hid (∃ S m, RW wr (w.heap.size + 1) (w.heap.size + 1) S m ∧ SOk S k ∧ checkL L = chk S (L.drop k) k) ∧ Keeps (fun _ => False) w wr ∧ wr.heap[w.heap.size]? = some (.cells (odV 0 0) 28 (0, 0))) (fun u _ => L.length - (intOf u).toNat)
  case atStart => exact ⟨0, rfl, Nat.zero_le _, ⟨st0, _, R1, st0_ok, rfl⟩, K1, B1⟩
  case round =>
    clear R1 K1 B1
    obtain ⟨k, rfl, hk, hh, kr, br⟩ := hrel
    by_cases hlt : k < L.length
    · have hki : (k : Int) < L.length := by omega
      have hk0 : (0 : Int) ≤ k := by omega
      obtain ⟨S, m, R, hok, hc⟩ := hh.out
      obtain ⟨g, off, rfl, x0, x1, x2, x3, x4, x5⟩ := (HV.out wr kr).at k hlt
      have hew := hwf _ (List.getElem_mem hlt)
      have hdrop : L.drop k = L[k] :: L.drop (k + 1) := List.drop_eq_getElem_cons hlt
      rw [hdrop, chk] at hc
      have PU := rput_any (w.heap.size + 1) (w.heap.size + 1) S m k (by omega) hok (L[k]) hew wr R (by have := R.lt; omega)
      have HC : Hid (checkL L = _) := hc
      have HOK : Hid (errE S (L[k]) = 0 → SOk (nextS S (L[k])) (k + 1)) := fun h => next_ok hok R.t8 hew h
      clear hc R hok hh hdrop hew hwf
      generalize hev : L[k]'hlt = e at *
      obtain ⟨th, kd, ad, wd, own, er⟩ := e
      dsimp only at x0 x1 x2 x3 x4 x5
      clear hev
      generalize hz : errE S ⟨th, kd, ad, wd, own, er⟩ = z at *
      have PU2 : Calls Tryd.prog 55 #[.pointer (some ⟨w.heap.size + 1, 0, none⟩), .agg #[.int .i64 th, .int .i64 kd, .int .u64 ad, .int .u64 wd, .bool own, .int .i64 er]] wr _ := PU
      clear PU
      by_cases hz0 : z = 0
      · subst hz0
        go_wp2_with fail
        refine PU2.mono ?_
        rintro ex w3 ⟨rfl, hR, k3⟩
        have K3 := kr.young k3 (fun q hq => by omega)
        have B3 := (k3.block _ (lt_of_block br) (fun f => by omega)).trans br
        have FN : Hid (∃ S' m', RW w3 (w.heap.size + 1) (w.heap.size + 1) S' m' ∧ SOk S' (k + 1) ∧ checkL L = chk S' (L.drop (k + 1)) (k + 1)) := by
          obtain ⟨m', hm'⟩ := hR (by first | rfl | trivial)
          exact ⟨_, m', hm', HOK.out (by first | rfl | trivial), by simpa using HC.out⟩
        clear PU2 k3 hR x0 x1 x2 x3 x4 x5 kr br HC HOK
        go_wp2_with fail
        go_roundw
        · exact ⟨k + 1, by simp, by omega, FN, K3, B3⟩
        · simp [intOf]; omega
      · have hcz : checkL L = ((k : Int), z) := by have := HC.out; rw [if_neg hz0] at this; exact this
        have HZ : Hid (checkL L = ((k : Int), z)) := hcz
        have hzb : (z == 0) = false := by simpa using hz0
        clear hcz HC hz HOK
        go_wp2_with fail
        refine PU2.mono ?_
        rintro ex w3 ⟨rfl, hR, k3⟩
        have K3 := kr.young k3 (fun q hq => by omega)
        have B3 := (k3.block _ (lt_of_block br) (fun f => by omega)).trans br
        clear PU2 k3 hR x0 x1 x2 x3 x4 x5 kr br
        go_wp2_with (refine wpList_store_row rfl 28 _ _ rfl w.heap.size (odV k z) rfl rfl 28 _ B3 (od_size _ _) rfl (od_all _ _) ?_)
        refine bodyPost_ret (odd_ret1 rfl _ _ w.heap.size (odV k z) (setRow_heap _ _ _ _ _ _ B3) rfl rfl) rfl ?_
        exact ⟨by rw [HZ.out], K3.row (Nat.le_refl _) _⟩
    · obtain rfl : k = L.length := by omega
      have hcz : checkL L = (-1, 0) := by
        obtain ⟨S, m, R, hok, hc⟩ := hh.out
        rw [hc, List.drop_length]; rfl
      have HZ : Hid (checkL L = (-1, 0)) := hcz
      clear hcz hh
      go_wp2_with (refine wpList_store_row rfl 28 _ _ rfl w.heap.size (odV (-1) 0) rfl rfl 28 _ br (od_size _ _) rfl (od_all _ _) ?_)
      refine bodyPost_ret (odd_ret1 rfl _ _ w.heap.size (odV (-1) 0) (setRow_heap _ _ _ _ _ _ br) rfl rfl) rfl ?_
      exact ⟨by rw [HZ.out], kr.row (Nat.le_refl _) _⟩
end Go.Proofs.YtjmmjkoloioddaaDoor


/- Walks of the document's wrong and SameSights (layer 16). No statement of the seat is proved here. -/
namespace Go.Proofs.YtjmmjkoloioddaaDoor
open Go.RowKit Go.Shelf

set_option maxRecDepth 100000 in
set_option maxHeartbeats 8000000 in
theorem rwrong_any (a e : Int) (w : World) : Calls Tryd.prog 35 #[.int .i64 a, .int .i64 e] w fun ex w' => ex = .returned (.agg #[.int .i64 a, .int .i64 e]) ∧ Keeps (fun _ => False) w w' := by
  have k0 := (Keeps.refl (fun _ => False) w).alloc (.cells #[.int .i64 a, .int .i64 e] 28)
  have b0 : (w.alloc (.cells #[.int .i64 a, .int .i64 e] 28)).heap[w.heap.size]? = some (.cells #[.int .i64 a, .int .i64 e] 28 (0, 0)) := (MapKept.heap_alloc w _).1
  go_enter Tryd.func35, Tryd.ntmps35
  go_wp2_with fail
  refine bodyPost_ret (odd_ret1 rfl _ _ w.heap.size #[.int .i64 a, .int .i64 e] b0 rfl rfl) rfl ?_
  exact ⟨rfl, k0⟩
set_option maxRecDepth 100000 in
set_option maxHeartbeats 8000000 in
theorem eq_ty9_self (a b c d e f g : Int) (w : World) : (Op.equalIn 9999 38 (.agg #[.int .i64 a, .int .i64 b, .int .i64 c, .int .u64 d, .int .i64 e, .int .i64 f, .int .i64 g]) (.agg #[.int .i64 a, .int .i64 b, .int .i64 c, .int .u64 d, .int .i64 e, .int .i64 f, .int .i64 g])).run Tryd.prog w = .ok true w := by
  have u3 := Tryd.underlying3
  have a3 := Tryd.isAgg3
  have z3 := Tryd.sizeOf3
  have u4 := Tryd.underlying36
  have a4 := Tryd.isAgg36
  have z4 := Tryd.sizeOf36
  have u5 := Tryd.underlying35
  have a5 := Tryd.isAgg35
  have z5 := Tryd.sizeOf35
  have hS : Tryd.prog.underlying 38 = some (.struct (Tryd.prog.fieldsOf 38)) := by kernel_rfl
  rw [show (9999 : Nat) = 9998 + 1 from rfl, run_equalIn_agg w 9998 38 _ _ hS (by kernel_rfl)]
  simp only [Program.fieldsOf, Tryd.underlying38]
  go_simp
set_option maxRecDepth 100000 in
set_option maxHeartbeats 8000000 in
theorem eq_sg_self (a b c d e f g h i j : Int) (w : World) : (Op.equalIn 10000 40 (.agg #[.int .i64 a, .int .i64 b, .int .i64 c, .int .u64 d, .int .i64 e, .int .i64 f, .int .i64 g, .int .i64 h, .int .i64 i, .int .i64 j]) (.agg #[.int .i64 a, .int .i64 b, .int .i64 c, .int .u64 d, .int .i64 e, .int .i64 f, .int .i64 g, .int .i64 h, .int .i64 i, .int .i64 j])).run Tryd.prog w = .ok true w := by
  have u3 := Tryd.underlying3
  have a3 := Tryd.isAgg3
  have z3 := Tryd.sizeOf3
  have u4 := Tryd.underlying36
  have a4 := Tryd.isAgg36
  have z4 := Tryd.sizeOf36
  have u5 := Tryd.underlying35
  have a5 := Tryd.isAgg35
  have z5 := Tryd.sizeOf35
  have a6 := Tryd.isAgg38
  have z6 := Tryd.sizeOf38
  have hS : Tryd.prog.underlying 40 = some (.struct (Tryd.prog.fieldsOf 40)) := by kernel_rfl
  rw [show (10000 : Nat) = 9999 + 1 from rfl, run_equalIn_agg w 9999 40 _ _ hS (by kernel_rfl)]
  simp only [Program.fieldsOf, Tryd.underlying40]
  clear hS
  have hE : (Op.equalIn 9999 38 (.agg #[.int .i64 a, .int .i64 b, .int .i64 c, .int .u64 d, .int .i64 e, .int .i64 f, .int .i64 g]) (.agg #[.int .i64 a, .int .i64 b, .int .i64 c, .int .u64 d, .int .i64 e, .int .i64 f, .int .i64 g])).run Tryd.prog w = .ok true w := eq_ty9_self a b c d e f g w
  go_simp
set_option maxRecDepth 100000 in
set_option maxHeartbeats 8000000 in
theorem rsames_any (va vb : Value) (L : List Sg) (hL : L.length ≤ 1100000) (w : World) (ha : ElsAt Sg.cl 10 w va L) (hb : ElsAt Sg.cl 10 w vb L) : Calls Tryd.prog 9 #[va, vb] w fun e w' => e = .returned (.bool true) ∧ Keeps (fun _ => False) w w' := by
  have HA : Hid (∀ X, Keeps (fun _ => False) w X → ElsAt Sg.cl 10 X va L) := fun X k => ha.keeps sg_ne k
  have HB : Hid (∀ X, Keeps (fun _ => False) w X → ElsAt Sg.cl 10 X vb L) := fun X k => hb.keeps sg_ne k
  have k0 := Keeps.refl (fun _ => False) w
  have Q := eq_sg_self
  obtain ⟨a0, c0, rfl, _⟩ := ha.shape
  obtain ⟨a1, c1, rfl, _⟩ := hb.shape
  clear ha hb
  go_enter Tryd.func9, Tryd.ntmps9
  go_wp2_with fail
  go_loopw [5] (fun u wr => ∃ (k : Nat), u = .int .i64 k ∧ k ≤ L.length ∧ Keeps (fun _ => False) w wr) (fun u _ => L.length - (intOf u).toNat)
  case atStart => exact ⟨0, rfl, Nat.zero_le _, k0⟩
  case round =>
    obtain ⟨k, rfl, hk, kr⟩ := hrel
    by_cases hlt : k < L.length
    · obtain ⟨ga, off, rfl, x⟩ := (HA.out wr kr).at k hlt
      obtain ⟨gb, offb, rfl, y⟩ := (HB.out wr kr).at k hlt
      have hki : (k : Int) < L.length := by omega
      have hk0 : (0 : Int) ≤ k := by omega
      generalize L[k]'hlt = i at *
      obtain ⟨⟨th, fi, la, sn, how, rd, wn⟩, fr, up, at_⟩ := i
      have x0 := x 0 _ rfl
      have x1 := x 1 _ rfl
      have x2 := x 2 _ rfl
      have x3 := x 3 _ rfl
      have x4 := x 4 _ rfl
      have x5 := x 5 _ rfl
      have x6 := x 6 _ rfl
      have x7 := x 7 _ rfl
      have x8 := x 8 _ rfl
      have x9 := x 9 _ rfl
      have y0 := y 0 _ rfl
      have y1 := y 1 _ rfl
      have y2 := y 2 _ rfl
      have y3 := y 3 _ rfl
      have y4 := y 4 _ rfl
      have y5 := y 5 _ rfl
      have y6 := y 6 _ rfl
      have y7 := y 7 _ rfl
      have y8 := y 8 _ rfl
      have y9 := y 9 _ rfl
      simp only [Nat.add_zero] at x0 y0
      dsimp only at x0 x1 x2 x3 x4 x5 x6 x7 x8 x9 y0 y1 y2 y3 y4 y5 y6 y7 y8 y9
      have Q1 := Q th fi la sn how rd wn fr up at_
      clear x y Q
      go_wp2_with fail
      go_quiet (fail)
      go_wp2_with fail
      go_roundw
      · exact ⟨k + 1, by simp, by omega, kr.drewN _⟩
      · simp [intOf]; omega
    · obtain rfl : k = L.length := by omega
      go_wp2_with fail
      go_ret
      exact ⟨rfl, kr⟩
end Go.Proofs.YtjmmjkoloioddaaDoor


/- A walk of the document's Wrong (layer 16). No statement of the seat is proved here. -/
namespace Go.Proofs.YtjmmjkoloioddaaDoor
open Go.RowKit Go.Shelf

/-- What is wrong with cells and a history. -/
def wrgB (n : Nat) (L : List Ev) : Int × Int := if idxF (missE n) L 0 = -1 then (-1, 0) else (idxF (missE n) L 0, 4)
def wrgA (n : Nat) (L : List Ev) : Int × Int := if idxF plainE L 0 = -1 then wrgB n L else (idxF plainE L 0, 260)
def wrgV (n : Nat) (L : List Ev) : Int × Int := if n = 0 ∨ 65536 < n then (-1, 2) else if (checkL L).2 = 0 then wrgA n L else checkL L
set_option maxRecDepth 100000 in
set_option maxHeartbeats 8000000 in
theorem rwrg_arg (va : Option Addr) (vc n : Nat) (h : n = 0 ∨ 65536 < n) (hn : n < 4611686018427387904) (v : Value) (w : World) : Calls Tryd.prog 16 #[.slice va n vc, v] w fun ex w' => ex = .returned (.agg (odV (-1) 2)) ∧ Keeps (fun _ => False) w w' := by
  have k0 := (Keeps.refl (fun _ => False) w).alloc (.cells #[.int .i64 0, .int .i64 0] 28)
  have b0 : (w.alloc (.cells #[.int .i64 0, .int .i64 0] 28)).heap[w.heap.size]? = some (.cells #[.int .i64 0, .int .i64 0] 28 (0, 0)) := (MapKept.heap_alloc w _).1
  have hw0 := lt_of_block b0
  have hB : Hid (_ = _) := b0
  have WR := rwrong_any (-1) 2 (w.alloc (.cells #[.int .i64 0, .int .i64 0] 28))
  have kr := k0
  unfold odV
  have HF : Hid ((0 : Int) = 0) := rfl
  clear b0
  by_cases h0 : n = 0
  · subst h0
    clear h
    go_enter Tryd.func16, Tryd.ntmps16
    go_wp2_with fail
    refine WR.mono ?_
    rintro ex w1 ⟨rfl, kz⟩
    clear WR
    have bO := (kz.block _ hw0 (fun f => f)).trans hB.out
    have c0 : w1.cell? ⟨w.heap.size, 0, none⟩ = some (.int .i64 0) := by rw [cell_of_block bO]; rfl
    have c1 : w1.cell? ⟨w.heap.size, 1, none⟩ = some (.int .i64 0) := by rw [cell_of_block bO]; rfl
    have f0 : w1.frozen? ⟨w.heap.size, 0, none⟩ = false := frozen_of_block bO _
    have f1 : w1.frozen? ⟨w.heap.size, 1, none⟩ = false := frozen_of_block bO _
    have BE := block_set (block_set bO 0 (.int .i64 (-1))) 1 (.int .i64 2)
    have KE := ((kr.trans kz).setCell (p := ⟨w.heap.size, 0, none⟩) (.inl (Nat.le_refl _)) (.int .i64 (-1))).setCell (p := ⟨w.heap.size, 1, none⟩) (.inl (Nat.le_refl _)) (.int .i64 2)
    clear bO
    go_wp2_with fail
    refine bodyPost_ret (odd_ret1 rfl _ _ w.heap.size #[.int .i64 (-1), .int .i64 2] BE rfl rfl) rfl ?_
    exact ⟨rfl, KE⟩
  · have h1 : ¬ ((n : Int) < 1) := by omega
    have h2 : (n : Int) > 65536 := by omega
    clear h h0
    go_enter Tryd.func16, Tryd.ntmps16
    go_wp2_with fail
    refine WR.mono ?_
    rintro ex w1 ⟨rfl, kz⟩
    clear WR
    have bO := (kz.block _ hw0 (fun f => f)).trans hB.out
    have c0 : w1.cell? ⟨w.heap.size, 0, none⟩ = some (.int .i64 0) := by rw [cell_of_block bO]; rfl
    have c1 : w1.cell? ⟨w.heap.size, 1, none⟩ = some (.int .i64 0) := by rw [cell_of_block bO]; rfl
    have f0 : w1.frozen? ⟨w.heap.size, 0, none⟩ = false := frozen_of_block bO _
    have f1 : w1.frozen? ⟨w.heap.size, 1, none⟩ = false := frozen_of_block bO _
    have BE := block_set (block_set bO 0 (.int .i64 (-1))) 1 (.int .i64 2)
    have KE := ((kr.trans kz).setCell (p := ⟨w.heap.size, 0, none⟩) (.inl (Nat.le_refl _)) (.int .i64 (-1))).setCell (p := ⟨w.heap.size, 1, none⟩) (.inl (Nat.le_refl _)) (.int .i64 2)
    clear bO
    go_wp2_with fail
    refine bodyPost_ret (odd_ret1 rfl _ _ w.heap.size #[.int .i64 (-1), .int .i64 2] BE rfl rfl) rfl ?_
    exact ⟨rfl, KE⟩
end Go.Proofs.YtjmmjkoloioddaaDoor


/- A walk of the document's Wrong, its loops (layer 16). No statement of the seat is proved here. -/
namespace Go.Proofs.YtjmmjkoloioddaaDoor
open Go.RowKit Go.Shelf

set_option maxRecDepth 100000 in
set_option maxHeartbeats 8000000 in
theorem rwrg_ok (va : Option Addr) (vc n : Nat) (h0 : 0 < n) (h1 : n ≤ 65536) (v : Value) (L : List Ev) (hL : L.length ≤ 1100000) (hz : checkL L = (-1, 0)) (w : World) (hv : EvsAt w v L) : Calls Tryd.prog 16 #[.slice va n vc, v] w fun ex w' => ex = .returned (.agg #[.int .i64 (wrgA n L).1, .int .i64 (wrgA n L).2]) ∧ Keeps (fun _ => False) w w' := by
  have k0 := (Keeps.refl (fun _ => False) w).alloc (.cells #[.int .i64 0, .int .i64 0] 28)
  have b0 : (w.alloc (.cells #[.int .i64 0, .int .i64 0] 28)).heap[w.heap.size]? = some (.cells #[.int .i64 0, .int .i64 0] 28 (0, 0)) := (MapKept.heap_alloc w _).1
  have RC := rcheck_any v L _ (hv.keeps k0)
  rw [hz] at RC
  unfold odV at RC
  dsimp only at RC
  have HV : Hid (∀ X, Keeps (fun _ => False) w X → ElsAt Ev.cl 6 X v L) := fun X k => hv.els.keeps ev_ne k
  obtain ⟨a1, cap1, rfl, hcap⟩ := hv.els.shape
  have hn1 : ¬ ((n : Int) < 1) := by omega
  have hn2 : ¬ ((n : Int) > 65536) := by omega
  have hnw : IntKind.u64.wrap (n : Int) = n := by rw [IntKind.wrap_u64]; omega
  obtain ⟨z, hzz⟩ : ∃ z, z = wrgA n L := ⟨_, rfl⟩
  rw [← hzz]
  have HZ : Hid (z = if idxF plainE (L.drop 0) 0 = -1 then wrgB n L else (idxF plainE (L.drop 0) 0, 260)) := hzz
  clear hzz hv hz
  go_enter Tryd.func16, Tryd.ntmps16
  go_wp2_with fail
  refine RC.mono ?_
  rintro ex w1 ⟨rfl, k1⟩
  clear RC
  have b1 := (k1.block _ (lt_of_block b0) (fun f => f)).trans b0
  have kA := (Keeps.refl (fun _ => False) w1).alloc (.cells #[.int .i64 (-1), .int .i64 0] 28)
  have b2 := (kA.block _ (lt_of_block b1) (fun f => f)).trans b1
  have K2 := (k0.trans k1).trans kA
  have HB2 : Hid (_ = _) := b2
  clear b0 b1 b2 kA k0 k1
  go_wp2_with fail
  generalize w1.alloc (.cells #[.int .i64 (-1), .int .i64 0] 28) = A at *
  go_loopw [6] (fun u wr => ∃ k : Nat, u = .int .i64 k ∧ k ≤ L.length ∧ Hid (z = if idxF plainE (L.drop k) k = -1 then wrgB n L else (idxF plainE (L.drop k) k, 260)) ∧ Hid (wr.heap[w.heap.size]? = some (.cells #[.int .i64 0, .int .i64 0] 28 (0, 0))) ∧ Keeps (fun _ => False) w wr) (fun u _ => L.length - (intOf u).toNat)
  case atStart => exact ⟨0, rfl, Nat.zero_le _, HZ, HB2, K2⟩
  case round =>
    clear HZ HB2 K2
    obtain ⟨k, rfl, hk, hh, hB, kr⟩ := hrel
    have hw0 := lt_of_block hB.out
    by_cases hlt : k < L.length
    · have hki : (k : Int) < L.length := by omega
      have hk0 : (0 : Int) ≤ k := by omega
      obtain ⟨g, off, rfl, hc⟩ := (HV.out wr kr).at k hlt
      have hst := hh.out
      rw [List.drop_eq_getElem_cons hlt, idxF] at hst
      generalize L[k]'hlt = e at *
      have x1 := hc 1 _ rfl
      clear hc hh
      by_cases hp : e.kd = 10 ∨ e.kd = 11
      · have HF0 : z = ((k : Int), 260) := by
          have hpl : plainE e = true := by unfold plainE; rcases hp with q | q <;> simp [q]
          simp only [hpl, if_true] at hst
          rw [if_neg (by omega)] at hst
          exact hst
        have HF : Hid (z = ((k : Int), 260)) := HF0
        clear HF0 hst
        rcases hp with hp | hp
        · rw [hp] at x1
          go_wp2_with fail
          refine (rwrong_any (k : Int) 260 wr).mono ?_
          rintro ex w3 ⟨rfl, kz⟩
          have bO := (kz.block _ hw0 (fun f => f)).trans hB.out
          have c0 : w3.cell? ⟨w.heap.size, 0, none⟩ = some (.int .i64 0) := by rw [cell_of_block bO]; rfl
          have c1 : w3.cell? ⟨w.heap.size, 1, none⟩ = some (.int .i64 0) := by rw [cell_of_block bO]; rfl
          have f0 : w3.frozen? ⟨w.heap.size, 0, none⟩ = false := frozen_of_block bO _
          have f1 : w3.frozen? ⟨w.heap.size, 1, none⟩ = false := frozen_of_block bO _
          have BE := block_set (block_set bO 0 (.int .i64 (k : Int))) 1 (.int .i64 260)
          have KE := ((kr.trans kz).setCell (p := ⟨w.heap.size, 0, none⟩) (.inl (Nat.le_refl _)) (.int .i64 (k : Int))).setCell (p := ⟨w.heap.size, 1, none⟩) (.inl (Nat.le_refl _)) (.int .i64 260)
          clear bO
          go_wp2_with fail
          refine bodyPost_ret (odd_ret1 rfl _ _ w.heap.size #[.int .i64 (k : Int), .int .i64 260] BE rfl rfl) rfl ?_
          exact ⟨by rw [HF.out], KE⟩
        · rw [hp] at x1
          go_wp2_with fail
          refine (rwrong_any (k : Int) 260 wr).mono ?_
          rintro ex w3 ⟨rfl, kz⟩
          have bO := (kz.block _ hw0 (fun f => f)).trans hB.out
          have c0 : w3.cell? ⟨w.heap.size, 0, none⟩ = some (.int .i64 0) := by rw [cell_of_block bO]; rfl
          have c1 : w3.cell? ⟨w.heap.size, 1, none⟩ = some (.int .i64 0) := by rw [cell_of_block bO]; rfl
          have f0 : w3.frozen? ⟨w.heap.size, 0, none⟩ = false := frozen_of_block bO _
          have f1 : w3.frozen? ⟨w.heap.size, 1, none⟩ = false := frozen_of_block bO _
          have BE := block_set (block_set bO 0 (.int .i64 (k : Int))) 1 (.int .i64 260)
          have KE := ((kr.trans kz).setCell (p := ⟨w.heap.size, 0, none⟩) (.inl (Nat.le_refl _)) (.int .i64 (k : Int))).setCell (p := ⟨w.heap.size, 1, none⟩) (.inl (Nat.le_refl _)) (.int .i64 260)
          clear bO
          go_wp2_with fail
          refine bodyPost_ret (odd_ret1 rfl _ _ w.heap.size #[.int .i64 (k : Int), .int .i64 260] BE rfl rfl) rfl ?_
          exact ⟨by rw [HF.out], KE⟩
      · have hp10 : (e.kd == 10) = false := by rw [beq_eq_false_iff_ne]; omega
        have hp11 : (e.kd == 11) = false := by rw [beq_eq_false_iff_ne]; omega
        have HF : Hid (z = if idxF plainE (L.drop (k + 1)) (k + 1) = -1 then wrgB n L else (idxF plainE (L.drop (k + 1)) (k + 1), 260)) := by
          have hpl : ¬ plainE e = true := by unfold plainE; rw [Bool.or_eq_true, decide_eq_true_eq, decide_eq_true_eq]; exact hp
          simp only [if_neg hpl] at hst
          exact hst
        clear hst
        go_wp2_with fail
        go_roundw
        · exact ⟨k + 1, by simp, by omega, HF, hB, kr⟩
        · simp [intOf]; omega
    · obtain rfl : k = L.length := by omega
      have HZ2 : Hid (z = if idxF (missE n) (L.drop 0) 0 = -1 then (-1, 0) else (idxF (missE n) (L.drop 0) 0, 4)) := by
        have := hh.out
        rw [List.drop_length, idxF, if_pos rfl] at this
        exact this
      have krr := kr
      have hBr := hB
      clear hh hw0 hlt
      go_wp2_with fail
      go_loopw [7] (fun u wr => ∃ k : Nat, u = .int .i64 k ∧ k ≤ L.length ∧ Hid (z = if idxF (missE n) (L.drop k) k = -1 then (-1, 0) else (idxF (missE n) (L.drop k) k, 4)) ∧ Hid (wr.heap[w.heap.size]? = some (.cells #[.int .i64 0, .int .i64 0] 28 (0, 0))) ∧ Keeps (fun _ => False) w wr) (fun u _ => L.length - (intOf u).toNat)
      case atStart => exact ⟨0, rfl, Nat.zero_le _, HZ2, hBr, krr⟩
      case round =>
        clear HZ2 hBr krr hB kr
        obtain ⟨j, rfl, hj, hh, hB, kr⟩ := hrel
        have hw0 := lt_of_block hB.out
        by_cases hlt : j < L.length
        · have hki : (j : Int) < L.length := by omega
          have hk0 : (0 : Int) ≤ j := by omega
          obtain ⟨g, off, rfl, hc⟩ := (HV.out wr kr).at j hlt
          have hst := hh.out
          rw [List.drop_eq_getElem_cons hlt, idxF] at hst
          generalize L[j]'hlt = e at *
          have x1 := hc 1 _ rfl
          have x2 := hc 2 _ rfl
          clear hc hh
          by_cases hq : e.kd = 2 ∨ e.kd = 3
          · by_cases hd : e.ad < n
            · have hdg : ¬ (e.ad ≥ (n : Int)) := by omega
              have HF : Hid (z = if idxF (missE n) (L.drop (j + 1)) (j + 1) = -1 then (-1, 0) else (idxF (missE n) (L.drop (j + 1)) (j + 1), 4)) := by
                have hpl : ¬ missE n e = true := by unfold missE; simp [hd]
                simp only [if_neg hpl] at hst
                exact hst
              clear hst
              rcases hq with hq | hq
              all_goals
                rw [hq] at x1
                go_wp2_with fail
                go_roundw
                · exact ⟨j + 1, by simp, by omega, HF, hB, kr⟩
                · simp [intOf]; omega
            · have hdg : e.ad ≥ (n : Int) := by omega
              have HF0 : z = ((j : Int), 4) := by
                have hpl : missE n e = true := by unfold missE; rcases hq with q | q <;> simp [q, hd]
                simp only [hpl, if_true] at hst
                rw [if_neg (by omega)] at hst
                exact hst
              have HF : Hid (z = ((j : Int), 4)) := HF0
              clear HF0 hst
              rcases hq with hq | hq
              all_goals
                rw [hq] at x1
                go_wp2_with fail
                refine (rwrong_any (j : Int) 4 wr).mono ?_
                rintro ex w3 ⟨rfl, kz⟩
                have bO := (kz.block _ hw0 (fun f => f)).trans hB.out
                have c0 : w3.cell? ⟨w.heap.size, 0, none⟩ = some (.int .i64 0) := by rw [cell_of_block bO]; rfl
                have c1 : w3.cell? ⟨w.heap.size, 1, none⟩ = some (.int .i64 0) := by rw [cell_of_block bO]; rfl
                have f0 : w3.frozen? ⟨w.heap.size, 0, none⟩ = false := frozen_of_block bO _
                have f1 : w3.frozen? ⟨w.heap.size, 1, none⟩ = false := frozen_of_block bO _
                have BE := block_set (block_set bO 0 (.int .i64 (j : Int))) 1 (.int .i64 4)
                have KE := ((kr.trans kz).setCell (p := ⟨w.heap.size, 0, none⟩) (.inl (Nat.le_refl _)) (.int .i64 (j : Int))).setCell (p := ⟨w.heap.size, 1, none⟩) (.inl (Nat.le_refl _)) (.int .i64 4)
                clear bO
                go_wp2_with fail
                refine bodyPost_ret (odd_ret1 rfl _ _ w.heap.size #[.int .i64 (j : Int), .int .i64 4] BE rfl rfl) rfl ?_
                exact ⟨by rw [HF.out], KE⟩
          · have hq2 : (e.kd == 2) = false := by rw [beq_eq_false_iff_ne]; omega
            have hq3 : (e.kd == 3) = false := by rw [beq_eq_false_iff_ne]; omega
            have HF : Hid (z = if idxF (missE n) (L.drop (j + 1)) (j + 1) = -1 then (-1, 0) else (idxF (missE n) (L.drop (j + 1)) (j + 1), 4)) := by
              have hpl : ¬ missE n e = true := by unfold missE; obtain ⟨q1, q2⟩ := not_or.1 hq; simp [q1, q2]
              simp only [if_neg hpl] at hst
              exact hst
            clear hst
            go_wp2_with fail
            go_roundw
            · exact ⟨j + 1, by simp, by omega, HF, hB, kr⟩
            · simp [intOf]; omega
        · obtain rfl : j = L.length := by omega
          have HF : Hid (z = (-1, 0)) := by
            have := hh.out
            rw [List.drop_length, idxF, if_pos rfl] at this
            exact this
          clear hh
          go_wp2_with fail
          refine (rwrong_any (-1) 0 wr).mono ?_
          rintro ex w3 ⟨rfl, kz⟩
          have bO := (kz.block _ hw0 (fun f => f)).trans hB.out
          have c0 : w3.cell? ⟨w.heap.size, 0, none⟩ = some (.int .i64 0) := by rw [cell_of_block bO]; rfl
          have c1 : w3.cell? ⟨w.heap.size, 1, none⟩ = some (.int .i64 0) := by rw [cell_of_block bO]; rfl
          have f0 : w3.frozen? ⟨w.heap.size, 0, none⟩ = false := frozen_of_block bO _
          have f1 : w3.frozen? ⟨w.heap.size, 1, none⟩ = false := frozen_of_block bO _
          have BE := block_set (block_set bO 0 (.int .i64 (-1))) 1 (.int .i64 0)
          have KE := ((kr.trans kz).setCell (p := ⟨w.heap.size, 0, none⟩) (.inl (Nat.le_refl _)) (.int .i64 (-1))).setCell (p := ⟨w.heap.size, 1, none⟩) (.inl (Nat.le_refl _)) (.int .i64 0)
          clear bO
          go_wp2_with fail
          refine bodyPost_ret (odd_ret1 rfl _ _ w.heap.size #[.int .i64 (-1), .int .i64 0] BE rfl rfl) rfl ?_
          exact ⟨by rw [HF.out], KE⟩
end Go.Proofs.YtjmmjkoloioddaaDoor


/- A walk of the document's Wrong where the history can not be (layer 16). No statement of the seat is proved here. -/
namespace Go.Proofs.YtjmmjkoloioddaaDoor
open Go.RowKit Go.Shelf

set_option maxRecDepth 100000 in
set_option maxHeartbeats 8000000 in
theorem rwrg_odd (va : Option Addr) (vc n : Nat) (h0 : 0 < n) (h1 : n ≤ 65536) (v : Value) (L : List Ev) (hz : (checkL L).2 ≠ 0) (w : World) (hv : EvsAt w v L) : Calls Tryd.prog 16 #[.slice va n vc, v] w fun ex w' => ex = .returned (.agg #[.int .i64 (checkL L).1, .int .i64 (checkL L).2]) ∧ Keeps (fun _ => False) w w' := by
  have k0 := (Keeps.refl (fun _ => False) w).alloc (.cells #[.int .i64 0, .int .i64 0] 28)
  have b0 : (w.alloc (.cells #[.int .i64 0, .int .i64 0] 28)).heap[w.heap.size]? = some (.cells #[.int .i64 0, .int .i64 0] 28 (0, 0)) := (MapKept.heap_alloc w _).1
  have RC := rcheck_any v L _ (hv.keeps k0)
  unfold odV at RC
  obtain ⟨a1, cap1, rfl, hcap⟩ := hv.els.shape
  generalize checkL L = cl at *
  obtain ⟨ca, ce⟩ := cl
  dsimp only at hz RC ⊢
  have hn1 : ¬ ((n : Int) < 1) := by omega
  have hn2 : ¬ ((n : Int) > 65536) := by omega
  have hzb : (ce == 0) = false := by rw [beq_eq_false_iff_ne]; exact hz
  have hzn : (ce != 0) = true := by rw [bne_iff_ne]; exact hz
  clear hv
  go_enter Tryd.func16, Tryd.ntmps16
  go_wp2_with fail
  refine RC.mono ?_
  rintro ex w1 ⟨rfl, k1⟩
  clear RC
  have b1 := (k1.block _ (lt_of_block b0) (fun f => f)).trans b0
  have BE0 := block_set (block_set b1 0 (.int .i64 ca)) 1 (.int .i64 ce)
  have kE := (Keeps.refl (fun _ => False) ((w1.setCell ⟨w.heap.size, 0, none⟩ (.int .i64 ca)).setCell ⟨w.heap.size, 1, none⟩ (.int .i64 ce))).alloc (.cells #[.int .i64 ca, .int .i64 ce] 28)
  have BE := (kE.block _ (lt_of_block BE0) (fun f => f)).trans BE0
  have KE := (((k0.trans k1).setCell (p := ⟨w.heap.size, 0, none⟩) (.inl (Nat.le_refl _)) (.int .i64 ca)).setCell (p := ⟨w.heap.size, 1, none⟩) (.inl (Nat.le_refl _)) (.int .i64 ce)).trans kE
  have c0 : w1.cell? ⟨w.heap.size, 0, none⟩ = some (.int .i64 0) := by rw [cell_of_block b1]; rfl
  have c1 : w1.cell? ⟨w.heap.size, 1, none⟩ = some (.int .i64 0) := by rw [cell_of_block b1]; rfl
  have f0 : w1.frozen? ⟨w.heap.size, 0, none⟩ = false := frozen_of_block b1 _
  have f1 : w1.frozen? ⟨w.heap.size, 1, none⟩ = false := frozen_of_block b1 _
  have hlt1 := lt_of_block b1
  have hne : ¬ w.heap.size = w1.heap.size := by omega
  have HE : Hid (_ = _) := BE
  clear BE BE0 b0 b1 kE k0 k1
  go_wp2_with fail
  refine bodyPost_ret (odd_ret1 rfl _ _ w.heap.size #[.int .i64 ca, .int .i64 ce] HE.out rfl rfl) rfl ?_
  exact ⟨rfl, KE⟩
end Go.Proofs.YtjmmjkoloioddaaDoor
