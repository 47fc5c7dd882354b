
/- A walk of the document's Check (package parleyref13). No statement of the seat is proved here. -/
import Derived.Test.YtjkileijkgbndaaDoorEvDe
import Derived.Test.YtjkileijkgbndaaDoorEvK
namespace Go.Proofs.YtjkileijkgbndaaDoor
open Go.RowKit Go.Shelf

def rw0 : Array Value := #[.int .i64 0, .int .u64 0, .slice none 0 0, .int .i64 0, .int .u64 0, .slice none 0 0, .int .i64 0, .int .u64 0, .slice none 0 0, .int .i64 0, .int .u64 0, .slice none 0 0, .int .i64 0, .int .u64 0, .slice none 0 0, .int .i64 0, .int .u64 0, .slice none 0 0, .int .i64 0, .int .u64 0, .slice none 0 0, .int .i64 0, .int .u64 0, .slice none 0 0, .int .u64 0]
theorem st0_sdd (i : Nat) : st0.sd i = sd0 := by
  simp only [St.sd, st0, List.getElem?_replicate]
  split <;> rfl
theorem rw_start {w : World} {B b : Nat} (hb : w.heap[b]? = some (.cells rw0 76 (0, 0))) (hB : B ≤ b) : RW w B b st0 (fun _ => .slice none 0 0) := by
  refine ⟨⟨rw0, hb, rfl, rfl, fun i hi => ?_⟩, fun i _ => ?_, fun i j g _ _ _ hg => ?_, fun i _ hg => ?_, hB, rfl⟩
  · rw [st0_sdd]
    match i, hi with
    | 0, _ => exact ⟨rfl, rfl, rfl⟩
    | 1, _ => exact ⟨rfl, rfl, rfl⟩
    | 2, _ => exact ⟨rfl, rfl, rfl⟩
    | 3, _ => exact ⟨rfl, rfl, rfl⟩
    | 4, _ => exact ⟨rfl, rfl, rfl⟩
    | 5, _ => exact ⟨rfl, rfl, rfl⟩
    | 6, _ => exact ⟨rfl, rfl, rfl⟩
    | 7, _ => exact ⟨rfl, rfl, rfl⟩
  · rw [st0_sdd]
    exact OwnR.nilB _ _ _ _ _ (by have := lt_of_block hb; omega)
  · cases hg
  · cases hg
set_option maxRecDepth 100000 in
set_option maxHeartbeats 8000000 in
theorem rcheck_any (v : Value) (L : List Ev) (w : World) (hv : EvsAt w v L) :
    Calls Tryd.prog 16 #[v] w fun ex w' => ex = .returned (.agg (odV (checkL L).1 (checkL L).2)) ∧ Keeps (fun _ => False) w w' := by
  have hbig := hv.big
  have hwf := hv.wf
  have HV : Hid (∀ X, Keeps (fun _ => False) w X → EvsAt X v L) := fun X k => hv.keeps k
  obtain ⟨a, cap, rfl, hcap⟩ := hv.els.shape
  clear hv
  have k0 := (Keeps.refl (fun _ => False) w).alloc (.cells (odV 0 0) 52)
  have b0 : (w.alloc (.cells (odV 0 0) 52)).heap[w.heap.size]? = some (.cells (odV 0 0) 52 (0, 0)) := (MapKept.heap_alloc w _).1
  have k1 := (Keeps.refl (fun _ => False) (w.alloc (.cells (odV 0 0) 52))).alloc (.cells rw0 76)
  have b1 := (MapKept.heap_alloc (w.alloc (.cells (odV 0 0) 52)) (.cells rw0 76)).1
  rw [show (w.alloc (.cells (odV 0 0) 52)).heap.size = w.heap.size + 1 by simp] at b1
  have R1 := rw_start (B := w.heap.size + 1) b1 (Nat.le_refl _)
  have K1 := k0.trans k1
  have B1 := (k1.block _ (lt_of_block b0) (fun f => f)).trans b0
  clear k0 b0 k1 b1
  unfold odV rw0 at R1 K1 B1
  go_enter Tryd.func16, Tryd.ntmps16
  go_wp2_with fail
  go_loopw [4] (fun u wr => ∃ (k : Nat), u = .int .i64 k ∧ k ≤ L.length ∧ Hid (∃ S m, RW wr (w.heap.size + 1) (w.heap.size + 1) S m ∧ SOk S k ∧ checkL L = chk S (L.drop k) k) ∧ Keeps (fun _ => False) w wr ∧ wr.heap[w.heap.size]? = some (.cells (odV 0 0) 52 (0, 0))) (fun u _ => L.length - (intOf u).toNat)
  case atStart => exact ⟨0, rfl, Nat.zero_le _, ⟨st0, _, R1, st0_ok, rfl⟩, K1, B1⟩
  case round =>
    clear R1 K1 B1
    obtain ⟨k, rfl, hk, hh, kr, br⟩ := hrel
    by_cases hlt : k < L.length
    · have hki : (k : Int) < L.length := by omega
      have hk0 : (0 : Int) ≤ k := by omega
      obtain ⟨S, m, R, hok, hc⟩ := hh.out
      obtain ⟨g, off, rfl, x0, x1, x2, x3, x4, x5⟩ := (HV.out wr kr).at k hlt
      have hew := hwf _ (List.getElem_mem hlt)
      have hdrop : L.drop k = L[k] :: L.drop (k + 1) := List.drop_eq_getElem_cons hlt
      rw [hdrop, chk] at hc
      have PU := rput_any (w.heap.size + 1) (w.heap.size + 1) S m k (by omega) hok (L[k]) hew wr R (by have := R.lt; omega)
      have HC : Hid (checkL L = _) := hc
      have HOK : Hid (errE S (L[k]) = 0 → SOk (nextS S (L[k])) (k + 1)) := fun h => next_ok hok R.t8 hew h
      clear hc R hok hh hdrop hew hwf
      generalize hev : L[k]'hlt = e at *
      obtain ⟨th, kd, ad, wd, own, er⟩ := e
      dsimp only at x0 x1 x2 x3 x4 x5
      clear hev
      generalize hz : errE S ⟨th, kd, ad, wd, own, er⟩ = z at *
      have PU2 : Calls Tryd.prog 25 #[.pointer (some ⟨w.heap.size + 1, 0, none⟩), .agg #[.int .i64 th, .int .i64 kd, .int .u64 ad, .int .u64 wd, .bool own, .int .i64 er]] wr _ := PU
      clear PU
      by_cases hz0 : z = 0
      · subst hz0
        go_wp2_with fail
        refine PU2.mono ?_
        rintro ex w3 ⟨rfl, hR, k3⟩
        have K3 := kr.young k3 (fun q hq => by omega)
        have B3 := (k3.block _ (lt_of_block br) (fun f => by omega)).trans br
        have FN : Hid (∃ S' m', RW w3 (w.heap.size + 1) (w.heap.size + 1) S' m' ∧ SOk S' (k + 1) ∧ checkL L = chk S' (L.drop (k + 1)) (k + 1)) := by
          obtain ⟨m', hm'⟩ := hR (by first | rfl | trivial)
          exact ⟨_, m', hm', HOK.out (by first | rfl | trivial), by simpa using HC.out⟩
        clear PU2 k3 hR x0 x1 x2 x3 x4 x5 kr br HC HOK
        go_wp2_with fail
        go_roundw
        · exact ⟨k + 1, by simp, by omega, FN, K3, B3⟩
        · simp [intOf]; omega
      · have hcz : checkL L = ((k : Int), z) := by have := HC.out; rw [if_neg hz0] at this; exact this
        have HZ : Hid (checkL L = ((k : Int), z)) := hcz
        have hzb : (z == 0) = false := by simpa using hz0
        clear hcz HC hz HOK
        go_wp2_with fail
        refine PU2.mono ?_
        rintro ex w3 ⟨rfl, hR, k3⟩
        have K3 := kr.young k3 (fun q hq => by omega)
        have B3 := (k3.block _ (lt_of_block br) (fun f => by omega)).trans br
        clear PU2 k3 hR x0 x1 x2 x3 x4 x5 kr br
        go_wp2_with (refine wpList_store_row rfl 52 _ _ rfl w.heap.size (odV k z) rfl rfl 52 _ B3 (od_size _ _) rfl (od_all _ _) ?_)
        refine bodyPost_ret (odd_ret1 rfl _ _ w.heap.size (odV k z) (setRow_heap _ _ _ _ _ _ B3) rfl rfl) rfl ?_
        exact ⟨by rw [HZ.out], K3.row (Nat.le_refl _) _⟩
    · obtain rfl : k = L.length := by omega
      have hcz : checkL L = (-1, 0) := by
        obtain ⟨S, m, R, hok, hc⟩ := hh.out
        rw [hc, List.drop_length]; rfl
      have HZ : Hid (checkL L = (-1, 0)) := hcz
      clear hcz hh
      go_wp2_with (refine wpList_store_row rfl 52 _ _ rfl w.heap.size (odV (-1) 0) rfl rfl 52 _ br (od_size _ _) rfl (od_all _ _) ?_)
      refine bodyPost_ret (odd_ret1 rfl _ _ w.heap.size (odV (-1) 0) (setRow_heap _ _ _ _ _ _ br) rfl rfl) rfl ?_
      exact ⟨by rw [HZ.out], kr.row (Nat.le_refl _) _⟩
end Go.Proofs.YtjkileijkgbndaaDoor
