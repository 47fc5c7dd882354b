
/- Walks of gather, Blocks, Ahead (package witness). No statement of the seat is proved here. -/
import Derived.Test.YtjkileijkgbndaaDoorWiF
import Derived.Test.YtjkileijkgbndaaDoorEvK
namespace Go.Proofs.YtjkileijkgbndaaDoor
open Go.RowKit Go.Shelf

@[go_sem] theorem run_mkMapI (w : World) : (Instr.makeMap 58 none).run Tryd.prog w = .ok (.map (some w.heap.size)) (w.alloc (.map #[] 0)) := by
  simp [Instr.makeMap, Result.andThen]
/-- What gather answers of a history that can be. -/
def GaPost (L : List Ev) (w : World) (ex : Ending) (w' : World) : Prop :=
  ∃ (rb mb bs : Nat) (v : Value) (pl : Bool) (X : List Bx), ex = .returned (.tuple #[.pointer (some ⟨rb, 0, none⟩), .int .i64 0]) ∧ w.heap.size ≤ rb ∧ rb < bs ∧ w'.heap[rb]? = some (.cells #[v, .map (some mb), .bool pl] 60 (0, 0)) ∧ Prs w' bs v X ∧ X.map (·.p) = partsL L ∧ Keeps (fun _ => False) w w'
theorem take_push {L : List Ev} {k : Nat} (hk : k < L.length) : partsF wt0 (L.take (k + 1)) 0 = stepW (partsF wt0 (L.take k) 0) k (L[k]) := by
  rw [List.take_succ_eq_append_getElem hk, parts_push]
  simp [Nat.min_eq_left (Nat.le_of_lt hk)]
set_option maxRecDepth 100000 in
set_option maxHeartbeats 8000000 in
theorem gather_any (v : Value) (L : List Ev) (hL : L.length ≤ 60000) (hz : (checkL L).2 = 0) (w : World) (hv : EvsAt w v L) (hg : Gv w) (h8 : 2 ≤ w.heap.size) : Calls Tryd.prog 17 #[v] w (GaPost L w) := by
  have CK := check_any v L w hv hg h8
  have hwf := hv.wf
  have HV : Hid (∀ X, Keeps (fun _ => False) w X → EvsAt X v L) := fun X k => hv.keeps k
  obtain ⟨a, cap, rfl, hcap⟩ := hv.els.shape
  clear hv hg
  rw [hz] at CK
  unfold odV at CK
  have HP : Hid (∀ k, k ≤ L.length → PInv (partsF wt0 (L.take k) 0) k) := fun k hk => by
    have := pinv_parts (L.take k)
    rwa [List.length_take, Nat.min_eq_left hk] at this
  clear hz
  go_enter Tryd.func17, Tryd.ntmps17
  go_wp2_with fail
  refine CK.mono ?_
  rintro ex w1 ⟨rfl, k1⟩
  clear CK
  have ka := (Keeps.refl (fun _ => False) w1).alloc (.cells #[.int .i64 (checkL L).1, .int .i64 0] 52)
  have hs1 := k1.size
  go_wp2_with fail
  generalize hW : w1.alloc (.cells #[.int .i64 (checkL L).1, .int .i64 0] 52) = W at *
  have hsW : w1.heap.size + 1 = W.heap.size := by rw [← hW]; simp
  have kM := (Keeps.refl (fun _ => False) W).alloc (.map #[] 0)
  have MI := MapI.new W
  have kR := (Keeps.refl (fun _ => False) (W.alloc (.map #[] 0))).alloc (.cells #[.slice none 0 0, .map (some W.heap.size), .bool false] 60)
  have bR := (MapKept.heap_alloc (W.alloc (.map #[] 0)) (.cells #[.slice none 0 0, .map (some W.heap.size), .bool false] 60)).1
  have hsM : (W.alloc (.map #[] 0)).heap.size = W.heap.size + 1 := by simp
  rw [hsM] at bR
  have hsR : W.heap.size + 2 ≤ ((W.alloc (.map #[] 0)).alloc (.cells #[.slice none 0 0, .map (some W.heap.size), .bool false] 60)).heap.size := by simp
  have R0 : Rec ((W.alloc (.map #[] 0)).alloc (.cells #[.slice none 0 0, .map (some W.heap.size), .bool false] 60)) (W.heap.size + 1) W.heap.size (W.heap.size + 2) (.slice none 0 0) false [] wt0 :=
    ⟨bR, (MI.keeps kR (fun f => f)).congr fun _ => rfl, ⟨OwnR.nilB _ _ _ _ _ hsR, Rws.nil _ _, fun g hg => by simp [Value.ownBlock] at hg⟩, rfl, by omega, by omega, by omega⟩
  have K0 := ((k1.trans ka).trans kM).trans kR
  have hwW : w.heap.size ≤ W.heap.size := by omega
  clear hsM hsR bR kR kM MI ka k1 hW hs1
  rw [← hsW] at R0 K0 hwW
  clear hsW
  generalize (W.alloc (.map #[] 0)).alloc (.cells #[.slice none 0 0, .map (some (w1.heap.size + 1)), .bool false] 60) = Z at *
  generalize w1.heap.size + 1 = mb at *
  go_loopw [20] (fun u wr => ∃ (k : Nat) (v : Value) (pl : Bool) (X : List Bx), u = .int .i64 k ∧ k ≤ L.length ∧ Hid (Rec wr (mb + 1) mb (mb + 2) v pl X (partsF wt0 (L.take k) 0)) ∧ Keeps (fun _ => False) w wr) (fun u _ => L.length - (intOf u).toNat)
  case atStart => exact ⟨0, _, _, [], rfl, Nat.zero_le _, R0, K0⟩
  case round =>
    clear R0 K0
    obtain ⟨k, v, pl, X, rfl, hk, hR, kr⟩ := hrel
    by_cases hlt : k < L.length
    · have hki : (k : Int) < L.length := by omega
      have hk0 : (0 : Int) ≤ k := by omega
      obtain ⟨g, off, rfl, x0, x1, x2, x3, x4, x5⟩ := (HV.out wr kr).at k hlt
      have hew := hwf _ (List.getElem_mem hlt)
      have hst := take_push hlt
      have kA := (Keeps.refl (fun _ => False) wr).alloc (.cells (L[k]).cells 50)
      have TK := wtake_any (mb + 1) mb (mb + 2) v pl X (partsF wt0 (L.take k) 0) k (L[k]) _ hew.2.2.2.1 (hR.out.keeps kA) (HP.out k hk) (by omega)
      rw [← hst] at TK
      clear hst hwf hew
      generalize hev : L[k]'hlt = e at *
      clear hev
      obtain ⟨th, kd, ad, wd, own, er⟩ := e
      dsimp only at x0 x1 x2 x3 x4 x5
      go_wp2_with fail
      refine TK.mono ?_
      rintro ex w2 ⟨rfl, v', pl', X', R2, k2⟩
      have HF : Hid (Rec w2 (mb + 1) mb (mb + 2) v' pl' X' (partsF wt0 (L.take (k + 1)) 0) ∧ Keeps (fun _ => False) w w2) := ⟨R2, (kr.trans kA).young k2 (fun q hq => by omega)⟩
      clear TK R2 k2 x0 x1 x2 x3 x4 x5 kA
      go_wp2_with fail
      go_roundw
      · exact ⟨k + 1, v', pl', X', by simp, by omega, HF.out.1, HF.out.2⟩
      · simp [intOf]; omega
    · obtain rfl : k = L.length := by omega
      have HF : Hid (GaPost L w (.returned (.tuple #[.pointer (some ⟨mb + 1, 0, none⟩), .int .i64 0])) wr) := by
        have R := hR.out
        rw [List.take_length] at R
        exact ⟨mb + 1, mb, mb + 2, v, pl, X, rfl, by omega, by omega, R.blk, R.row, R.eqs, kr⟩
      clear hR
      go_wp2_with fail
      go_ret2
      exact HF.out
set_option maxRecDepth 100000 in
set_option maxHeartbeats 8000000 in
theorem gather_no (v : Value) (L : List Ev) (hz : (checkL L).2 ≠ 0) (w : World) (hv : EvsAt w v L) (hg : Gv w) (h8 : 2 ≤ w.heap.size) : Calls Tryd.prog 17 #[v] w fun ex w' => ex = .returned (.tuple #[.pointer none, .int .i64 (checkL L).2]) ∧ Keeps (fun _ => False) w w' := by
  have CK := check_any v L w hv hg h8
  obtain ⟨a, cap, rfl, hcap⟩ := hv.els.shape
  clear hv hg
  generalize checkL L = c at *
  obtain ⟨c1, c2⟩ := c
  dsimp only at hz
  unfold odV at CK
  dsimp only at CK ⊢
  have hzb : (c2 == 0) = false := by rw [beq_eq_false_iff_ne]; exact hz
  have hzn : (c2 != 0) = true := by rw [bne_iff_ne]; exact hz
  go_enter Tryd.func17, Tryd.ntmps17
  go_wp2_with fail
  refine CK.mono ?_
  rintro ex w1 ⟨rfl, k1⟩
  have ka := (Keeps.refl (fun _ => False) w1).alloc (.cells #[.int .i64 c1, .int .i64 c2] 52)
  have ba := (MapKept.heap_alloc w1 (.cells #[.int .i64 c1, .int .i64 c2] 52)).1
  clear CK
  go_wp2_with fail
  generalize w1.alloc (.cells #[.int .i64 c1, .int .i64 c2] 52) = V at *
  have c1' : V.cell? ⟨w1.heap.size, 1, none⟩ = some (.int .i64 c2) := by rw [cell_of_block ba]; rfl
  go_region_held3 (fun W : World => W.cell? ⟨w1.heap.size, 1, none⟩ = some (.int .i64 c2)) (first | assumption | go_keep) (fail)
  go_wp2_with fail
  go_ret2
  exact ⟨rfl, (k1.trans ka).drew⟩
end Go.Proofs.YtjkileijkgbndaaDoor
