/-
  No statement of the seat is proved here. (Several texts in one: WiL, WiM.)
-/
import Derived.Test.YthgkbmfnidehbaaDoorWiF
import Derived.Test.YthgkbmfnidehbaaDoorEvK

/- Walks of gather, Blocks, Ahead (package witness). No statement of the seat is proved here. -/
namespace Go.Proofs.YthgkbmfnidehbaaDoor
open Go.RowKit Go.Shelf

@[go_sem] theorem run_mkMapI (w : World) : (Instr.makeMap 81 none).run Tryd.prog w = .ok (.map (some w.heap.size)) (w.alloc (.map #[] 0)) := by
  simp [Instr.makeMap, Result.andThen]
/-- What gather answers of a history that can be. -/
def GaPost (L : List Ev) (w : World) (ex : Ending) (w' : World) : Prop :=
  ∃ (rb mb bs : Nat) (v : Value) (pl : Bool) (X : List Bx), ex = .returned (.tuple #[.pointer (some ⟨rb, 0, none⟩), .int .i64 0]) ∧ w.heap.size ≤ rb ∧ rb < bs ∧ w'.heap[rb]? = some (.cells #[v, .map (some mb), .bool pl] 83 (0, 0)) ∧ Prs w' bs v X ∧ X.map (·.p) = partsL L ∧ Keeps (fun _ => False) w w'
theorem take_push {L : List Ev} {k : Nat} (hk : k < L.length) : partsF wt0 (L.take (k + 1)) 0 = stepW (partsF wt0 (L.take k) 0) k (L[k]) := by
  rw [List.take_succ_eq_append_getElem hk, parts_push]
  simp [Nat.min_eq_left (Nat.le_of_lt hk)]
set_option maxRecDepth 100000 in
set_option maxHeartbeats 8000000 in
theorem gather_any (v : Value) (L : List Ev) (hL : L.length ≤ 1100000) (hz : (checkL L).2 = 0) (w : World) (hv : EvsAt w v L) (hg : Gv w) (h8 : 2 ≤ w.heap.size) : Calls Tryd.prog 26 #[v] w (GaPost L w) := by
  have CK := check_any v L w hv hg h8
  have hwf := hv.wf
  have HV : Hid (∀ X, Keeps (fun _ => False) w X → EvsAt X v L) := fun X k => hv.keeps k
  obtain ⟨a, cap, rfl, hcap⟩ := hv.els.shape
  clear hv hg
  rw [hz] at CK
  unfold odV at CK
  have HP : Hid (∀ k, k ≤ L.length → PInv (partsF wt0 (L.take k) 0) k) := fun k hk => by
    have := pinv_parts (L.take k)
    rwa [List.length_take, Nat.min_eq_left hk] at this
  clear hz
  go_enter Tryd.func26, Tryd.ntmps26
  go_wp2_with fail
  refine CK.mono ?_
  rintro ex w1 ⟨rfl, k1⟩
  clear CK
  have ka := (Keeps.refl (fun _ => False) w1).alloc (.cells #[.int .i64 (checkL L).1, .int .i64 0] 32)
  have hs1 := k1.size
  go_wp2_with fail
  generalize hW : w1.alloc (.cells #[.int .i64 (checkL L).1, .int .i64 0] 32) = W at *
  have hsW : w1.heap.size + 1 = W.heap.size := by rw [← hW]; simp
  have kM := (Keeps.refl (fun _ => False) W).alloc (.map #[] 0)
  have MI := MapI.new W
  have kR := (Keeps.refl (fun _ => False) (W.alloc (.map #[] 0))).alloc (.cells #[.slice none 0 0, .map (some W.heap.size), .bool false] 83)
  have bR := (MapKept.heap_alloc (W.alloc (.map #[] 0)) (.cells #[.slice none 0 0, .map (some W.heap.size), .bool false] 83)).1
  have hsM : (W.alloc (.map #[] 0)).heap.size = W.heap.size + 1 := by simp
  rw [hsM] at bR
  have hsR : W.heap.size + 2 ≤ ((W.alloc (.map #[] 0)).alloc (.cells #[.slice none 0 0, .map (some W.heap.size), .bool false] 83)).heap.size := by simp
  have R0 : Rec ((W.alloc (.map #[] 0)).alloc (.cells #[.slice none 0 0, .map (some W.heap.size), .bool false] 83)) (W.heap.size + 1) W.heap.size (W.heap.size + 2) (.slice none 0 0) false [] wt0 :=
    ⟨bR, (MI.keeps kR (fun f => f)).congr fun _ => rfl, ⟨OwnR.nilB _ _ _ _ _ hsR, Rws.nil _ _, fun g hg => by simp [Value.ownBlock] at hg⟩, rfl, by omega, by omega, by omega⟩
  have K0 := ((k1.trans ka).trans kM).trans kR
  have hwW : w.heap.size ≤ W.heap.size := by omega
  clear hsM hsR bR kR kM MI ka k1 hW hs1
  rw [← hsW] at R0 K0 hwW
  clear hsW
  generalize (W.alloc (.map #[] 0)).alloc (.cells #[.slice none 0 0, .map (some (w1.heap.size + 1)), .bool false] 83) = Z at *
  generalize w1.heap.size + 1 = mb at *
  go_loopw [20] (fun u wr => ∃ (k : Nat) (v : Value) (pl : Bool) (X : List Bx), u = .int .i64 k ∧ k ≤ L.length ∧ Hid (Rec wr (mb + 1) mb (mb + 2) v pl X (partsF wt0 (L.take k) 0)) ∧ Keeps (fun _ => False) w wr) (fun u _ => L.length - (intOf u).toNat)
  case atStart => exact ⟨0, _, _, [], rfl, Nat.zero_le _, R0, K0⟩
  case round =>
    clear R0 K0
    obtain ⟨k, v, pl, X, rfl, hk, hR, kr⟩ := hrel
    by_cases hlt : k < L.length
    · have hki : (k : Int) < L.length := by omega
      have hk0 : (0 : Int) ≤ k := by omega
      obtain ⟨g, off, rfl, x0, x1, x2, x3, x4, x5⟩ := (HV.out wr kr).at k hlt
      have hew := hwf _ (List.getElem_mem hlt)
      have hst := take_push hlt
      have kA := (Keeps.refl (fun _ => False) wr).alloc (.cells (L[k]).cells 29)
      have TK := wtake_any (mb + 1) mb (mb + 2) v pl X (partsF wt0 (L.take k) 0) k (L[k]) _ hew.2.2.2.1 (hR.out.keeps kA) (HP.out k hk) (by omega)
      rw [← hst] at TK
      clear hst hwf hew
      generalize hev : L[k]'hlt = e at *
      clear hev
      obtain ⟨th, kd, ad, wd, own, er⟩ := e
      dsimp only at x0 x1 x2 x3 x4 x5
      go_wp2_with fail
      refine TK.mono ?_
      rintro ex w2 ⟨rfl, v', pl', X', R2, k2⟩
      have HF : Hid (Rec w2 (mb + 1) mb (mb + 2) v' pl' X' (partsF wt0 (L.take (k + 1)) 0) ∧ Keeps (fun _ => False) w w2) := ⟨R2, (kr.trans kA).young k2 (fun q hq => by omega)⟩
      clear TK R2 k2 x0 x1 x2 x3 x4 x5 kA
      go_wp2_with fail
      go_roundw
      · exact ⟨k + 1, v', pl', X', by simp, by omega, HF.out.1, HF.out.2⟩
      · simp [intOf]; omega
    · obtain rfl : k = L.length := by omega
      have HF : Hid (GaPost L w (.returned (.tuple #[.pointer (some ⟨mb + 1, 0, none⟩), .int .i64 0])) wr) := by
        have R := hR.out
        rw [List.take_length] at R
        exact ⟨mb + 1, mb, mb + 2, v, pl, X, rfl, by omega, by omega, R.blk, R.row, R.eqs, kr⟩
      clear hR
      go_wp2_with fail
      go_ret2
      exact HF.out
set_option maxRecDepth 100000 in
set_option maxHeartbeats 8000000 in
theorem gather_no (v : Value) (L : List Ev) (hz : (checkL L).2 ≠ 0) (w : World) (hv : EvsAt w v L) (hg : Gv w) (h8 : 2 ≤ w.heap.size) : Calls Tryd.prog 26 #[v] w fun ex w' => ex = .returned (.tuple #[.pointer none, .int .i64 (checkL L).2]) ∧ Keeps (fun _ => False) w w' := by
  have CK := check_any v L w hv hg h8
  obtain ⟨a, cap, rfl, hcap⟩ := hv.els.shape
  clear hv hg
  generalize checkL L = c at *
  obtain ⟨c1, c2⟩ := c
  dsimp only at hz
  unfold odV at CK
  dsimp only at CK ⊢
  have hzb : (c2 == 0) = false := by rw [beq_eq_false_iff_ne]; exact hz
  have hzn : (c2 != 0) = true := by rw [bne_iff_ne]; exact hz
  go_enter Tryd.func26, Tryd.ntmps26
  go_wp2_with fail
  refine CK.mono ?_
  rintro ex w1 ⟨rfl, k1⟩
  have ka := (Keeps.refl (fun _ => False) w1).alloc (.cells #[.int .i64 c1, .int .i64 c2] 32)
  have ba := (MapKept.heap_alloc w1 (.cells #[.int .i64 c1, .int .i64 c2] 32)).1
  clear CK
  go_wp2_with fail
  generalize w1.alloc (.cells #[.int .i64 c1, .int .i64 c2] 32) = V at *
  have c1' : V.cell? ⟨w1.heap.size, 1, none⟩ = some (.int .i64 c2) := by rw [cell_of_block ba]; rfl
  go_region_held3 (fun W : World => W.cell? ⟨w1.heap.size, 1, none⟩ = some (.int .i64 c2)) (first | assumption | go_keep) (fail)
  go_wp2_with fail
  go_ret2
  exact ⟨rfl, (k1.trans ka).drew⟩
end Go.Proofs.YthgkbmfnidehbaaDoor


/- Walks of Blocks, Ahead (package witness). No statement of the seat is proved here. -/
namespace Go.Proofs.YthgkbmfnidehbaaDoor
open Go.RowKit Go.Shelf

abbrev Bls (w : World) (base : Nat) (v : Value) (X : List Bx) : Prop := RwL Bx.cb 9 58 w base v X
theorem info_blk : (Tryd.prog.info? 58).map (fun i => (i.zero, i.size, i.bytes)) = some (some (.agg #[.int .i64 0, .int .i64 0, .int .i64 0, .int .i64 0, .int .u64 0, .bool false, .int .i64 0, .slice none 0 0, .slice none 0 0]), 9, 104) := by kernel_rfl
/-- What Blocks answers of a history that can be. -/
def BlPost (L : List Ev) (w : World) (ex : Ending) (w' : World) : Prop := ∃ (v : Value) (X : List Bx), ex = .returned (.tuple #[v, .int .i64 0]) ∧ Bls w' w.heap.size v X ∧ X.map (·.p) = partsL L ∧ Keeps (fun _ => False) w w'
set_option maxRecDepth 100000 in
set_option maxHeartbeats 8000000 in
theorem blocks_any (v : Value) (L : List Ev) (hL : L.length ≤ 1100000) (hz : (checkL L).2 = 0) (w : World) (hv : EvsAt w v L) (hg : Gv w) (h8 : 2 ≤ w.heap.size) : Calls Tryd.prog 18 #[v] w (BlPost L w) := by
  have GA := gather_any v L hL hz w hv hg h8
  have hlen : (partsL L).length ≤ L.length := (pinv_parts L).len
  obtain ⟨a, cap, rfl, hcap⟩ := hv.els.shape
  clear hv hg hz
  go_enter Tryd.func18, Tryd.ntmps18
  go_wp2_with fail
  refine GA.mono ?_
  rintro ex w1 ⟨rb, mb, bs, pv, pl, X, rfl, hrw, hrb, bR, PR, hX, k1⟩
  clear GA
  have hXl : X.length ≤ 1100000 := by rw [← List.length_map (f := (·.p)), hX]; omega
  obtain ⟨pa, pc, rfl⟩ := PR.own.form
  have cR : w1.cell? ⟨rb, 0, none⟩ = some (.slice pa X.length pc) := by rw [cell_of_block bR]; rfl
  have hs1 := k1.size
  have O0 := OwnR.nil Bx.cb 9 58 w1
  have HP : Hid (Prs w1 bs (.slice pa X.length pc) X ∧ X.map (·.p) = partsL L ∧ w.heap.size ≤ bs ∧ Keeps (fun _ => False) w w1) := ⟨PR, hX, by omega, k1⟩
  clear PR bR hX k1 hlen
  go_wp2_with fail
  go_loopw [6, 22] (fun u6 u wr => ∃ (k : Nat), u = .int .i64 k ∧ k ≤ X.length ∧ OwnR Bx.cb 9 58 wr w1.heap.size u6 (X.take k) ∧ Keeps (fun _ => False) w1 wr) (fun _ u _ => X.length - (intOf u).toNat)
  case atStart => exact ⟨0, rfl, Nat.zero_le _, O0, Keeps.refl _ _⟩
  case round =>
    clear O0
    obtain ⟨k, rfl, hk, hO, kr⟩ := hrel
    by_cases hlt : k < X.length
    · have hki : (k : Int) < X.length := by omega
      have hk0 : (0 : Int) ≤ k := by omega
      obtain ⟨g, off, rfl, hc⟩ := ((HP.out.1.own.els cp_len).keeps cp_ne kr).at k hlt
      have htk : X.take (k + 1) = X.take k ++ [X[k]] := List.take_succ_eq_append_getElem hlt
      have hub : (X.take k).length = k := by simp; omega
      obtain ⟨ub, uc, rfl⟩ := hO.form
      rw [hub] at hO ⊢
      generalize hx : X[k]'hlt = x at *
      clear hx
      obtain ⟨⟨pth, pkd, pfi, pla, pnu, pwr, per, prs, pws, psi, plk⟩, ⟨ra, rn, rc⟩, ⟨sa, sn, sc⟩⟩ := x
      have y0 := hc 0 _ rfl
      have y1 := hc 1 _ rfl
      have y2 := hc 2 _ rfl
      have y3 := hc 3 _ rfl
      have y4 := hc 4 _ rfl
      have y5 := hc 5 _ rfl
      have y6 := hc 6 _ rfl
      have y7 := hc 7 _ rfl
      have y8 := hc 8 _ rfl
      have y9 := hc 9 _ rfl
      have y10 := hc 10 _ rfl
      dsimp only at y0 y1 y2 y3 y4 y5 y6 y7 y8 y9 y10
      simp only [Nat.add_zero] at y0
      have kA := (Keeps.refl (fun _ => False) wr).alloc (.cells #[.int .i64 pth, .int .i64 pkd, .int .i64 pfi, .int .i64 pla, .int .u64 pnu, .bool pwr, .int .i64 per, .slice ra rn rc, .slice sa sn sc, .int .i64 psi, .bool plk] 85)
      obtain ⟨v', w3, r1, r2, r3⟩ := (hO.keeps kA (fun _ _ f => f)).push cb_len cb_one (by decide) Tryd.underlying50 info_blk rfl (by decide) (ty := 50) ⟨⟨pth, pkd, pfi, pla, pnu, pwr, per, prs, pws, psi, plk⟩, ⟨ra, rn, rc⟩, ⟨sa, sn, sc⟩⟩ (cs := #[.int .i64 pth, .int .i64 pkd, .int .i64 pfi, .int .i64 pla, .int .u64 pnu, .bool pwr, .int .i64 per, .slice ra rn rc, .slice sa sn sc]) rfl (by rw [hub]; omega)
      rw [← htk] at r2
      rw [show (wr.alloc (.cells #[.int .i64 pth, .int .i64 pkd, .int .i64 pfi, .int .i64 pla, .int .u64 pnu, .bool pwr, .int .i64 per, .slice ra rn rc, .slice sa sn sc, .int .i64 psi, .bool plk] 85)).heap.size = wr.heap.size + 1 by simp] at r1
      have K3 := OwnR.kept (Grew.ahead kA r3) kr (hO)
      obtain ⟨⟨ya, yn, yc⟩, rfl, -⟩ := sl_of r2
      have HA : Hid (_ = _) := r1
      have HF : Hid (OwnR Bx.cb 9 58 w3 w1.heap.size (.slice ya yn yc) (X.take (k + 1)) ∧ Keeps (fun _ => False) w1 w3) := ⟨r2, K3⟩
      clear hc r1 r2 r3 kA hO htk hub K3
      go_wp2_with (at_builtin; refine wpList_append_run rfl _ _ 50 rfl rfl rfl HA.out ?_)
      go_roundw
      · exact ⟨k + 1, by simp, by omega, HF.out⟩
      · simp [intOf]; omega
    · obtain rfl : k = X.length := by omega
      rw [List.take_length] at hO
      obtain ⟨ub, uc, rfl⟩ := hO.form
      have HF : Hid (BlPost L w (.returned (.tuple #[.slice ub X.length uc, .int .i64 0])) wr) := by
        obtain ⟨PR, hX, hb, k1⟩ := HP.out
        refine ⟨_, X, rfl, ⟨hO.low (by omega), (PR.rws.keeps kr (fun _ _ f => f)).low hb, fun g hg hq => ?_⟩, hX, k1.trans kr⟩
        have h1 := (own_block hO.own hg).2
        have h2 := (PR.rws.young hq).1
        omega
      clear hO
      go_wp2_with fail
      go_ret2
      exact HF.out
set_option maxRecDepth 100000 in
set_option maxHeartbeats 8000000 in
theorem blocks_no (v : Value) (L : List Ev) (hz : (checkL L).2 ≠ 0) (w : World) (hv : EvsAt w v L) (hg : Gv w) (h8 : 2 ≤ w.heap.size) : Calls Tryd.prog 18 #[v] w fun ex w' => ex = .returned (.tuple #[.slice none 0 0, .int .i64 (checkL L).2]) ∧ Keeps (fun _ => False) w w' := by
  have GA := gather_no v L hz w hv hg h8
  obtain ⟨a, cap, rfl, hcap⟩ := hv.els.shape
  clear hv hg
  generalize (checkL L).2 = c2 at *
  have hzb : (c2 == 0) = false := by rw [beq_eq_false_iff_ne]; exact hz
  have hzn : (c2 != 0) = true := by rw [bne_iff_ne]; exact hz
  go_enter Tryd.func18, Tryd.ntmps18
  go_wp2_with fail
  refine GA.mono ?_
  rintro ex w1 ⟨rfl, k1⟩
  clear GA
  go_wp2_with fail
  go_ret2
  exact ⟨rfl, k1⟩
end Go.Proofs.YthgkbmfnidehbaaDoor
