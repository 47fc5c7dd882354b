
/- Walks of Blocks, Ahead (package witness). No statement of the seat is proved here. -/
import Derived.Test.YtjkileijkgbndaaDoorWiL
namespace Go.Proofs.YtjkileijkgbndaaDoor
open Go.RowKit Go.Shelf

abbrev Bls (w : World) (base : Nat) (v : Value) (X : List Bx) : Prop := RwL Bx.cb 9 43 w base v X
theorem info_blk : (Tryd.prog.info? 43).map (fun i => (i.zero, i.size, i.bytes)) = some (some (.agg #[.int .i64 0, .int .i64 0, .int .i64 0, .int .i64 0, .int .u64 0, .bool false, .int .i64 0, .slice none 0 0, .slice none 0 0]), 9, 104) := by kernel_rfl
/-- What Blocks answers of a history that can be. -/
def BlPost (L : List Ev) (w : World) (ex : Ending) (w' : World) : Prop := ∃ (v : Value) (X : List Bx), ex = .returned (.tuple #[v, .int .i64 0]) ∧ Bls w' w.heap.size v X ∧ X.map (·.p) = partsL L ∧ Keeps (fun _ => False) w w'
set_option maxRecDepth 100000 in
set_option maxHeartbeats 8000000 in
theorem blocks_any (v : Value) (L : List Ev) (hL : L.length ≤ 60000) (hz : (checkL L).2 = 0) (w : World) (hv : EvsAt w v L) (hg : Gv w) (h8 : 2 ≤ w.heap.size) : Calls Tryd.prog 8 #[v] w (BlPost L w) := by
  have GA := gather_any v L hL hz w hv hg h8
  have hlen : (partsL L).length ≤ L.length := (pinv_parts L).len
  obtain ⟨a, cap, rfl, hcap⟩ := hv.els.shape
  clear hv hg hz
  go_enter Tryd.func8, Tryd.ntmps8
  go_wp2_with fail
  refine GA.mono ?_
  rintro ex w1 ⟨rb, mb, bs, pv, pl, X, rfl, hrw, hrb, bR, PR, hX, k1⟩
  clear GA
  have hXl : X.length ≤ 60000 := by rw [← List.length_map (f := (·.p)), hX]; omega
  obtain ⟨pa, pc, rfl⟩ := PR.own.form
  have cR : w1.cell? ⟨rb, 0, none⟩ = some (.slice pa X.length pc) := by rw [cell_of_block bR]; rfl
  have hs1 := k1.size
  have O0 := OwnR.nil Bx.cb 9 43 w1
  have HP : Hid (Prs w1 bs (.slice pa X.length pc) X ∧ X.map (·.p) = partsL L ∧ w.heap.size ≤ bs ∧ Keeps (fun _ => False) w w1) := ⟨PR, hX, by omega, k1⟩
  clear PR bR hX k1 hlen
  go_wp2_with fail
  go_loopw [6, 22] (fun u6 u wr => ∃ (k : Nat), u = .int .i64 k ∧ k ≤ X.length ∧ OwnR Bx.cb 9 43 wr w1.heap.size u6 (X.take k) ∧ Keeps (fun _ => False) w1 wr) (fun _ u _ => X.length - (intOf u).toNat)
  case atStart => exact ⟨0, rfl, Nat.zero_le _, O0, Keeps.refl _ _⟩
  case round =>
    clear O0
    obtain ⟨k, rfl, hk, hO, kr⟩ := hrel
    by_cases hlt : k < X.length
    · have hki : (k : Int) < X.length := by omega
      have hk0 : (0 : Int) ≤ k := by omega
      obtain ⟨g, off, rfl, hc⟩ := ((HP.out.1.own.els cp_len).keeps cp_ne kr).at k hlt
      have htk : X.take (k + 1) = X.take k ++ [X[k]] := List.take_succ_eq_append_getElem hlt
      have hub : (X.take k).length = k := by simp; omega
      obtain ⟨ub, uc, rfl⟩ := hO.form
      rw [hub] at hO ⊢
      generalize hx : X[k]'hlt = x at *
      clear hx
      obtain ⟨⟨pth, pkd, pfi, pla, pnu, pwr, per, prs, pws, psi, plk⟩, ⟨ra, rn, rc⟩, ⟨sa, sn, sc⟩⟩ := x
      have y0 := hc 0 _ rfl
      have y1 := hc 1 _ rfl
      have y2 := hc 2 _ rfl
      have y3 := hc 3 _ rfl
      have y4 := hc 4 _ rfl
      have y5 := hc 5 _ rfl
      have y6 := hc 6 _ rfl
      have y7 := hc 7 _ rfl
      have y8 := hc 8 _ rfl
      have y9 := hc 9 _ rfl
      have y10 := hc 10 _ rfl
      dsimp only at y0 y1 y2 y3 y4 y5 y6 y7 y8 y9 y10
      simp only [Nat.add_zero] at y0
      have kA := (Keeps.refl (fun _ => False) wr).alloc (.cells #[.int .i64 pth, .int .i64 pkd, .int .i64 pfi, .int .i64 pla, .int .u64 pnu, .bool pwr, .int .i64 per, .slice ra rn rc, .slice sa sn sc, .int .i64 psi, .bool plk] 62)
      obtain ⟨v', w3, r1, r2, r3⟩ := (hO.keeps kA (fun _ _ f => f)).push cb_len cb_one (by decide) Tryd.underlying27 info_blk rfl (by decide) (ty := 27) ⟨⟨pth, pkd, pfi, pla, pnu, pwr, per, prs, pws, psi, plk⟩, ⟨ra, rn, rc⟩, ⟨sa, sn, sc⟩⟩ (cs := #[.int .i64 pth, .int .i64 pkd, .int .i64 pfi, .int .i64 pla, .int .u64 pnu, .bool pwr, .int .i64 per, .slice ra rn rc, .slice sa sn sc]) rfl (by rw [hub]; omega)
      rw [← htk] at r2
      rw [show (wr.alloc (.cells #[.int .i64 pth, .int .i64 pkd, .int .i64 pfi, .int .i64 pla, .int .u64 pnu, .bool pwr, .int .i64 per, .slice ra rn rc, .slice sa sn sc, .int .i64 psi, .bool plk] 62)).heap.size = wr.heap.size + 1 by simp] at r1
      have K3 := OwnR.kept (Grew.ahead kA r3) kr (hO)
      obtain ⟨⟨ya, yn, yc⟩, rfl, -⟩ := sl_of r2
      have HA : Hid (_ = _) := r1
      have HF : Hid (OwnR Bx.cb 9 43 w3 w1.heap.size (.slice ya yn yc) (X.take (k + 1)) ∧ Keeps (fun _ => False) w1 w3) := ⟨r2, K3⟩
      clear hc r1 r2 r3 kA hO htk hub K3
      go_wp2_with (at_builtin; refine wpList_append_run rfl _ _ 27 rfl rfl rfl HA.out ?_)
      go_roundw
      · exact ⟨k + 1, by simp, by omega, HF.out⟩
      · simp [intOf]; omega
    · obtain rfl : k = X.length := by omega
      rw [List.take_length] at hO
      obtain ⟨ub, uc, rfl⟩ := hO.form
      have HF : Hid (BlPost L w (.returned (.tuple #[.slice ub X.length uc, .int .i64 0])) wr) := by
        obtain ⟨PR, hX, hb, k1⟩ := HP.out
        refine ⟨_, X, rfl, ⟨hO.low (by omega), (PR.rws.keeps kr (fun _ _ f => f)).low hb, fun g hg hq => ?_⟩, hX, k1.trans kr⟩
        have h1 := (own_block hO.own hg).2
        have h2 := (PR.rws.young hq).1
        omega
      clear hO
      go_wp2_with fail
      go_ret2
      exact HF.out
set_option maxRecDepth 100000 in
set_option maxHeartbeats 8000000 in
theorem blocks_no (v : Value) (L : List Ev) (hz : (checkL L).2 ≠ 0) (w : World) (hv : EvsAt w v L) (hg : Gv w) (h8 : 2 ≤ w.heap.size) : Calls Tryd.prog 8 #[v] w fun ex w' => ex = .returned (.tuple #[.slice none 0 0, .int .i64 (checkL L).2]) ∧ Keeps (fun _ => False) w w' := by
  have GA := gather_no v L hz w hv hg h8
  obtain ⟨a, cap, rfl, hcap⟩ := hv.els.shape
  clear hv hg
  generalize (checkL L).2 = c2 at *
  have hzb : (c2 == 0) = false := by rw [beq_eq_false_iff_ne]; exact hz
  have hzn : (c2 != 0) = true := by rw [bne_iff_ne]; exact hz
  go_enter Tryd.func8, Tryd.ntmps8
  go_wp2_with fail
  refine GA.mono ?_
  rintro ex w1 ⟨rfl, k1⟩
  clear GA
  go_wp2_with fail
  go_ret2
  exact ⟨rfl, k1⟩
set_option maxRecDepth 100000 in
set_option maxHeartbeats 8000000 in
theorem order_no (v : Value) (L : List Ev) (hz : (checkL L).2 ≠ 0) (w : World) (hv : EvsAt w v L) (hg : Gv w) (h8 : 2 ≤ w.heap.size) : Calls Tryd.prog 9 #[v] w fun ex w' => ex = .returned (.tuple #[.slice none 0 0, .int .i64 (checkL L).2]) ∧ Keeps (fun _ => False) w w' := by
  have GA := gather_no v L hz w hv hg h8
  obtain ⟨a, cap, rfl, hcap⟩ := hv.els.shape
  clear hv hg
  generalize (checkL L).2 = c2 at *
  have hzb : (c2 == 0) = false := by rw [beq_eq_false_iff_ne]; exact hz
  have hzn : (c2 != 0) = true := by rw [bne_iff_ne]; exact hz
  go_enter Tryd.func9, Tryd.ntmps9
  go_wp2_with fail
  refine GA.mono ?_
  rintro ex w1 ⟨rfl, k1⟩
  clear GA
  go_wp2_with fail
  go_ret2
  exact ⟨rfl, k1⟩
set_option maxRecDepth 100000 in
set_option maxHeartbeats 4000000 in
theorem has_any (rb N cap : Nat) (pa : Option Addr) (n : Int) (w : World) (c0 : w.cell? ⟨rb, 0, none⟩ = some (.slice pa N cap)) : Calls Tryd.prog 19 #[.pointer (some ⟨rb, 0, none⟩), .int .i64 n] w fun ex w' => ex = .returned (.bool (decide (0 ≤ n ∧ n < N))) ∧ w' = w := by
  by_cases h0 : 0 ≤ n
  · have h0' : n ≥ 0 := h0
    by_cases h1 : n < N
    · go_enter Tryd.func19, Tryd.ntmps19
      go_wp2
      go_ret
      exact ⟨by simp [h0, h1], rfl⟩
    · go_enter Tryd.func19, Tryd.ntmps19
      go_wp2
      go_ret
      exact ⟨by simp [h1], rfl⟩
  · have h0' : ¬ n ≥ 0 := h0
    go_enter Tryd.func19, Tryd.ntmps19
    go_wp2
    go_ret
    exact ⟨by simp; omega, rfl⟩
end Go.Proofs.YtjkileijkgbndaaDoor
