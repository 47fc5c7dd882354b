/-
  No statement of the seat is proved here. (Several texts in one: EvCb, OpV, OqH, OpY, OqI.)
-/
import Derived.Test.YtjmmjkoloioddaaDoorM00CMem
import Derived.Deep.QuietTactic
import Derived.BigQuiet
import Derived.Test.YtjmmjkoloioddaaDoorM19OpU
import Derived.Test.YtjmmjkoloioddaaDoorM30EvDf
import Derived.Test.YtjmmjkoloioddaaDoorM18OpR

/- Walks of Same of the document and of the program, of lists that are alike. No statement of the seat is proved here. -/
namespace Go.Proofs.YtjmmjkoloioddaaDoor
open Go.RowKit Go.Shelf

theorem eq_ev_self (a b c d : Int) (e : Bool) (f : Int) (w : World) : (Op.equalIn 10000 44 (.agg #[.int .i64 a, .int .i64 b, .int .u64 c, .int .u64 d, .bool e, .int .i64 f]) (.agg #[.int .i64 a, .int .i64 b, .int .u64 c, .int .u64 d, .bool e, .int .i64 f])).run Tryd.prog w = .ok true w := by
  have u3 := Tryd.underlying3
  have a3 := Tryd.isAgg3
  have z3 := Tryd.sizeOf3
  have u4 := Tryd.underlying36
  have a4 := Tryd.isAgg36
  have z4 := Tryd.sizeOf36
  have u5 := Tryd.underlying35
  have a5 := Tryd.isAgg35
  have z5 := Tryd.sizeOf35
  have u6 := Tryd.underlying4
  have a6 := Tryd.isAgg4
  have z6 := Tryd.sizeOf4
  have u7 := Tryd.underlying26
  have a7 := Tryd.isAgg26
  have z7 := Tryd.sizeOf26
  have hS : Tryd.prog.underlying 44 = some (.struct (Tryd.prog.fieldsOf 44)) := by kernel_rfl
  rw [show (10000 : Nat) = 9999 + 1 from rfl, run_equalIn_agg w 9999 44 _ _ hS (by kernel_rfl)]
  simp only [Program.fieldsOf, Tryd.underlying44]
  go_simp
set_option maxRecDepth 100000 in
set_option maxHeartbeats 4000000 in
theorem rsame_any (va vb : Value) (L : List Ev) (hL : L.length ≤ 4611686018427387) (w : World) (ha : ElsAt Ev.cl 6 w va L) (hb : ElsAt Ev.cl 6 w vb L) : Calls Tryd.prog 22 #[va, vb] w fun e w' => e = .returned (.bool true) ∧ Keeps (fun _ => False) w w' := by
  have HA : Hid (∀ X, Keeps (fun _ => False) w X → ElsAt Ev.cl 6 X va L) := fun X k => ha.keeps ev_ne k
  have HB : Hid (∀ X, Keeps (fun _ => False) w X → ElsAt Ev.cl 6 X vb L) := fun X k => hb.keeps ev_ne k
  have k0 := Keeps.refl (fun _ => False) w
  have Q := eq_ev_self
  obtain ⟨a0, c0, rfl, _⟩ := ha.shape
  obtain ⟨a1, c1, rfl, _⟩ := hb.shape
  clear ha hb
  go_enter Tryd.func22, Tryd.ntmps22
  go_wp2_with fail
  go_loopw [5] (fun u wr => ∃ (k : Nat), u = .int .i64 k ∧ k ≤ L.length ∧ Keeps (fun _ => False) w wr) (fun u _ => L.length - (intOf u).toNat)
  case atStart => exact ⟨0, rfl, Nat.zero_le _, k0⟩
  case round =>
    obtain ⟨k, rfl, hk, kr⟩ := hrel
    by_cases hlt : k < L.length
    · obtain ⟨ga, off, rfl, x⟩ := (HA.out wr kr).at k hlt
      obtain ⟨gb, offb, rfl, y⟩ := (HB.out wr kr).at k hlt
      have hki : (k : Int) < L.length := by omega
      have hk0 : (0 : Int) ≤ k := by omega
      generalize L[k]'hlt = i at *
      obtain ⟨th, kd, ad, wd, own, er⟩ := i
      have x0 := x 0 _ rfl
      have x1 := x 1 _ rfl
      have x2 := x 2 _ rfl
      have x3 := x 3 _ rfl
      have x4 := x 4 _ rfl
      have x5 := x 5 _ rfl
      have y0 := y 0 _ rfl
      have y1 := y 1 _ rfl
      have y2 := y 2 _ rfl
      have y3 := y 3 _ rfl
      have y4 := y 4 _ rfl
      have y5 := y 5 _ rfl
      simp only [Nat.add_zero] at x0 y0
      dsimp only at x0 x1 x2 x3 x4 x5 y0 y1 y2 y3 y4 y5
      have Q1 := Q th kd ad wd own er
      clear x y Q
      go_wp2_with fail
      go_quiet (fail)
      go_wp2_with fail
      go_roundw
      · exact ⟨k + 1, by simp, by omega, kr.drewN _⟩
      · simp [intOf]; omega
    · obtain rfl : k = L.length := by omega
      go_wp2_with fail
      go_ret
      exact ⟨rfl, kr⟩
end Go.Proofs.YtjmmjkoloioddaaDoor


/- The document's own example (pure): its attempts, its commits; wrote, SameWords. No statement of the seat is proved here. -/
namespace Go.Proofs.YtjmmjkoloioddaaDoor
open Go.RowKit Go.Shelf

def hW : List Ev := [⟨0, 1, 0, 0, false, 0⟩, ⟨0, 3, 0, 7, false, 0⟩, ⟨0, 3, 1, 8, false, 0⟩, ⟨0, 5, 0, 0, false, 0⟩, ⟨0, 6, 0, 1, false, 0⟩]
def hE : List Ev := [⟨1, 1, 0, 0, false, 0⟩] ++ hW ++ [⟨1, 2, 0, 7, false, 0⟩, ⟨1, 2, 1, 6, false, 0⟩]
def pW : Pt := ⟨0, 1, 0, 4, 1, true, 0, [], [(0, 7), (1, 8)], 0, true⟩
def pE : Pt := ⟨0, 1, 1, 5, 1, true, 0, [], [(0, 7), (1, 8)], 1, true⟩
theorem hW_ck : (checkL hW).2 = 0 := by kernel_rfl
theorem hE_ck : (checkL hE).2 = 0 := by kernel_rfl
theorem hW_pl : idxF plainE hW 0 = -1 := by kernel_rfl
theorem hE_pl : idxF plainE hE 0 = -1 := by kernel_rfl
theorem hW_ms : idxF (missE 2) hW 0 = -1 := by kernel_rfl
theorem hE_ms : idxF (missE 2) hE 0 = -1 := by kernel_rfl
theorem hW_fl : (partsL hW).filter (fun p => p.wr) = [pW] := by kernel_rfl
theorem hE_fl : (partsL hE).filter (fun p => p.wr) = [pE] := by kernel_rfl
theorem hW_wr : WrOf (partsL hW) [pW] := ⟨by rw [hW_fl], by simp⟩
theorem hE_wr : WrOf (partsL hE) [pE] := ⟨by rw [hE_fl], by simp⟩
theorem hW_at : idxF atN (sgK [5, 6] [pW] (triesL hW) (partsL hW) (triesL hW).length) 0 = -1 := by kernel_rfl
theorem hE_at : idxF atN (sgK [5, 6] [pE] (triesL hE) (partsL hE) (triesL hE).length) 0 = 0 := by kernel_rfl
theorem hW_st : stN [5, 6] [pW] 1 = [7, 8] := by kernel_rfl
theorem hW_wf : ∀ e ∈ hW, e.wf := by
  intro e he
  simp [hW] at he
  rcases he with rfl | rfl | rfl | rfl | rfl <;> (unfold Ev.wf; simp)
theorem hE_wf : ∀ e ∈ hE, e.wf := by
  intro e he
  simp [hE, hW] at he
  rcases he with rfl | rfl | rfl | rfl | rfl | rfl | rfl | rfl <;> (unfold Ev.wf; simp)
def cellsW : Array Value := (flatV Ev.cl hW).toArray
set_option maxRecDepth 100000 in
set_option maxHeartbeats 4000000 in
theorem wrote_any (w : World) : Calls Tryd.prog 24 #[] w fun ex w' => ex = .returned (.slice (some ⟨w.heap.size, 0, none⟩) 5 5) ∧ w' = w.alloc (.cells cellsW 44) := by
  go_enter Tryd.func24, Tryd.ntmps24
  go_wp2
  go_ret
  exact ⟨rfl, rfl⟩
set_option maxRecDepth 100000 in
set_option maxHeartbeats 8000000 in
theorem rsamew_any (va vb : Value) (F : List Int) (hl : F.length ≤ 1100000) (w : World) (ha : WsAt w va F) (hb : WsAt w vb F) : Calls Tryd.prog 23 #[va, vb] w fun e w' => e = .returned (.bool true) ∧ Keeps (fun _ => False) w w' := by
  have HV : Hid (∀ X, Keeps (fun _ => False) w X → WsAt X va F ∧ WsAt X vb F) := fun X k => ⟨ha.keeps wC_ne k, hb.keeps wC_ne k⟩
  obtain ⟨aa, ac, rfl, hac⟩ := ha.shape
  obtain ⟨ba, bc, rfl, hbc⟩ := hb.shape
  clear ha hb
  go_enter Tryd.func23, Tryd.ntmps23
  go_wp2_with fail
  go_loopw [5] (fun u wr => ∃ k : Nat, u = .int .i64 k ∧ k ≤ F.length ∧ Keeps (fun _ => False) w wr) (fun u _ => F.length - (intOf u).toNat)
  case atStart => exact ⟨0, rfl, Nat.zero_le _, Keeps.refl _ _⟩
  case round =>
    obtain ⟨k, rfl, hk, kr⟩ := hrel
    by_cases hlt : k < F.length
    · have hki : (k : Int) < F.length := by omega
      have hk0 : (0 : Int) ≤ k := by omega
      obtain ⟨h1, h2⟩ := HV.out wr kr
      obtain ⟨ga, oa, rfl, ca⟩ := h1.at k hlt
      obtain ⟨gb, ob, rfl, cb⟩ := h2.at k hlt
      have y0 := ca 0 _ rfl
      have y1 := cb 0 _ rfl
      simp only [Nat.mul_one, Nat.add_zero] at y0 y1
      generalize F[k]'hlt = x at *
      have hS0 : wr.cell? ⟨ga, oa + k, none⟩ = some (.int .u64 x) ∧ wr.cell? ⟨gb, ob + k, none⟩ = some (.int .u64 x) := ⟨y0, y1⟩
      have hkw : IntKind.i64.wrap ((k : Int) + 1) = (k : Int) + 1 := by rw [IntKind.wrap_i64]; omega
      have kd := (kr.drew)
      clear h1 h2 ca cb
      go_wp2_with fail
      go_region_held3 (fun W : World => W.cell? ⟨ga, oa + k, none⟩ = some (.int .u64 x) ∧ W.cell? ⟨gb, ob + k, none⟩ = some (.int .u64 x)) (first | assumption | (exact hS0) | go_keep) (fail)
      go_wp2_with fail
      go_roundw
      · exact ⟨k + 1, by simp, by omega, kd⟩
      · simp [intOf]; omega
    · obtain rfl : k = F.length := by omega
      go_wp2_with fail
      go_ret
      exact ⟨rfl, kr⟩
end Go.Proofs.YtjmmjkoloioddaaDoor


/- Walks of lent and left (layer 16). No statement of the seat is proved here. -/
namespace Go.Proofs.YtjmmjkoloioddaaDoor
open Go.RowKit Go.Shelf

/-- The mark behind what is lent. -/
def mrkO : Ev := ⟨-7, 0, 0, 0, false, 0⟩
set_option maxRecDepth 100000 in
set_option maxHeartbeats 4000000 in
theorem lentO_any (v : Value) (L : List Ev) (w : World) (hv : EvsAt w v L) :
    Calls Tryd.prog 4 #[v] w fun ex w' => ∃ b cap, ex = .returned (.slice b L.length cap) ∧ L.length + 1 ≤ cap ∧ OwnR Ev.cl 6 44 w' w.heap.size (.slice b (L.length + 1) cap) (L ++ [mrkO]) ∧ Keeps (fun _ => False) w w' := by
  have hbig := hv.big
  obtain ⟨v1, X1, r1, o1, gr1⟩ := (OwnR.nil Ev.cl 6 44 w).app ev_len ev_one (by decide) Tryd.underlying23 info_ev rfl (by decide) (ty := 23) _ L hv.els (by simp; omega)
  have k1 := OwnR.kept gr1 (Keeps.refl _ w) (OwnR.nil Ev.cl 6 44 w)
  simp only [List.nil_append] at o1
  have ka := (Keeps.refl (fun _ => False) X1).alloc (.cells mrkO.cells 44)
  have ba := (MapKept.heap_alloc X1 (.cells mrkO.cells 44)).1
  have o1' := o1.keeps ka (fun _ _ f => f)
  have hM : ElsAt Ev.cl 6 (X1.alloc (.cells mrkO.cells 44)) (.slice (some ⟨X1.heap.size, 0, none⟩) 1 1) [mrkO] := ⟨some ⟨X1.heap.size, 0, none⟩, 1, rfl, by simp, fun k hk => ⟨X1.heap.size, 0, rfl, fun f x hx => by
    obtain rfl : k = 0 := by simpa using hk
    rw [show 0 + 0 * 6 + f = f by omega, cell_of_block ba]
    have : mrkO.cells[f]? = (Ev.cl mrkO)[f]? := by simp [Ev.cl]
    rw [this]; exact hx⟩⟩
  obtain ⟨v2, X2, r2, o2, gr2⟩ := o1'.app ev_len ev_one (by decide) Tryd.underlying23 info_ev rfl (by decide) (ty := 23) _ [mrkO] hM (by simp; omega)
  have k2 := OwnR.kept gr2 (k1.trans ka) o1'
  obtain ⟨g2, cap2, cur, rfl, hg2, hb2, hcur⟩ := o2.at (by simp)
  have hlc : L.length + 1 ≤ cap2 := by
    obtain ⟨a', c', hv', hl', _⟩ := (o2.els ev_len).form
    simp only [Value.slice.injEq] at hv'
    obtain ⟨-, -, rfl⟩ := hv'
    simpa using hl'
  simp only [List.length_append, List.length_cons, List.length_nil] at r2 o2
  have HR1 : Hid _ := r1
  have HR2 : Hid _ := r2
  have HO : Hid (OwnR Ev.cl 6 44 X2 w.heap.size _ _) := o2
  obtain ⟨a, cap, rfl, hcap⟩ := hv.els.shape
  have hl1 : (L.length : Int) ≤ (cap2 : Int) := by omega
  have hl2 : L.length ≤ cap2 := by omega
  clear o1 o2 o1' gr1 gr2 r1 r2 hM ka ba hv hb2 hcur hg2
  unfold mrkO at HR2
  dsimp only [Ev.cells] at HR2
  go_enter Tryd.func4, Tryd.ntmps4
  go_wp2_with (first | (at_builtin; refine wpList_append_run rfl _ _ 23 rfl rfl rfl HR1.out ?_; clear HR1) | (at_builtin; refine wpList_append_run rfl _ _ 23 rfl rfl rfl HR2.out ?_; clear HR2))
  go_ret
  exact ⟨_, _, rfl, hlc, HO.out, k2⟩
set_option maxRecDepth 100000 in
set_option maxHeartbeats 4000000 in
theorem leftO_any (v : Value) (L : List Ev) (b : Option Addr) (cap : Nat) (hc : L.length + 1 ≤ cap) (w : World) (hm : ElsAt Ev.cl 6 w (.slice b (L.length + 1) cap) (L ++ [mrkO])) (hv : ElsAt Ev.cl 6 w v L) (hL : L.length ≤ 4611686018427) (va vb : Value) (F : List Int) (hF : F.length ≤ 1100000) (hfa : WsAt w va F) (hfb : WsAt w vb F) :
    Calls Tryd.prog 10 #[.slice b L.length cap, v, va, vb] w fun ex w' => ex = .returned (.bool true) ∧ Keeps (fun _ => False) w w' := by
  have h5 := hm.take L.length (by simp)
  rw [List.take_left' rfl] at h5
  have SM := rsame_any (.slice b L.length cap) v L (by omega) w h5 hv
  have HC : Hid (∀ X, Keeps (fun _ => False) w X → ∃ g off, b = some ⟨g, off, none⟩ ∧ X.cell? ⟨g, off + L.length * 6, none⟩ = some (.int .i64 (-7))) := fun X k => by
    obtain ⟨g, off, hb, q⟩ := (hm.keeps ev_ne k).at L.length (by simp)
    refine ⟨g, off, hb, ?_⟩
    have := q 0 (.int .i64 (-7)) (by rw [List.getElem_append_right (Nat.le_refl _)]; simp [mrkO])
    simpa using this
  have HW : Hid (∀ X, Keeps (fun _ => False) w X → WsAt X va F ∧ WsAt X vb F) := fun X k => ⟨hfa.keeps wC_ne k, hfb.keeps wC_ne k⟩
  obtain ⟨a, cp, rfl, _⟩ := hv.shape
  obtain ⟨fa, fc, rfl, _⟩ := hfa.shape
  obtain ⟨ga, gc, rfl, _⟩ := hfb.shape
  have hw1 : IntKind.i64.wrap ((L.length : Int) + 1) = (L.length : Int) + 1 := by rw [IntKind.wrap_i64]; omega
  have l1 : (0 : Int) ≤ (L.length : Int) + 1 := by omega
  have l2 : (L.length : Int) + 1 ≤ (cap : Int) := by omega
  have l3 : ((L.length : Int) + 1).toNat = L.length + 1 := by omega
  have l4 : (L.length : Int) < ((L.length + 1 : Nat) : Int) := by omega
  have l5 : (L.length : Int) < (L.length : Int) + 1 := by omega
  clear hm hv h5 hfa hfb
  go_enter Tryd.func10, Tryd.ntmps10
  go_wp2_with fail
  refine SM.mono ?_
  rintro ex w1 ⟨rfl, k1⟩
  obtain ⟨g, off, rfl, c⟩ := HC.out w1 k1
  have SW := rsamew_any (.slice fa F.length fc) (.slice ga F.length gc) F hF w1 (HW.out w1 k1).1 (HW.out w1 k1).2
  go_wp2_with fail
  refine SW.mono ?_
  rintro ex w2 ⟨rfl, k2⟩
  go_wp2_with fail
  go_ret
  exact ⟨rfl, k1.trans k2⟩
end Go.Proofs.YtjmmjkoloioddaaDoor


/- Walks of Sights (layer 16). No statement of the seat is proved here. -/
namespace Go.Proofs.YtjmmjkoloioddaaDoor
open Go.RowKit Go.Shelf

set_option maxRecDepth 100000 in
set_option maxHeartbeats 8000000 in
theorem sights_ok (va : Option Addr) (vc : Nat) (F : List Int) (v : Value) (L : List Ev) (hl : L.length ≤ 1050000) (w : World) (hv : EvsAt w v L) (hF : WsAt w (.slice va F.length vc) F) (hg : Gv w) (h8 : 2 ≤ w.heap.size) (hF0 : 0 < F.length) (hF1 : F.length ≤ 65536) (hz : (checkL L).2 = 0) (hp : idxF plainE L 0 = -1) (hm : idxF (missE F.length) L 0 = -1) (W : List Pt) (hW : WrOf (partsL L) W) :
    Calls Tryd.prog 5 #[.slice va F.length vc, v] w fun ex w' => ∃ sv, ex = .returned (.tuple #[sv, .agg (odV (-1) 0)]) ∧ SR w' w.heap.size sv (sgK F W (triesL L) (partsL L) (triesL L).length) ∧ Keeps (fun _ => False) w w' := by
  have k0 := (Keeps.refl (fun _ => False) w).alloc (.cells (odV 0 0) 28)
  have b0 : (w.alloc (.cells (odV 0 0) 28)).heap[w.heap.size]? = some (.cells (odV 0 0) 28 (0, 0)) := (MapKept.heap_alloc w _).1
  have LK := look_ok va vc F v L hl (w.alloc (.cells (odV 0 0) 28)) (hv.keeps k0) (hF.keeps wC_ne k0) (hg.keeps k0) (by simp; omega) hF0 hF1 hz hp hm
  obtain ⟨a1, cap1, rfl, hcap⟩ := hv.els.shape
  unfold odV at k0 b0 LK
  clear hv hF hg
  go_enter Tryd.func5, Tryd.ntmps5
  go_wp2_with fail
  refine LK.mono ?_
  rintro ex w1 ⟨pb, mb, b2, vT, vB, vW, X, Y, f, rfl, hPa, hX, hu, k1⟩
  clear LK
  have hYW := pua_wr hu hX hW
  have kA := (Keeps.refl (fun _ => False) w1).alloc (.cells #[.int .i64 (-1), .int .i64 0] 28)
  have bA := (MapKept.heap_alloc w1 (.cells #[.int .i64 (-1), .int .i64 0] 28)).1
  have bO := ((k1.trans kA).block _ (lt_of_block b0) (fun f => f)).trans b0
  have K1 := (k0.trans k1).trans kA
  have hPA := hPa.keeps kA
  have hlt := lt_of_block ((k1.block _ (lt_of_block b0) (fun f => f)).trans b0)
  unfold odV
  go_wp2_with fail
  obtain ⟨ob7, hob⟩ : ∃ b, b = w1.heap.size := ⟨_, rfl⟩
  rw [← hob] at bA ⊢
  rw [← hob] at hlt
  generalize w1.alloc (.cells #[.int .i64 (-1), .int .i64 0] 28) = A at *
  clear hob kA k0 k1 b0 hPa
  have SG := sights_any pb mb b2 (.slice va F.length vc) vT vB vW F (triesL L) X Y f A.drew (hPA.keeps (Keeps.refl _ A).drew) hu
  have S0 : Keeps (fun q => q = w.heap.size) A (A.drew) ∧ (A.drew).cell? ⟨ob7, 0, none⟩ = some (.int .i64 (-1)) ∧ (A.drew).cell? ⟨ob7, 1, none⟩ = some (.int .i64 0) := ⟨(Keeps.refl _ A).drew, by rw [cell_of_block (w := A.drew) bA]; rfl, by rw [cell_of_block (w := A.drew) bA]; rfl⟩
  refine wp_held_end (S := fun W => Keeps (fun q => q = w.heap.size) A W ∧ W.cell? ⟨ob7, 0, none⟩ = some (.int .i64 (-1)) ∧ W.cell? ⟨ob7, 1, none⟩ = some (.int .i64 0)) 5 rfl hmxp ?_
  simp only [Array.replicate_succ, Array.replicate_zero, List.push_toArray, List.nil_append, List.cons_append]
  refine held_take (i := 0) (v := (.pointer (some ⟨pb, 0, none⟩))) 18 rfl rfl (by kernel_rfl) (by kernel_rfl) (by kernel_rfl) rfl (fun w' hw' => by obtain ⟨q0, q1, q2⟩ := hw'; go_simp) S0 ?_
  simp only [Act.put, List.setIfInBounds_toArray, List.set_cons_zero, List.set_cons_succ]
  refine held_take (i := 2) (v := (.agg #[.int .i64 (-1), .int .i64 0])) 20 rfl rfl (by kernel_rfl) (by kernel_rfl) (by kernel_rfl) rfl (fun w' hw' => by obtain ⟨q0, q1, q2⟩ := hw'; go_simp) S0 ?_
  simp only [Act.put, List.setIfInBounds_toArray, List.set_cons_zero, List.set_cons_succ]
  refine held_call (i := 1) (f := 13) (args := #[.pointer (some ⟨pb, 0, none⟩)]) 19 (by kernel_rfl) rfl rfl rfl (by go_simp) (SG.mono ?_)
  rintro ex w2 ⟨sv, rfl, hsv, k2⟩
  rw [hYW, hX] at hsv
  have S1 : Keeps (fun q => q = w.heap.size) A (w2) ∧ (w2).cell? ⟨ob7, 0, none⟩ = some (.int .i64 (-1)) ∧ (w2).cell? ⟨ob7, 1, none⟩ = some (.int .i64 0) := ⟨S0.1.trans (k2.mono fun _ _ f => f.elim), k2.cellB (fun f => f) S0.2.1, k2.cellB (fun f => f) S0.2.2⟩
  refine ⟨_, rfl, S1, ?_⟩
  simp only [Act.put, List.setIfInBounds_toArray, List.set_cons_zero, List.set_cons_succ]
  refine held_take (i := 3) (v := sv) 4 rfl rfl (by kernel_rfl) (by kernel_rfl) (by kernel_rfl) rfl (fun w' hw' => by obtain ⟨q0, q1, q2⟩ := hw'; go_simp) S1 ?_
  simp only [Act.put, List.setIfInBounds_toArray, List.set_cons_zero, List.set_cons_succ]
  have hlA : w.heap.size < A.drew.heap.size := lt_of_block bO
  have S3 : Keeps (fun _ => False) A w2 := (Keeps.refl (fun _ => False) A).drew.trans k2
  have bO3 := (S3.block _ (lt_of_block bO) (fun f => f)).trans bO
  have c0 : w2.cell? ⟨w.heap.size, 0, none⟩ = some (.int .i64 0) := by rw [cell_of_block bO3]; rfl
  have c1 : w2.cell? ⟨w.heap.size, 1, none⟩ = some (.int .i64 0) := by rw [cell_of_block bO3]; rfl
  have f0 : w2.frozen? ⟨w.heap.size, 0, none⟩ = false := frozen_of_block bO3 _
  have f1 : w2.frozen? ⟨w.heap.size, 1, none⟩ = false := frozen_of_block bO3 _
  have BE := block_set (block_set bO3 0 (.int .i64 (-1))) 1 (.int .i64 0)
  have hne : ¬ w.heap.size = ob7 := by omega
  have kE := ((Keeps.refl (fun q => q = w.heap.size) w2).setCell (p := ⟨w.heap.size, 0, none⟩) (.inr rfl) (.int .i64 (-1))).setCell (p := ⟨w.heap.size, 1, none⟩) (.inr rfl) (.int .i64 0)
  have hob7 : ob7 ≠ w.heap.size := by omega
  have KF : Keeps (fun _ => False) w ((w2.setCell ⟨w.heap.size, 0, none⟩ (.int .i64 (-1))).setCell ⟨w.heap.size, 1, none⟩ (.int .i64 0)) := (K1.trans S3).young kE (fun q e => by omega)
  have S4 : Keeps (fun q => q = w.heap.size) A ((w2.setCell ⟨w.heap.size, 0, none⟩ (.int .i64 (-1))).setCell ⟨w.heap.size, 1, none⟩ (.int .i64 0)) ∧ ((w2.setCell ⟨w.heap.size, 0, none⟩ (.int .i64 (-1))).setCell ⟨w.heap.size, 1, none⟩ (.int .i64 0)).cell? ⟨ob7, 0, none⟩ = some (.int .i64 (-1)) ∧ ((w2.setCell ⟨w.heap.size, 0, none⟩ (.int .i64 (-1))).setCell ⟨w.heap.size, 1, none⟩ (.int .i64 0)).cell? ⟨ob7, 1, none⟩ = some (.int .i64 0) := ⟨S1.1.trans kE, cell_keep kE S1.2.1 hob7, cell_keep kE S1.2.2 hob7⟩
  refine held_none (i := 4) (w' := (w2.setCell ⟨w.heap.size, 0, none⟩ (.int .i64 (-1))).setCell ⟨w.heap.size, 1, none⟩ (.int .i64 0)) (by kernel_rfl) rfl rfl rfl (by go_simp) S4 ?_
  refine held_end (by kernel_rfl) ?_ _
  clear S0 S1 S3 S4 c0 c1 f0 f1 k2
  go_wp2_with fail
  refine bodyPost_ret (odd_ret2 rfl _ _ w.heap.size #[.int .i64 (-1), .int .i64 0] BE rfl rfl) rfl ?_
  exact ⟨sv, rfl, (hsv.lowE (Nat.le_of_lt hlA)).keeps kE (fun g hg e => absurd hlA (Nat.not_lt.mpr (e ▸ (own_block hsv.own hg).2))), KF⟩
set_option maxRecDepth 100000 in
set_option maxHeartbeats 8000000 in
theorem sights_no (va : Option Addr) (vc n : Nat) (v : Value) (hv : ∃ a m c, v = .slice a m c) (a e : Int) (he : e ≠ 0) (w : World)
    (LK : Calls Tryd.prog 12 #[.slice va n vc, v] (w.alloc (.cells (odV 0 0) 28)) fun ex w' => ex = .returned (.tuple #[.pointer none, .agg (odV a e)]) ∧ Keeps (fun _ => False) (w.alloc (.cells (odV 0 0) 28)) w') :
    Calls Tryd.prog 5 #[.slice va n vc, v] w fun ex w' => ex = .returned (.tuple #[.slice none 0 0, .agg (odV a e)]) ∧ Keeps (fun _ => False) w w' := by
  have k0 := (Keeps.refl (fun _ => False) w).alloc (.cells (odV 0 0) 28)
  have b0 : (w.alloc (.cells (odV 0 0) 28)).heap[w.heap.size]? = some (.cells (odV 0 0) 28 (0, 0)) := (MapKept.heap_alloc w _).1
  obtain ⟨a1, m1, cap1, rfl⟩ := hv
  unfold odV at LK k0 b0 ⊢
  have hzb : (e == 0) = false := by rw [beq_eq_false_iff_ne]; exact he
  have hzn : (e != 0) = true := by rw [bne_iff_ne]; exact he
  go_enter Tryd.func5, Tryd.ntmps5
  go_wp2_with fail
  refine LK.mono ?_
  rintro ex w1 ⟨rfl, k1⟩
  clear LK
  have K1 := k0.trans k1
  have B1 := (k1.block _ (lt_of_block b0) (fun f => f)).trans b0
  have kA := (Keeps.refl (fun _ => False) w1).alloc (.cells #[.int .i64 a, .int .i64 e] 28)
  have bA := (MapKept.heap_alloc w1 (.cells #[.int .i64 a, .int .i64 e] 28)).1
  have B2 := (kA.block _ (lt_of_block B1) (fun f => f)).trans B1
  have hlt1 := lt_of_block B1
  go_wp2_with fail
  generalize hW : w1.alloc (.cells #[.int .i64 a, .int .i64 e] 28) = W at *
  have c0 : W.cell? ⟨w.heap.size, 0, none⟩ = some (.int .i64 0) := by rw [cell_of_block B2]; rfl
  have c1 : W.cell? ⟨w.heap.size, 1, none⟩ = some (.int .i64 0) := by rw [cell_of_block B2]; rfl
  have f0 : W.frozen? ⟨w.heap.size, 0, none⟩ = false := frozen_of_block B2 _
  have f1 : W.frozen? ⟨w.heap.size, 1, none⟩ = false := frozen_of_block B2 _
  have hS0 : W.cell? ⟨w1.heap.size, 0, none⟩ = some (.int .i64 a) ∧ W.cell? ⟨w1.heap.size, 1, none⟩ = some (.int .i64 e) := ⟨by rw [cell_of_block bA]; rfl, by rw [cell_of_block bA]; rfl⟩
  have hne : ¬ w.heap.size = w1.heap.size := by omega
  have BE : Hid (∀ X : World, X.heap = W.heap → ((X.setCell ⟨w.heap.size, 0, none⟩ (.int .i64 a)).setCell ⟨w.heap.size, 1, none⟩ (.int .i64 e)).heap[w.heap.size]? = some (.cells #[.int .i64 a, .int .i64 e] 28 (0, 0))) := fun X hX => block_set (block_set (w := X) (by rw [hX]; exact B2) 0 (.int .i64 a)) 1 (.int .i64 e)
  have KE := K1.trans kA
  clear hW kA bA B2 K1
  go_region_held3 (fun W : World => W.cell? ⟨w1.heap.size, 0, none⟩ = some (.int .i64 a) ∧ W.cell? ⟨w1.heap.size, 1, none⟩ = some (.int .i64 e)) (first | assumption | (exact hS0) | go_keep) (fail)
  go_wp2_with fail
  refine bodyPost_ret (odd_ret2 rfl _ _ w.heap.size #[.int .i64 a, .int .i64 e] (BE.out W rfl) rfl rfl) rfl ?_
  exact ⟨rfl, (((KE.setCell (.inl (Nat.le_refl _)) _).setCell (.inl (Nat.le_refl _)) _).drew)⟩
set_option maxRecDepth 100000 in
set_option maxHeartbeats 8000000 in
theorem check_no (va : Option Addr) (vc n : Nat) (v : Value) (hv : ∃ a m c, v = .slice a m c) (a e : Int) (he : e ≠ 0) (w : World)
    (LK : Calls Tryd.prog 12 #[.slice va n vc, v] (w.alloc (.cells (odV 0 0) 28)) fun ex w' => ex = .returned (.tuple #[.pointer none, .agg (odV a e)]) ∧ Keeps (fun _ => False) (w.alloc (.cells (odV 0 0) 28)) w') :
    Calls Tryd.prog 6 #[.slice va n vc, v] w fun ex w' => ex = .returned (.tuple #[.int .i64 0, .agg (odV a e)]) ∧ Keeps (fun _ => False) w w' := by
  have k0 := (Keeps.refl (fun _ => False) w).alloc (.cells (odV 0 0) 28)
  have b0 : (w.alloc (.cells (odV 0 0) 28)).heap[w.heap.size]? = some (.cells (odV 0 0) 28 (0, 0)) := (MapKept.heap_alloc w _).1
  obtain ⟨a1, m1, cap1, rfl⟩ := hv
  unfold odV at LK k0 b0 ⊢
  have hzb : (e == 0) = false := by rw [beq_eq_false_iff_ne]; exact he
  have hzn : (e != 0) = true := by rw [bne_iff_ne]; exact he
  go_enter Tryd.func6, Tryd.ntmps6
  go_wp2_with fail
  refine LK.mono ?_
  rintro ex w1 ⟨rfl, k1⟩
  clear LK
  have K1 := k0.trans k1
  have B1 := (k1.block _ (lt_of_block b0) (fun f => f)).trans b0
  have kA := (Keeps.refl (fun _ => False) w1).alloc (.cells #[.int .i64 a, .int .i64 e] 28)
  have bA := (MapKept.heap_alloc w1 (.cells #[.int .i64 a, .int .i64 e] 28)).1
  have B2 := (kA.block _ (lt_of_block B1) (fun f => f)).trans B1
  have hlt1 := lt_of_block B1
  go_wp2_with fail
  generalize hW : w1.alloc (.cells #[.int .i64 a, .int .i64 e] 28) = W at *
  have c0 : W.cell? ⟨w.heap.size, 0, none⟩ = some (.int .i64 0) := by rw [cell_of_block B2]; rfl
  have c1 : W.cell? ⟨w.heap.size, 1, none⟩ = some (.int .i64 0) := by rw [cell_of_block B2]; rfl
  have f0 : W.frozen? ⟨w.heap.size, 0, none⟩ = false := frozen_of_block B2 _
  have f1 : W.frozen? ⟨w.heap.size, 1, none⟩ = false := frozen_of_block B2 _
  have hS0 : W.cell? ⟨w1.heap.size, 0, none⟩ = some (.int .i64 a) ∧ W.cell? ⟨w1.heap.size, 1, none⟩ = some (.int .i64 e) := ⟨by rw [cell_of_block bA]; rfl, by rw [cell_of_block bA]; rfl⟩
  have hne : ¬ w.heap.size = w1.heap.size := by omega
  have BE : Hid (∀ X : World, X.heap = W.heap → ((X.setCell ⟨w.heap.size, 0, none⟩ (.int .i64 a)).setCell ⟨w.heap.size, 1, none⟩ (.int .i64 e)).heap[w.heap.size]? = some (.cells #[.int .i64 a, .int .i64 e] 28 (0, 0))) := fun X hX => block_set (block_set (w := X) (by rw [hX]; exact B2) 0 (.int .i64 a)) 1 (.int .i64 e)
  have KE := K1.trans kA
  clear hW kA bA B2 K1
  go_region_held3 (fun W : World => W.cell? ⟨w1.heap.size, 0, none⟩ = some (.int .i64 a) ∧ W.cell? ⟨w1.heap.size, 1, none⟩ = some (.int .i64 e)) (first | assumption | (exact hS0) | go_keep) (fail)
  go_wp2_with fail
  refine bodyPost_ret (odd_ret2 rfl _ _ w.heap.size #[.int .i64 a, .int .i64 e] (BE.out W rfl) rfl rfl) rfl ?_
  exact ⟨rfl, (((KE.setCell (.inl (Nat.le_refl _)) _).setCell (.inl (Nat.le_refl _)) _).drew)⟩
end Go.Proofs.YtjmmjkoloioddaaDoor


/- Walks of the document's Check of this layer (layer 16), by what its Sights answers. No statement of the seat is proved here. -/
namespace Go.Proofs.YtjmmjkoloioddaaDoor
open Go.RowKit Go.Shelf

set_option maxRecDepth 100000 in
set_option maxHeartbeats 8000000 in
theorem rchk_no (va : Option Addr) (vc n : Nat) (v : Value) (hv : ∃ a m c, v = .slice a m c) (a e : Int) (he : e ≠ 0) (w : World)
    (LK : Calls Tryd.prog 7 #[.slice va n vc, v] (w.alloc (.cells (odV 0 0) 28)) fun ex w' => ex = .returned (.tuple #[.slice none 0 0, .agg (odV a e)]) ∧ Keeps (fun _ => False) (w.alloc (.cells (odV 0 0) 28)) w') :
    Calls Tryd.prog 8 #[.slice va n vc, v] w fun ex w' => ex = .returned (.tuple #[.int .i64 0, .agg (odV a e)]) ∧ Keeps (fun _ => False) w w' := by
  have k0 := (Keeps.refl (fun _ => False) w).alloc (.cells (odV 0 0) 28)
  have b0 : (w.alloc (.cells (odV 0 0) 28)).heap[w.heap.size]? = some (.cells (odV 0 0) 28 (0, 0)) := (MapKept.heap_alloc w _).1
  obtain ⟨a1, m1, cap1, rfl⟩ := hv
  unfold odV at LK k0 b0 ⊢
  have hzb : (e == 0) = false := by rw [beq_eq_false_iff_ne]; exact he
  have hzn : (e != 0) = true := by rw [bne_iff_ne]; exact he
  go_enter Tryd.func8, Tryd.ntmps8
  go_wp2_with fail
  refine LK.mono ?_
  rintro ex w1 ⟨rfl, k1⟩
  clear LK
  have K1 := k0.trans k1
  have B1 := (k1.block _ (lt_of_block b0) (fun f => f)).trans b0
  have kA := (Keeps.refl (fun _ => False) w1).alloc (.cells #[.int .i64 a, .int .i64 e] 28)
  have bA := (MapKept.heap_alloc w1 (.cells #[.int .i64 a, .int .i64 e] 28)).1
  have B2 := (kA.block _ (lt_of_block B1) (fun f => f)).trans B1
  have hlt1 := lt_of_block B1
  go_wp2_with fail
  obtain ⟨ob7, hob⟩ : ∃ b, b = w1.heap.size := ⟨_, rfl⟩
  rw [← hob] at bA hlt1 ⊢
  generalize hW : w1.alloc (.cells #[.int .i64 a, .int .i64 e] 28) = W at *
  have c0 : W.cell? ⟨w.heap.size, 0, none⟩ = some (.int .i64 0) := by rw [cell_of_block B2]; rfl
  have c1 : W.cell? ⟨w.heap.size, 1, none⟩ = some (.int .i64 0) := by rw [cell_of_block B2]; rfl
  have f0 : W.frozen? ⟨w.heap.size, 0, none⟩ = false := frozen_of_block B2 _
  have f1 : W.frozen? ⟨w.heap.size, 1, none⟩ = false := frozen_of_block B2 _
  have hS0 : W.cell? ⟨ob7, 0, none⟩ = some (.int .i64 a) ∧ W.cell? ⟨ob7, 1, none⟩ = some (.int .i64 e) := ⟨by rw [cell_of_block bA]; rfl, by rw [cell_of_block bA]; rfl⟩
  have hne : ¬ w.heap.size = ob7 := by omega
  have BE : Hid (∀ X : World, X.heap = W.heap → ((X.setCell ⟨w.heap.size, 0, none⟩ (.int .i64 a)).setCell ⟨w.heap.size, 1, none⟩ (.int .i64 e)).heap[w.heap.size]? = some (.cells #[.int .i64 a, .int .i64 e] 28 (0, 0))) := fun X hX => block_set (block_set (w := X) (by rw [hX]; exact B2) 0 (.int .i64 a)) 1 (.int .i64 e)
  have KE := K1.trans kA
  clear hW kA bA B2 K1 hob
  go_region_held3 (fun W : World => W.cell? ⟨ob7, 0, none⟩ = some (.int .i64 a) ∧ W.cell? ⟨ob7, 1, none⟩ = some (.int .i64 e)) (first | assumption | (exact hS0) | go_keep) (fail)
  go_wp2_with fail
  refine bodyPost_ret (odd_ret2 rfl _ _ w.heap.size #[.int .i64 a, .int .i64 e] (BE.out W rfl) rfl rfl) rfl ?_
  exact ⟨rfl, (((KE.setCell (.inl (Nat.le_refl _)) _).setCell (.inl (Nat.le_refl _)) _).drew)⟩
set_option maxRecDepth 100000 in
set_option maxHeartbeats 8000000 in
theorem rchk_ok (va : Option Addr) (vc n : Nat) (v : Value) (hv : ∃ a m c, v = .slice a m c) (G : List Sg) (hG : G.length ≤ 1100000) (w : World)
    (LK : Calls Tryd.prog 7 #[.slice va n vc, v] (w.alloc (.cells (odV 0 0) 28)) fun ex w' => ∃ sv, ex = .returned (.tuple #[sv, .agg (odV (-1) 0)]) ∧ ElsAt Sg.cl 10 w' sv G ∧ Keeps (fun _ => False) (w.alloc (.cells (odV 0 0) 28)) w') :
    Calls Tryd.prog 8 #[.slice va n vc, v] w fun ex w' => ex = .returned (.tuple #[.int .i64 (idxF atN G 0), .agg (odV (-1) 0)]) ∧ Keeps (fun _ => False) w w' := by
  have k0 := (Keeps.refl (fun _ => False) w).alloc (.cells (odV 0 0) 28)
  have b0 : (w.alloc (.cells (odV 0 0) 28)).heap[w.heap.size]? = some (.cells (odV 0 0) 28 (0, 0)) := (MapKept.heap_alloc w _).1
  obtain ⟨a1, m1, cap1, rfl⟩ := hv
  unfold odV at LK k0 b0 ⊢
  obtain ⟨z, hz⟩ : ∃ z, z = idxF atN G 0 := ⟨_, rfl⟩
  rw [← hz]
  have HZ : Hid (z = idxF atN (G.drop 0) 0) := hz
  clear hz
  go_enter Tryd.func8, Tryd.ntmps8
  go_wp2_with fail
  refine LK.mono ?_
  rintro ex w1 ⟨sv, rfl, hsv, k1⟩
  clear LK
  obtain ⟨sa, sc, rfl, hsc⟩ := hsv.shape
  have hsv2 := hsv.keeps sg_ne ((Keeps.refl (fun _ => False) w1).alloc (.cells #[.int .i64 (-1), .int .i64 0] 28))
  have K1 := k0.trans k1
  have B1 := (k1.block _ (lt_of_block b0) (fun f => f)).trans b0
  have kA := (Keeps.refl (fun _ => False) w1).alloc (.cells #[.int .i64 (-1), .int .i64 0] 28)
  have bA := (MapKept.heap_alloc w1 (.cells #[.int .i64 (-1), .int .i64 0] 28)).1
  have B2 := (kA.block _ (lt_of_block B1) (fun f => f)).trans B1
  have hlt1 := lt_of_block B1
  go_wp2_with fail
  obtain ⟨ob7, hob⟩ : ∃ b, b = w1.heap.size := ⟨_, rfl⟩
  rw [← hob] at bA hlt1 ⊢
  generalize hW : w1.alloc (.cells #[.int .i64 (-1), .int .i64 0] 28) = W at *
  have HV : Hid (∀ X, Keeps (fun _ => False) W X → ElsAt Sg.cl 10 X (.slice sa G.length sc) G) := fun X q => hsv2.keeps sg_ne q
  have HB : Hid (∀ X, Keeps (fun _ => False) W X → X.heap[w.heap.size]? = some (.cells #[.int .i64 0, .int .i64 0] 28 (0, 0)) ∧ X.heap[ob7]? = some (.cells #[.int .i64 (-1), .int .i64 0] 28 (0, 0))) := fun X q => ⟨(q.block _ (lt_of_block B2) (fun f => f)).trans B2, (q.block _ (lt_of_block bA) (fun f => f)).trans bA⟩
  have KW := K1.trans kA
  clear hW kA bA B2 K1 hob hsv hsv2 B1 b0 k0 k1
  go_loopw [8] (fun u wr => ∃ k : Nat, u = .int .i64 k ∧ k ≤ G.length ∧ Hid (z = idxF atN (G.drop k) k) ∧ Keeps (fun _ => False) W wr) (fun u _ => G.length - (intOf u).toNat)
  case atStart => exact ⟨0, rfl, Nat.zero_le _, HZ, Keeps.refl _ _⟩
  case round =>
    clear HZ
    obtain ⟨k, rfl, hk, hh, kr⟩ := hrel
    obtain ⟨B2, bA⟩ := HB.out wr kr
    have c0 : wr.cell? ⟨w.heap.size, 0, none⟩ = some (.int .i64 0) := by rw [cell_of_block B2]; rfl
    have c1 : wr.cell? ⟨w.heap.size, 1, none⟩ = some (.int .i64 0) := by rw [cell_of_block B2]; rfl
    have f0 : wr.frozen? ⟨w.heap.size, 0, none⟩ = false := frozen_of_block B2 _
    have f1 : wr.frozen? ⟨w.heap.size, 1, none⟩ = false := frozen_of_block B2 _
    have hS0 : wr.cell? ⟨ob7, 0, none⟩ = some (.int .i64 (-1)) ∧ wr.cell? ⟨ob7, 1, none⟩ = some (.int .i64 0) := ⟨by rw [cell_of_block bA]; rfl, by rw [cell_of_block bA]; rfl⟩
    have hne : ¬ w.heap.size = ob7 := by omega
    have BE : Hid (∀ X : World, X.heap = wr.heap → ((X.setCell ⟨w.heap.size, 0, none⟩ (.int .i64 (-1))).setCell ⟨w.heap.size, 1, none⟩ (.int .i64 0)).heap[w.heap.size]? = some (.cells #[.int .i64 (-1), .int .i64 0] 28 (0, 0))) := fun X hX => block_set (block_set (w := X) (by rw [hX]; exact B2) 0 (.int .i64 (-1))) 1 (.int .i64 0)
    have KE := KW.trans kr
    clear B2 bA
    by_cases hlt : k < G.length
    · have hki : (k : Int) < G.length := by omega
      have hk0 : (0 : Int) ≤ k := by omega
      obtain ⟨g, off, rfl, hc⟩ := (HV.out wr kr).at k hlt
      have hst := hh.out
      rw [List.drop_eq_getElem_cons hlt, idxF] at hst
      generalize G[k]'hlt = s at *
      have x9 := hc 9 _ rfl
      clear hc hh
      by_cases hat : s.at_ < 0
      · have HF0 : z = (k : Int) := by
          have hpl : atN s = true := by unfold atN; simp [hat]
          rw [if_pos hpl] at hst; exact hst
        have HF : Hid (z = (k : Int)) := HF0
        clear HF0 hst
        go_wp2_with fail
        go_region_held3 (fun W : World => W.cell? ⟨ob7, 0, none⟩ = some (.int .i64 (-1)) ∧ W.cell? ⟨ob7, 1, none⟩ = some (.int .i64 0)) (first | assumption | (exact hS0) | go_keep) (fail)
        go_wp2_with fail
        refine bodyPost_ret (odd_ret2 rfl _ _ w.heap.size #[.int .i64 (-1), .int .i64 0] (BE.out wr rfl) rfl rfl) rfl ?_
        exact ⟨by rw [HF.out]; rfl, (((KE.setCell (.inl (Nat.le_refl _)) _).setCell (.inl (Nat.le_refl _)) _).drew)⟩
      · have HF0 : z = idxF atN (G.drop (k + 1)) (k + 1) := by
          have hpl : ¬ atN s = true := by unfold atN; simp [hat]
          rw [if_neg hpl] at hst; exact hst
        have HF : Hid (z = idxF atN (G.drop (k + 1)) (k + 1)) := HF0
        clear HF0 hst BE c0 c1 f0 f1 hS0
        go_wp2_with fail
        go_roundw
        · exact ⟨k + 1, by simp, by omega, HF, kr⟩
        · simp [intOf]; omega
    · obtain rfl : k = G.length := by omega
      have HF0 : z = -1 := by have := hh.out; rw [List.drop_length, idxF] at this; exact this
      have HF : Hid (z = -1) := HF0
      clear hh HF0
      go_wp2_with fail
      go_region_held3 (fun W : World => W.cell? ⟨ob7, 0, none⟩ = some (.int .i64 (-1)) ∧ W.cell? ⟨ob7, 1, none⟩ = some (.int .i64 0)) (first | assumption | (exact hS0) | go_keep) (fail)
      go_wp2_with fail
      refine bodyPost_ret (odd_ret2 rfl _ _ w.heap.size #[.int .i64 (-1), .int .i64 0] (BE.out wr rfl) rfl rfl) rfl ?_
      exact ⟨by rw [HF.out]; rfl, (((KE.setCell (.inl (Nat.le_refl _)) _).setCell (.inl (Nat.le_refl _)) _).drew)⟩
end Go.Proofs.YtjmmjkoloioddaaDoor
