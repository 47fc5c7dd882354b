import Derived.Test.YthmiainhaebjiaaGreatDoorM00CMem
import Derived.Deep.QuietTactic
import Derived.BigQuiet
import Derived.Test.YthmiainhaebjiaaGreatDoorNgOq
import Derived.Test.YthmiainhaebjiaaGreatDoorM29OpV

/- Walks of Same of the document and of the program, of lists that are alike. No statement of the seat is proved here. -/
namespace Go.Proofs.YthmiainhaebjiaaGreatDoor
open Go.RowKit Go.Shelf

theorem eq_ev_self (a b c d : Int) (e : Bool) (f : Int) (w : World) : (Op.equalIn 10000 60 (.agg #[.int .i64 a, .int .i64 b, .int .u64 c, .int .u64 d, .bool e, .int .i64 f]) (.agg #[.int .i64 a, .int .i64 b, .int .u64 c, .int .u64 d, .bool e, .int .i64 f])).run Tryz.prog w = .ok true w := by
  have u3 := Tryz.underlying3
  have a3 := Tryz.isAgg3
  have z3 := Tryz.sizeOf3
  have u4 := Tryz.underlying52
  have a4 := Tryz.isAgg52
  have z4 := Tryz.sizeOf52
  have u5 := Tryz.underlying26
  have a5 := Tryz.isAgg26
  have z5 := Tryz.sizeOf26
  have u6 := Tryz.underlying4
  have a6 := Tryz.isAgg4
  have z6 := Tryz.sizeOf4
  have u7 := Tryz.underlying29
  have a7 := Tryz.isAgg29
  have z7 := Tryz.sizeOf29
  have hS : Tryz.prog.underlying 60 = some (.struct (Tryz.prog.fieldsOf 60)) := by kernel_rfl
  rw [show (10000 : Nat) = 9999 + 1 from rfl, run_equalIn_agg w 9999 60 _ _ hS (by kernel_rfl)]
  simp only [Program.fieldsOf, Tryz.underlying60]
  go_simp
set_option maxRecDepth 100000 in
set_option maxHeartbeats 4000000 in
theorem rsame_any (va vb : Value) (L : List Ev) (hL : L.length ≤ 4611686018427387) (w : World) (ha : ElsAt Ev.cl 6 w va L) (hb : ElsAt Ev.cl 6 w vb L) : Calls Tryz.prog 33 #[va, vb] w fun e w' => e = .returned (.bool true) ∧ Keeps (fun _ => False) w w' := by
  have HA : Hid (∀ X, Keeps (fun _ => False) w X → ElsAt Ev.cl 6 X va L) := fun X k => ha.keeps ev_ne k
  have HB : Hid (∀ X, Keeps (fun _ => False) w X → ElsAt Ev.cl 6 X vb L) := fun X k => hb.keeps ev_ne k
  have k0 := Keeps.refl (fun _ => False) w
  have Q := eq_ev_self
  obtain ⟨a0, c0, rfl, _⟩ := ha.shape
  obtain ⟨a1, c1, rfl, _⟩ := hb.shape
  clear ha hb
  go_enter Tryz.func33, Tryz.ntmps33
  go_wp2_with fail
  go_loopw [5] (fun u wr => ∃ (k : Nat), u = .int .i64 k ∧ k ≤ L.length ∧ Keeps (fun _ => False) w wr) (fun u _ => L.length - (intOf u).toNat)
  case atStart => exact ⟨0, rfl, Nat.zero_le _, k0⟩
  case round =>
    obtain ⟨k, rfl, hk, kr⟩ := hrel
    by_cases hlt : k < L.length
    · obtain ⟨ga, off, rfl, x⟩ := (HA.out wr kr).at k hlt
      obtain ⟨gb, offb, rfl, y⟩ := (HB.out wr kr).at k hlt
      have hki : (k : Int) < L.length := by omega
      have hk0 : (0 : Int) ≤ k := by omega
      generalize L[k]'hlt = i at *
      obtain ⟨th, kd, ad, wd, own, er⟩ := i
      have x0 := x 0 _ rfl
      have x1 := x 1 _ rfl
      have x2 := x 2 _ rfl
      have x3 := x 3 _ rfl
      have x4 := x 4 _ rfl
      have x5 := x 5 _ rfl
      have y0 := y 0 _ rfl
      have y1 := y 1 _ rfl
      have y2 := y 2 _ rfl
      have y3 := y 3 _ rfl
      have y4 := y 4 _ rfl
      have y5 := y 5 _ rfl
      simp only [Nat.add_zero] at x0 y0
      dsimp only at x0 x1 x2 x3 x4 x5 y0 y1 y2 y3 y4 y5
      have Q1 := Q th kd ad wd own er
      clear x y Q
      go_wp2_with fail
      go_quiet (fail)
      go_wp2_with fail
      go_roundw
      · exact ⟨k + 1, by simp, by omega, kr.drewN _⟩
      · simp [intOf]; omega
    · obtain rfl : k = L.length := by omega
      go_wp2_with fail
      go_ret
      exact ⟨rfl, kr⟩
end Go.Proofs.YthmiainhaebjiaaGreatDoor

/- Walks of lent and left (layer 16). No statement of the seat is proved here. -/
namespace Go.Proofs.YthmiainhaebjiaaGreatDoor
open Go.RowKit Go.Shelf

/-- The mark behind what is lent. -/
def mrkO : Ev := ⟨-7, 0, 0, 0, false, 0⟩
set_option maxRecDepth 100000 in
set_option maxHeartbeats 4000000 in
theorem lentO_any (v : Value) (L : List Ev) (w : World) (hv : EvsAt w v L) :
    Calls Tryz.prog 5 #[v] w fun ex w' => ∃ b cap, ex = .returned (.slice b L.length cap) ∧ L.length + 1 ≤ cap ∧ OwnR Ev.cl 6 60 w' w.heap.size (.slice b (L.length + 1) cap) (L ++ [mrkO]) ∧ Keeps (fun _ => False) w w' := by
  have hbig := hv.big
  obtain ⟨v1, X1, r1, o1, gr1⟩ := (OwnR.nil Ev.cl 6 60 w).app ev_len ev_one (by decide) Tryz.underlying23 info_ev rfl (by decide) (ty := 23) _ L hv.els (by simp; omega)
  have k1 := OwnR.kept gr1 (Keeps.refl _ w) (OwnR.nil Ev.cl 6 60 w)
  simp only [List.nil_append] at o1
  have ka := (Keeps.refl (fun _ => False) X1).alloc (.cells mrkO.cells 60)
  have ba := (MapKept.heap_alloc X1 (.cells mrkO.cells 60)).1
  have o1' := o1.keeps ka (fun _ _ f => f)
  have hM : ElsAt Ev.cl 6 (X1.alloc (.cells mrkO.cells 60)) (.slice (some ⟨X1.heap.size, 0, none⟩) 1 1) [mrkO] := ⟨some ⟨X1.heap.size, 0, none⟩, 1, rfl, by simp, fun k hk => ⟨X1.heap.size, 0, rfl, fun f x hx => by
    obtain rfl : k = 0 := by simpa using hk
    rw [show 0 + 0 * 6 + f = f by omega, cell_of_block ba]
    have : mrkO.cells[f]? = (Ev.cl mrkO)[f]? := by simp [Ev.cl]
    rw [this]; exact hx⟩⟩
  obtain ⟨v2, X2, r2, o2, gr2⟩ := o1'.app ev_len ev_one (by decide) Tryz.underlying23 info_ev rfl (by decide) (ty := 23) _ [mrkO] hM (by simp; omega)
  have k2 := OwnR.kept gr2 (k1.trans ka) o1'
  obtain ⟨g2, cap2, cur, rfl, hg2, hb2, hcur⟩ := o2.at (by simp)
  have hlc : L.length + 1 ≤ cap2 := by
    obtain ⟨a', c', hv', hl', _⟩ := (o2.els ev_len).form
    simp only [Value.slice.injEq] at hv'
    obtain ⟨-, -, rfl⟩ := hv'
    simpa using hl'
  simp only [List.length_append, List.length_cons, List.length_nil] at r2 o2
  have HR1 : Hid _ := r1
  have HR2 : Hid _ := r2
  have HO : Hid (OwnR Ev.cl 6 60 X2 w.heap.size _ _) := o2
  obtain ⟨a, cap, rfl, hcap⟩ := hv.els.shape
  have hl1 : (L.length : Int) ≤ (cap2 : Int) := by omega
  have hl2 : L.length ≤ cap2 := by omega
  clear o1 o2 o1' gr1 gr2 r1 r2 hM ka ba hv hb2 hcur hg2
  unfold mrkO at HR2
  dsimp only [Ev.cells] at HR2
  go_enter Tryz.func5, Tryz.ntmps5
  go_wp2_with (first | (at_builtin; refine wpList_append_run rfl _ _ 23 rfl rfl rfl HR1.out ?_; clear HR1) | (at_builtin; refine wpList_append_run rfl _ _ 23 rfl rfl rfl HR2.out ?_; clear HR2))
  go_ret
  exact ⟨_, _, rfl, hlc, HO.out, k2⟩
set_option maxRecDepth 100000 in
set_option maxHeartbeats 4000000 in
theorem leftO_any (v : Value) (L : List Ev) (b : Option Addr) (cap : Nat) (hc : L.length + 1 ≤ cap) (w : World) (hm : ElsAt Ev.cl 6 w (.slice b (L.length + 1) cap) (L ++ [mrkO])) (hv : ElsAt Ev.cl 6 w v L) (hL : L.length ≤ 4611686018427) (va vb : Value) (F : List Int) (hF : F.length ≤ 1100000) (hfa : WsAt w va F) (hfb : WsAt w vb F) :
    Calls Tryz.prog 15 #[.slice b L.length cap, v, va, vb] w fun ex w' => ex = .returned (.bool true) ∧ Keeps (fun _ => False) w w' := by
  have h5 := hm.take L.length (by simp)
  rw [List.take_left' rfl] at h5
  have SM := rsame_any (.slice b L.length cap) v L (by omega) w h5 hv
  have HC : Hid (∀ X, Keeps (fun _ => False) w X → ∃ g off, b = some ⟨g, off, none⟩ ∧ X.cell? ⟨g, off + L.length * 6, none⟩ = some (.int .i64 (-7))) := fun X k => by
    obtain ⟨g, off, hb, q⟩ := (hm.keeps ev_ne k).at L.length (by simp)
    refine ⟨g, off, hb, ?_⟩
    have := q 0 (.int .i64 (-7)) (by rw [List.getElem_append_right (Nat.le_refl _)]; simp [mrkO])
    simpa using this
  have HW : Hid (∀ X, Keeps (fun _ => False) w X → WsAt X va F ∧ WsAt X vb F) := fun X k => ⟨hfa.keeps wC_ne k, hfb.keeps wC_ne k⟩
  obtain ⟨a, cp, rfl, _⟩ := hv.shape
  obtain ⟨fa, fc, rfl, _⟩ := hfa.shape
  obtain ⟨ga, gc, rfl, _⟩ := hfb.shape
  have hw1 : IntKind.i64.wrap ((L.length : Int) + 1) = (L.length : Int) + 1 := by rw [IntKind.wrap_i64]; omega
  have l1 : (0 : Int) ≤ (L.length : Int) + 1 := by omega
  have l2 : (L.length : Int) + 1 ≤ (cap : Int) := by omega
  have l3 : ((L.length : Int) + 1).toNat = L.length + 1 := by omega
  have l4 : (L.length : Int) < ((L.length + 1 : Nat) : Int) := by omega
  have l5 : (L.length : Int) < (L.length : Int) + 1 := by omega
  clear hm hv h5 hfa hfb
  go_enter Tryz.func15, Tryz.ntmps15
  go_wp2_with fail
  refine SM.mono ?_
  rintro ex w1 ⟨rfl, k1⟩
  obtain ⟨g, off, rfl, c⟩ := HC.out w1 k1
  have SW := rsamew_any (.slice fa F.length fc) (.slice ga F.length gc) F hF w1 (HW.out w1 k1).1 (HW.out w1 k1).2
  go_wp2_with fail
  refine SW.mono ?_
  rintro ex w2 ⟨rfl, k2⟩
  go_wp2_with fail
  go_ret
  exact ⟨rfl, k1.trans k2⟩
end Go.Proofs.YthmiainhaebjiaaGreatDoor
