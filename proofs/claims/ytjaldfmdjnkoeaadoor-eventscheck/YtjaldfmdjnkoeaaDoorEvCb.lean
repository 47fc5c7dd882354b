
/- Walks of Same of the document and of the program, of lists that are alike. No statement of the seat is proved here. -/
import Derived.Test.YtjaldfmdjnkoeaaDoorEvB
import Derived.Deep.QuietTactic
import Derived.BigQuiet
namespace Go.Proofs.YtjaldfmdjnkoeaaDoor
open Go.RowKit Go.Shelf

theorem eq_ev_self (a b c d : Int) (e : Bool) (f : Int) (w : World) : (Op.equalIn 10000 44 (.agg #[.int .i64 a, .int .i64 b, .int .u64 c, .int .u64 d, .bool e, .int .i64 f]) (.agg #[.int .i64 a, .int .i64 b, .int .u64 c, .int .u64 d, .bool e, .int .i64 f])).run Tryd.prog w = .ok true w := by
  have u3 := Tryd.underlying3
  have a3 := Tryd.isAgg3
  have z3 := Tryd.sizeOf3
  have u4 := Tryd.underlying40
  have a4 := Tryd.isAgg40
  have z4 := Tryd.sizeOf40
  have u5 := Tryd.underlying39
  have a5 := Tryd.isAgg39
  have z5 := Tryd.sizeOf39
  have u6 := Tryd.underlying4
  have a6 := Tryd.isAgg4
  have z6 := Tryd.sizeOf4
  have u7 := Tryd.underlying25
  have a7 := Tryd.isAgg25
  have z7 := Tryd.sizeOf25
  have hS : Tryd.prog.underlying 44 = some (.struct (Tryd.prog.fieldsOf 44)) := by kernel_rfl
  rw [show (10000 : Nat) = 9999 + 1 from rfl, run_equalIn_agg w 9999 44 _ _ hS (by kernel_rfl)]
  simp only [Program.fieldsOf, Tryd.underlying44]
  go_simp
set_option maxRecDepth 100000 in
set_option maxHeartbeats 4000000 in
theorem rsame_any (va vb : Value) (L : List Ev) (hL : L.length ≤ 4611686018427387) (w : World) (ha : ElsAt Ev.cl 6 w va L) (hb : ElsAt Ev.cl 6 w vb L) : Calls Tryd.prog 20 #[va, vb] w fun e w' => e = .returned (.bool true) ∧ Keeps (fun _ => False) w w' := by
  have HA : Hid (∀ X, Keeps (fun _ => False) w X → ElsAt Ev.cl 6 X va L) := fun X k => ha.keeps ev_ne k
  have HB : Hid (∀ X, Keeps (fun _ => False) w X → ElsAt Ev.cl 6 X vb L) := fun X k => hb.keeps ev_ne k
  have k0 := Keeps.refl (fun _ => False) w
  have Q := eq_ev_self
  obtain ⟨a0, c0, rfl, _⟩ := ha.shape
  obtain ⟨a1, c1, rfl, _⟩ := hb.shape
  clear ha hb
  go_enter Tryd.func20, Tryd.ntmps20
  go_wp2_with fail
  go_loopw [5] (fun u wr => ∃ (k : Nat), u = .int .i64 k ∧ k ≤ L.length ∧ Keeps (fun _ => False) w wr) (fun u _ => L.length - (intOf u).toNat)
  case atStart => exact ⟨0, rfl, Nat.zero_le _, k0⟩
  case round =>
    obtain ⟨k, rfl, hk, kr⟩ := hrel
    by_cases hlt : k < L.length
    · obtain ⟨ga, off, rfl, x⟩ := (HA.out wr kr).at k hlt
      obtain ⟨gb, offb, rfl, y⟩ := (HB.out wr kr).at k hlt
      have hki : (k : Int) < L.length := by omega
      have hk0 : (0 : Int) ≤ k := by omega
      generalize L[k]'hlt = i at *
      obtain ⟨th, kd, ad, wd, own, er⟩ := i
      have x0 := x 0 _ rfl
      have x1 := x 1 _ rfl
      have x2 := x 2 _ rfl
      have x3 := x 3 _ rfl
      have x4 := x 4 _ rfl
      have x5 := x 5 _ rfl
      have y0 := y 0 _ rfl
      have y1 := y 1 _ rfl
      have y2 := y 2 _ rfl
      have y3 := y 3 _ rfl
      have y4 := y 4 _ rfl
      have y5 := y 5 _ rfl
      simp only [Nat.add_zero] at x0 y0
      dsimp only at x0 x1 x2 x3 x4 x5 y0 y1 y2 y3 y4 y5
      have Q1 := Q th kd ad wd own er
      clear x y Q
      go_wp2_with fail
      go_quiet (fail)
      go_wp2_with fail
      go_roundw
      · exact ⟨k + 1, by simp, by omega, kr.drewN _⟩
      · simp [intOf]; omega
    · obtain rfl : k = L.length := by omega
      go_wp2_with fail
      go_ret
      exact ⟨rfl, kr⟩
set_option maxRecDepth 100000 in
set_option maxHeartbeats 4000000 in
theorem equal_any (va vb : Value) (L : List Ev) (hL : L.length ≤ 4611686018427387) (w : World) (ha : ElsAt Ev.cl 6 w va L) (hb : ElsAt Ev.cl 6 w vb L) : Calls Tryd.prog 52 #[va, vb] w fun e w' => e = .returned (.bool true) ∧ Keeps (fun _ => False) w w' := by
  have HA : Hid (∀ X, Keeps (fun _ => False) w X → ElsAt Ev.cl 6 X va L) := fun X k => ha.keeps ev_ne k
  have HB : Hid (∀ X, Keeps (fun _ => False) w X → ElsAt Ev.cl 6 X vb L) := fun X k => hb.keeps ev_ne k
  have k0 := Keeps.refl (fun _ => False) w
  have Q := eq_ev_self
  obtain ⟨a0, c0, rfl, _⟩ := ha.shape
  obtain ⟨a1, c1, rfl, _⟩ := hb.shape
  clear ha hb
  go_enter Tryd.func52, Tryd.ntmps52
  go_wp2_with fail
  go_loopw [13] (fun u wr => ∃ (k : Nat), u = .int .i64 k ∧ k ≤ L.length ∧ Keeps (fun _ => False) w wr) (fun u _ => L.length - (intOf u).toNat)
  case atStart => exact ⟨0, rfl, Nat.zero_le _, k0⟩
  case round =>
    obtain ⟨k, rfl, hk, kr⟩ := hrel
    by_cases hlt : k < L.length
    · obtain ⟨ga, off, rfl, x⟩ := (HA.out wr kr).at k hlt
      obtain ⟨gb, offb, rfl, y⟩ := (HB.out wr kr).at k hlt
      have hki : (k : Int) < L.length := by omega
      have hk0 : (0 : Int) ≤ k := by omega
      generalize L[k]'hlt = i at *
      obtain ⟨th, kd, ad, wd, own, er⟩ := i
      have x0 := x 0 _ rfl
      have x1 := x 1 _ rfl
      have x2 := x 2 _ rfl
      have x3 := x 3 _ rfl
      have x4 := x 4 _ rfl
      have x5 := x 5 _ rfl
      have y0 := y 0 _ rfl
      have y1 := y 1 _ rfl
      have y2 := y 2 _ rfl
      have y3 := y 3 _ rfl
      have y4 := y 4 _ rfl
      have y5 := y 5 _ rfl
      simp only [Nat.add_zero] at x0 y0
      dsimp only at x0 x1 x2 x3 x4 x5 y0 y1 y2 y3 y4 y5
      have Q1 := Q th kd ad wd own er
      clear x y Q
      go_wp2_with fail
      go_quiet (fail)
      go_wp2_with fail
      go_roundw
      · exact ⟨k + 1, by simp, by omega, kr.drewN _⟩
      · simp [intOf]; omega
    · obtain rfl : k = L.length := by omega
      go_wp2_with fail
      go_ret
      exact ⟨rfl, kr⟩
theorem same_any (va vb : Value) (L : List Ev) (hL : L.length ≤ 4611686018427387) (w : World) (ha : ElsAt Ev.cl 6 w va L) (hb : ElsAt Ev.cl 6 w vb L) : Calls Tryd.prog 32 #[va, vb] w fun e w' => e = .returned (.bool true) ∧ Keeps (fun _ => False) w w' := by
  have E := equal_any va vb L hL w ha hb
  clear ha hb
  go_enter Tryd.func32, Tryd.ntmps32
  go_wp2_with fail
  refine E.mono ?_
  rintro ex w1 ⟨rfl, k1⟩
  go_wp2_with fail
  go_ret
  exact ⟨rfl, k1⟩
end Go.Proofs.YtjaldfmdjnkoeaaDoor
