/-
  No statement of the seat is proved here. (Several texts in one: OpV.)
-/
import Derived.Test.YthmiainhaebjiaaGreatDoorM24OpU

/- The document's own example (pure): its attempts, its commits; wrote, SameWords. No statement of the seat is proved here. -/
namespace Go.Proofs.YthmiainhaebjiaaGreatDoor
open Go.RowKit Go.Shelf

def hW : List Ev := [⟨0, 1, 0, 0, false, 0⟩, ⟨0, 3, 0, 7, false, 0⟩, ⟨0, 3, 1, 8, false, 0⟩, ⟨0, 5, 0, 0, false, 0⟩, ⟨0, 6, 0, 1, false, 0⟩]
def hE : List Ev := [⟨1, 1, 0, 0, false, 0⟩] ++ hW ++ [⟨1, 2, 0, 7, false, 0⟩, ⟨1, 2, 1, 6, false, 0⟩]
def pW : Pt := ⟨0, 1, 0, 4, 1, true, 0, [], [(0, 7), (1, 8)], 0, true⟩
def pE : Pt := ⟨0, 1, 1, 5, 1, true, 0, [], [(0, 7), (1, 8)], 1, true⟩
theorem hW_ck : (checkL hW).2 = 0 := by kernel_rfl
theorem hE_ck : (checkL hE).2 = 0 := by kernel_rfl
theorem hW_pl : idxF plainE hW 0 = -1 := by kernel_rfl
theorem hE_pl : idxF plainE hE 0 = -1 := by kernel_rfl
theorem hW_ms : idxF (missE 2) hW 0 = -1 := by kernel_rfl
theorem hE_ms : idxF (missE 2) hE 0 = -1 := by kernel_rfl
theorem hW_fl : (partsL hW).filter (fun p => p.wr) = [pW] := by kernel_rfl
theorem hE_fl : (partsL hE).filter (fun p => p.wr) = [pE] := by kernel_rfl
theorem hW_wr : WrOf (partsL hW) [pW] := ⟨by rw [hW_fl], by simp⟩
theorem hE_wr : WrOf (partsL hE) [pE] := ⟨by rw [hE_fl], by simp⟩
theorem hW_at : idxF atN (sgK [5, 6] [pW] (triesL hW) (partsL hW) (triesL hW).length) 0 = -1 := by kernel_rfl
theorem hE_at : idxF atN (sgK [5, 6] [pE] (triesL hE) (partsL hE) (triesL hE).length) 0 = 0 := by kernel_rfl
theorem hW_st : stN [5, 6] [pW] 1 = [7, 8] := by kernel_rfl
theorem hW_wf : ∀ e ∈ hW, e.wf := by
  intro e he
  simp [hW] at he
  rcases he with rfl | rfl | rfl | rfl | rfl <;> (unfold Ev.wf; simp)
theorem hE_wf : ∀ e ∈ hE, e.wf := by
  intro e he
  simp [hE, hW] at he
  rcases he with rfl | rfl | rfl | rfl | rfl | rfl | rfl | rfl <;> (unfold Ev.wf; simp)
def cellsW : Array Value := (flatV Ev.cl hW).toArray
set_option maxRecDepth 100000 in
set_option maxHeartbeats 4000000 in
theorem wrote_any (w : World) : Calls Tryz.prog 34 #[] w fun ex w' => ex = .returned (.slice (some ⟨w.heap.size, 0, none⟩) 5 5) ∧ w' = w.alloc (.cells cellsW 60) := by
  go_enter Tryz.func34, Tryz.ntmps34
  go_wp2
  go_ret
  exact ⟨rfl, rfl⟩
set_option maxRecDepth 100000 in
set_option maxHeartbeats 8000000 in
theorem rsamew_any (va vb : Value) (F : List Int) (hl : F.length ≤ 1100000) (w : World) (ha : WsAt w va F) (hb : WsAt w vb F) : Calls Tryz.prog 12 #[va, vb] w fun e w' => e = .returned (.bool true) ∧ Keeps (fun _ => False) w w' := by
  have HV : Hid (∀ X, Keeps (fun _ => False) w X → WsAt X va F ∧ WsAt X vb F) := fun X k => ⟨ha.keeps wC_ne k, hb.keeps wC_ne k⟩
  obtain ⟨aa, ac, rfl, hac⟩ := ha.shape
  obtain ⟨ba, bc, rfl, hbc⟩ := hb.shape
  clear ha hb
  go_enter Tryz.func12, Tryz.ntmps12
  go_wp2_with fail
  go_loopw [5] (fun u wr => ∃ k : Nat, u = .int .i64 k ∧ k ≤ F.length ∧ Keeps (fun _ => False) w wr) (fun u _ => F.length - (intOf u).toNat)
  case atStart => exact ⟨0, rfl, Nat.zero_le _, Keeps.refl _ _⟩
  case round =>
    obtain ⟨k, rfl, hk, kr⟩ := hrel
    by_cases hlt : k < F.length
    · have hki : (k : Int) < F.length := by omega
      have hk0 : (0 : Int) ≤ k := by omega
      obtain ⟨h1, h2⟩ := HV.out wr kr
      obtain ⟨ga, oa, rfl, ca⟩ := h1.at k hlt
      obtain ⟨gb, ob, rfl, cb⟩ := h2.at k hlt
      have y0 := ca 0 _ rfl
      have y1 := cb 0 _ rfl
      simp only [Nat.mul_one, Nat.add_zero] at y0 y1
      generalize F[k]'hlt = x at *
      have hS0 : wr.cell? ⟨ga, oa + k, none⟩ = some (.int .u64 x) ∧ wr.cell? ⟨gb, ob + k, none⟩ = some (.int .u64 x) := ⟨y0, y1⟩
      have hkw : IntKind.i64.wrap ((k : Int) + 1) = (k : Int) + 1 := by rw [IntKind.wrap_i64]; omega
      have kd := (kr.drew)
      clear h1 h2 ca cb
      go_wp2_with fail
      go_region_held3 (fun W : World => W.cell? ⟨ga, oa + k, none⟩ = some (.int .u64 x) ∧ W.cell? ⟨gb, ob + k, none⟩ = some (.int .u64 x)) (first | assumption | (exact hS0) | go_keep) (fail)
      go_wp2_with fail
      go_roundw
      · exact ⟨k + 1, by simp, by omega, kd⟩
      · simp [intOf]; omega
    · obtain rfl : k = F.length := by omega
      go_wp2_with fail
      go_ret
      exact ⟨rfl, kr⟩
end Go.Proofs.YthmiainhaebjiaaGreatDoor
