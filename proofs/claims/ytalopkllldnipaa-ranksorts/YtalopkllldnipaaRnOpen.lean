
/- What comes in, opened (layer 24). No statement of the seat is proved here. -/
import Derived.Test.YtalopkllldnipaaRows
import Derived.Test.YtalopkllldnipaaRnC
import Derived.ProofKit
import Derived.OpenShut
import Derived.SizedLaws
import Derived.Deep.Grids
namespace Go.Proofs.Ytalopkllldnipaa
open Go.ChangeShapes Go.WideShapes Go.ChangeAt Go.RowKit

/-- A row of steps, wherever it lies. -/
def StepsAt (w : World) (a : Option Addr) (n : Nat) : Prop := ∀ k, k < n → ∃ g off, a = some ⟨g, off, none⟩ ∧ ∃ kd on x y, isW x ∧ isW y ∧ w.cell? ⟨g, off + k * 4, none⟩ = some (.int .i64 kd) ∧ w.cell? ⟨g, off + k * 4 + 1, none⟩ = some (.int .i64 on) ∧ w.cell? ⟨g, off + k * 4 + 2, none⟩ = some (.int .u64 x) ∧ w.cell? ⟨g, off + k * 4 + 3, none⟩ = some (.int .u64 y)
theorem laidOut : laidOutB Try.prog = true := by kernel_rfl
theorem own : ownKnob Try.prog.godebug = none := by kernel_rfl
theorem cellsWord : Try.prog.cellsOf 25 = 1 := by kernel_rfl
theorem bytesWord : Try.prog.bytesOf 25 = 8 := by kernel_rfl
theorem cellsInt : Try.prog.cellsOf 3 = 1 := by kernel_rfl
theorem cellsStep : Try.prog.cellsOf 33 = 4 := by kernel_rfl
theorem bytesStep : Try.prog.bytesOf 33 = 32 := by kernel_rfl
theorem wf_u64 {n : Int} (h : (Lit.int .u64 n).wf = true) : isW n := by
  have h : 0 ≤ n ∧ n ≤ 18446744073709551615 := by simpa [Lit.wf, IntKind.min, IntKind.max, IntKind.signed, IntKind.bits] using h
  exact ⟨h.1, by omega⟩
theorem cell_spot {w : World} {a : Addr} {v : Value} (h : w.cell? a = some v) : a.spot = none := by
  unfold World.cell? at h
  split at h
  · cases hs : a.spot with
    | none => rfl
    | some _ => simp [hs] at h
  · simp at h

section
variable {H : Type} {enc : TypeId × Value → H} {W : World}
set_option maxRecDepth 100000 in
/-- A slice of words that came in. -/
theorem open_words {v : Value} {d : DataW H} {ps : List MemPlace} {base : Nat} (hok : Value.okWide Try.prog W .any base 34 v) (h : DataW.Trod enc Try.prog W 0 (fun _ => true) true 34 v d ps) (hwt : ∀ N ∈ d.weights Try.prog 34, N ≤ reachBytes) :
    ∃ ws, Lies W v ws ∧ (∀ x ∈ ws, isW x) ∧ ws.length * 8 ≤ 140737488351232 := by
  obtain ⟨a, len, cap, rfl⟩ := okWide_slice Try.underlying34 hok
  obtain ⟨fuel, hf⟩ := h
  rcases open_ints Try.underlying34 Try.underlying25 cellsWord hf with ⟨hcs, hx⟩ | ⟨x, l, c, zs, hcs, _, hl, hm, hz, hx, hcell, hwz⟩
  · simp [Value.cells] at hcs
    obtain ⟨rfl, rfl, rfl⟩ := hcs
    exact ⟨[], ⟨none, 0, rfl, fun i h => absurd h (by simp)⟩, fun x hx => by simp at hx, by simp⟩
  · simp [Value.cells] at hcs
    obtain ⟨rfl, rfl, rfl⟩ := hcs
    simp at hz
    have hlen : (zs.take len).length = len := by simp; omega
    have hb : len * 8 ≤ 140737488351232 := by
      rw [(Prod.mk.inj hx).1] at hwt
      have := hwt _ (by
        simp only [DataW.weights, Try.underlying34]
        exact List.mem_cons_self)
      rw [bytesWord] at this
      simp only [reachBytes, lits, List.length_map, List.length_take, List.length_drop] at this
      omega
    refine ⟨zs.take len, ⟨some x, cap, by rw [hlen], fun i hi => ?_⟩, fun n hn => wf_u64 (hwz n (List.mem_of_mem_take hn)), by rw [hlen]; exact hb⟩
    have hi' : i < len := by simp at hi; omega
    obtain ⟨b, o, s⟩ := x
    have hc := hcell i (by omega)
    have hs : s = none := by
      have := cell_spot (hcell 0 (by omega))
      simpa [Addr.add] using this
    subst hs
    rw [addr_add] at hc
    refine ⟨b, o, rfl, ?_⟩
    rw [hc]
    simp [oat, List.getElem?_take_of_lt hi', List.getD_eq_getElem?_getD]

set_option maxRecDepth 100000 in
/-- One step. -/
theorem open_step4 {fuel : Nat} {cs : List Value} {d : DataW H} {ps : List MemPlace} (h : DataW.trod enc Try.prog W 0 (fun _ => true) true fuel 33 cs = some (d, ps)) (hlen : cs.length = 4) :
    ∃ kd on x y, cs = [.int .i64 kd, .int .i64 on, .int .u64 x, .int .u64 y] ∧ isW x ∧ isW y := by
  obtain ⟨xs, k, hk, hxy, _, hxl, hf⟩ := DataW.trod_struct Try.underlying33 h
  match xs, hxl, cs, hlen with
  | [y0, y1, y2, y3], _, [v0, v1, v2, v3], _ =>
    have g0 := hf 0 _ rfl
    have g1 := hf 1 _ rfl
    have g2 := hf 2 _ rfl
    have g3 := hf 3 _ rfl
    simp [cellsInt, cellsWord] at g0 g1 g2 g3
    obtain ⟨n0, e0, _, _⟩ := DataW.trod_int Try.underlying3 g0
    obtain ⟨n1, e1, _, _⟩ := DataW.trod_int Try.underlying3 g1
    obtain ⟨n2, e2, _, b2⟩ := DataW.trod_int Try.underlying25 g2
    obtain ⟨n3, e3, _, b3⟩ := DataW.trod_int Try.underlying25 g3
    simp at e0 e1 e2 e3
    subst e0 e1 e2 e3
    exact ⟨n0, n1, n2, n3, rfl, wf_u64 b2, wf_u64 b3⟩
set_option maxRecDepth 100000 in
theorem open_step {v : Value} {d : DataW H} {ps : List MemPlace} {base : Nat} (hok : Value.okWide Try.prog W .any base 33 v) (h : DataW.Trod enc Try.prog W 0 (fun _ => true) true 33 v d ps) :
    ∃ kd on x y, v = stV kd on x y ∧ isW x ∧ isW y := by
  obtain ⟨cs, rfl, hs⟩ := okWide_struct Try.underlying33 hok
  obtain ⟨fuel, hf⟩ := h
  rw [cellsStep] at hs
  obtain ⟨kd, on, x, y, hi, hw, hw2⟩ := open_step4 hf (by simpa [Value.cells] using hs)
  refine ⟨kd, on, x, y, ?_, hw, hw2⟩
  simp [Value.cells] at hi
  rw [show cs = cs.toList.toArray by simp, hi]
  rfl
set_option maxRecDepth 100000 in
theorem open_numU {v : Value} {d : DataW H} {ps : List MemPlace} {base : Nat} (hok : Value.okWide Try.prog W .any base 25 v) (h : DataW.Trod enc Try.prog W 0 (fun _ => true) true 25 v d ps) : ∃ x, v = .int .u64 x ∧ isW x := by
  obtain ⟨x, rfl, _, _, hw⟩ := open_int Try.underlying25 hok h
  exact ⟨x, rfl, wf_u64 hw⟩
set_option maxRecDepth 100000 in
theorem open_numI {v : Value} {d : DataW H} {ps : List MemPlace} {base : Nat} (hok : Value.okWide Try.prog W .any base 3 v) (h : DataW.Trod enc Try.prog W 0 (fun _ => true) true 3 v d ps) : ∃ x : Int, v = .int .i64 x ∧ -9223372036854775808 ≤ x ∧ x < 9223372036854775808 := by
  obtain ⟨x, rfl, _, _, hw⟩ := open_int Try.underlying3 hok h
  have hw : -9223372036854775808 ≤ x ∧ x ≤ 9223372036854775807 := by simpa [Lit.wf, IntKind.min, IntKind.max, IntKind.signed, IntKind.bits] using hw
  exact ⟨x, rfl, hw.1, by omega⟩
set_option maxRecDepth 100000 in
/-- The script. -/
theorem open_steps {v : Value} {d : DataW H} {ps : List MemPlace} {base : Nat} (hok : Value.okWide Try.prog W .any base 22 v) (h : DataW.Trod enc Try.prog W 0 (fun _ => true) true 22 v d ps) (hwt : ∀ N ∈ d.weights Try.prog 22, N ≤ reachBytes) :
    ∃ a n c, v = .slice a n c ∧ StepsAt W a n ∧ n * 32 ≤ 140737488351232 := by
  obtain ⟨a, len, cap, rfl⟩ := okWide_slice Try.underlying22 hok
  obtain ⟨fuel, hf⟩ := h
  rcases Deep.open_slice Try.underlying22 hf with ⟨hcs, hx⟩ | ⟨x, l, c, m, n, D, Pl, hcs, _, hl, hm, hmm, hx, hcell⟩
  · simp [Value.cells] at hcs
    obtain ⟨rfl, rfl, rfl⟩ := hcs
    exact ⟨none, 0, 0, rfl, fun k hk => absurd hk (by simp), by omega⟩
  · simp [Value.cells] at hcs
    obtain ⟨rfl, rfl, rfl⟩ := hcs
    simp at hmm
    subst hmm
    have hd := (Prod.mk.inj hx).1
    have hb : len * 32 ≤ 140737488351232 := by
      have := hwt ((len + (m - len)) * Try.prog.bytesOf 33) (by
        rw [hd]
        simp [DataW.weights, Try.underlying22])
      rw [bytesStep] at this
      simp only [reachBytes] at this
      omega
    have each : ∀ i, i < len → ∃ kd on x' y', isW x' ∧ isW y' ∧ W.cells? 0 (x.add (i * 4)) 4 = some [.int .i64 kd, .int .i64 on, .int .u64 x', .int .u64 y'] := fun i hi => by
      obtain ⟨cs', h1, h2⟩ := hcell i (by omega)
      rw [cellsStep] at h1
      obtain ⟨_, hlen, _⟩ := World.cells?_some h1
      obtain ⟨kd, on, x', y', rfl, ho, ho2⟩ := open_step4 h2 hlen
      exact ⟨kd, on, x', y', ho, ho2, h1⟩
    refine ⟨some x, len, _, rfl, fun k hk => ?_, hb⟩
    obtain ⟨kd, on, x', y', ho, ho2, h1⟩ := each k hk
    obtain ⟨_, _, hc⟩ := World.cells?_some h1
    have hsp : x.spot = none := by
      obtain ⟨_, _, _, _, _, _, h10⟩ := each 0 (by omega)
      obtain ⟨_, _, hc0⟩ := World.cells?_some h10
      have := hc0 0 (by omega)
      simp [Addr.add] at this
      exact cell_spot this
    obtain ⟨xb, xo, xs⟩ := x
    cases hsp
    have e := fun (j : Nat) (hj : j < 4) => (congrArg W.cell? (show (⟨xb, xo + k * 4 + j, none⟩ : Addr) = ((⟨xb, xo, none⟩ : Addr).add (k * 4)).add j by rw [addr_add, addr_add])).trans (hc j hj)
    exact ⟨xb, xo, rfl, kd, on, x', y', ho, ho2, e 0 (by omega), e 1 (by omega), e 2 (by omega), e 3 (by omega)⟩
end

end Go.Proofs.Ytalopkllldnipaa
