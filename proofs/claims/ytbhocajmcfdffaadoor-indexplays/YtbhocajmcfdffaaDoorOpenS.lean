/-
  How the script of IndexPlays reads: a slice of steps. No statement of the seat is proved here.
-/
import Derived.Test.YtbhocajmcfdffaaDoorOpen
import Derived.Deep.SlicePairs
namespace Go.Proofs.YtbhocajmcfdffaaDoor
open Go.ChangeShapes Go.WideShapes Go.ChangeAt Go.RowKit

theorem cellsS : Tryd.prog.cellsOf 31 = 6 := by kernel_rfl
theorem cellsN : Tryd.prog.cellsOf 3 = 1 := by kernel_rfl

/-- A step as it lies. -/
structure StepD where
  kd : Int
  who : Int
  to : Int
  lv : Int
  ky : Int
  vl : Int
/-- Steps as they lie. -/
def StepsAt (W : World) (a : Option Addr) (n : Nat) : Prop := ∀ k, k < n → ∃ g off, a = some ⟨g, off, none⟩ ∧ ∃ s : StepD, W.cell? ⟨g, off + k * 6, none⟩ = some (.int .i64 s.kd) ∧ W.cell? ⟨g, off + k * 6 + 1, none⟩ = some (.int .i64 s.who) ∧ W.cell? ⟨g, off + k * 6 + 2, none⟩ = some (.int .i64 s.to) ∧
  W.cell? ⟨g, off + k * 6 + 3, none⟩ = some (.int .i64 s.lv) ∧ W.cell? ⟨g, off + k * 6 + 4, none⟩ = some (.int .u64 s.ky) ∧ W.cell? ⟨g, off + k * 6 + 5, none⟩ = some (.int .u64 s.vl)

section
variable {H : Type} {enc : TypeId × Value → H} {W : World}
set_option maxRecDepth 100000 in
theorem open_step {fuel : Nat} {cs : List Value} {x : DataW H × List MemPlace} (h : DataW.trod enc Tryd.prog W 0 (fun _ => true) true fuel 31 cs = some x) (hlen : cs.length = 6) :
    ∃ s : StepD, cs = [.int .i64 s.kd, .int .i64 s.who, .int .i64 s.to, .int .i64 s.lv, .int .u64 s.ky, .int .u64 s.vl] := by
  obtain ⟨xs, k, hk, hxy, _, hxl, hf⟩ := DataW.trod_struct Tryd.underlying31 h
  match xs, hxl, cs, hlen with
  | [y0, y1, y2, y3, y4, y5], _, [v0, v1, v2, v3, v4, v5], _ =>
    have g0 := hf 0 _ rfl
    have g1 := hf 1 _ rfl
    have g2 := hf 2 _ rfl
    have g3 := hf 3 _ rfl
    have g4 := hf 4 _ rfl
    have g5 := hf 5 _ rfl
    simp [cellsN, cellsU] at g0 g1 g2 g3 g4 g5
    obtain ⟨n0, e0, _, _⟩ := DataW.trod_int Tryd.underlying3 g0
    obtain ⟨n1, e1, _, _⟩ := DataW.trod_int Tryd.underlying3 g1
    obtain ⟨n2, e2, _, _⟩ := DataW.trod_int Tryd.underlying3 g2
    obtain ⟨n3, e3, _, _⟩ := DataW.trod_int Tryd.underlying3 g3
    obtain ⟨n4, e4, _, _⟩ := DataW.trod_int Tryd.underlying25 g4
    obtain ⟨n5, e5, _, _⟩ := DataW.trod_int Tryd.underlying25 g5
    simp at e0 e1 e2 e3 e4 e5
    subst e0 e1 e2 e3 e4 e5
    exact ⟨⟨n0, n1, n2, n3, n4, n5⟩, rfl⟩
theorem cell_spot {w : World} {a : Addr} {v : Value} (h : w.cell? a = some v) : a.spot = none := by
  unfold World.cell? at h
  split at h
  · cases hs : a.spot with
    | none => rfl
    | some _ => simp [hs] at h
  · simp at h

set_option maxRecDepth 100000 in
theorem open_steps {v : Value} {d : DataW H} {ps : List MemPlace} {base : Nat} (hok : Value.okWide Tryd.prog W .any base 22 v) (h : DataW.Trod enc Tryd.prog W 0 (fun _ => true) true 22 v d ps) :
    ∃ a n c, v = .slice a n c ∧ StepsAt W a n ∧ ((d = .nil ∧ n = 0) ∨ ∃ elems spare, d = .slice elems spare ∧ elems.length = n) := by
  obtain ⟨a, len, cap, rfl⟩ := okWide_slice Tryd.underlying22 hok
  obtain ⟨fuel, hf⟩ := h
  rcases Deep.open_slice Tryd.underlying22 hf with ⟨hcs, hx⟩ | ⟨x, l, c, m, n, D, Pl, hcs, _, hl, hm, hmm, hx, hcell⟩
  · simp [Value.cells] at hcs
    obtain ⟨rfl, rfl, rfl⟩ := hcs
    exact ⟨none, 0, 0, rfl, fun k hk => absurd hk (by omega), .inl ⟨(Prod.mk.inj hx).1, rfl⟩⟩
  · simp [Value.cells] at hcs
    obtain ⟨rfl, rfl, rfl⟩ := hcs
    simp at hmm
    subst hmm
    have hd := (Prod.mk.inj hx).1
    refine ⟨some x, len, _, rfl, fun k hk => ?_, .inr ⟨_, _, hd, by simp⟩⟩
    obtain ⟨cs', h1, h2⟩ := hcell k (by omega)
    rw [cellsS] at h1
    obtain ⟨_, hlen, hc⟩ := World.cells?_some h1
    obtain ⟨s, rfl⟩ := open_step h2 hlen
    have hsp : x.spot = none := by
      obtain ⟨cs0, h10, h20⟩ := hcell 0 (by omega)
      rw [cellsS] at h10
      obtain ⟨_, hlen0, hc0⟩ := World.cells?_some h10
      obtain ⟨s0, rfl⟩ := open_step h20 hlen0
      have := hc0 0 (by omega)
      simp [Addr.add] at this
      exact cell_spot this
    obtain ⟨xb, xo, xs⟩ := x
    cases hsp
    have e := fun (j : Nat) (hj : j < 6) => (congrArg W.cell? (show (⟨xb, xo + k * 6 + j, none⟩ : Addr) = ((⟨xb, xo, none⟩ : Addr).add (k * 6)).add j by rw [addr_add, addr_add])).trans (hc j hj)
    exact ⟨xb, xo, rfl, s, e 0 (by omega), e 1 (by omega), e 2 (by omega), e 3 (by omega), e 4 (by omega), e 5 (by omega)⟩
end
theorem StepsAt.below {w w' : World} {a : Option Addr} {n : Nat} (h : StepsAt w a n) (hb : Below w.heap.size w w') : StepsAt w' a n := fun k hk => by
  obtain ⟨g, off, ha, s, h0, h1, h2, h3, h4, h5⟩ := h k hk
  have e : ∀ j v, w.cell? ⟨g, j, none⟩ = some v → w'.cell? ⟨g, j, none⟩ = some v := fun j v hv => (hb.cell (p := ⟨g, j, none⟩) (World.block_lt_of_cell? _ _ hv)).trans hv
  exact ⟨g, off, ha, s, e _ _ h0, e _ _ h1, e _ _ h2, e _ _ h3, e _ _ h4, e _ _ h5⟩
end Go.Proofs.YtbhocajmcfdffaaDoor
