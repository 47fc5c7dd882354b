
/- How a history that comes in reads. No statement of the seat is proved here. -/
import Derived.Test.YtjaldfmdjnkoeaaDoorEvU
import Derived.Deep.SlicePairs
namespace Go.Proofs.YtjaldfmdjnkoeaaDoor
open Go.ChangeShapes Go.WideShapes Go.ChangeAt Go.RowKit Go.Shelf

theorem wf_i64 {a : Int} (h : (Lit.int .i64 a).wf = true) : -9223372036854775808 ≤ a ∧ a < 9223372036854775808 := by
  simp [Lit.wf, IntKind.min, IntKind.max, IntKind.signed, IntKind.bits] at h; omega
theorem wf_u64 {a : Int} (h : (Lit.int .u64 a).wf = true) : 0 ≤ a ∧ a < 18446744073709551616 := by
  simp [Lit.wf, IntKind.min, IntKind.max, IntKind.signed, IntKind.bits] at h; omega
theorem laidOut : laidOutB Tryd.prog = true := by kernel_rfl
theorem cellsE : Tryd.prog.cellsOf 44 = 6 := by kernel_rfl
theorem cellsK : Tryd.prog.cellsOf 40 = 1 := by kernel_rfl
theorem cellsEr : Tryd.prog.cellsOf 25 = 1 := by kernel_rfl
theorem cellsN : Tryd.prog.cellsOf 3 = 1 := by kernel_rfl
theorem bytesE : Tryd.prog.bytesOf 44 = 48 := by kernel_rfl

section
variable {H : Type} {enc : TypeId × Value → H} {W : World}
set_option maxRecDepth 100000 in
theorem open_ev6 {fuel : Nat} {cs : List Value} {x : DataW H × List MemPlace} (h : DataW.trod enc Tryd.prog W 0 (fun _ => true) true fuel 44 cs = some x) (hlen : cs.length = 6) :
    ∃ e : Ev, cs = e.cl ∧ e.wf := by
  obtain ⟨xs, k, hk, hxy, _, hxl, hf⟩ := DataW.trod_struct Tryd.underlying44 h
  match xs, hxl, cs, hlen with
  | [y0, y1, y2, y3, y4, y5], _, [v0, v1, v2, v3, v4, v5], _ =>
    have g0 := hf 0 _ rfl
    have g1 := hf 1 _ rfl
    have g2 := hf 2 _ rfl
    have g3 := hf 3 _ rfl
    have g4 := hf 4 _ rfl
    have g5 := hf 5 _ rfl
    simp [cellsN, cellsU, cellsK, cellsBl, cellsEr] at g0 g1 g2 g3 g4 g5
    obtain ⟨n0, e0, _, w0⟩ := DataW.trod_int Tryd.underlying3 g0
    obtain ⟨n1, e1, _, w1⟩ := DataW.trod_int Tryd.underlying40 g1
    obtain ⟨n2, e2, _, w2⟩ := DataW.trod_int Tryd.underlying39 g2
    obtain ⟨n3, e3, _, w3⟩ := DataW.trod_int Tryd.underlying39 g3
    obtain ⟨n4, e4, _⟩ := DataW.trod_bool Tryd.underlying4 g4
    obtain ⟨n5, e5, _, w5⟩ := DataW.trod_int Tryd.underlying25 g5
    simp at e0 e1 e2 e3 e4 e5
    subst e0 e1 e2 e3 e4 e5
    exact ⟨⟨n0, n1, n2, n3, n4, n5⟩, rfl, wf_i64 w0, wf_i64 w1, wf_u64 w2, wf_u64 w3, wf_i64 w5⟩
theorem cell_spot {w : World} {a : Addr} {v : Value} (h : w.cell? a = some v) : a.spot = none := by
  unfold World.cell? at h
  split at h
  · cases hs : a.spot with
    | none => rfl
    | some _ => simp [hs] at h
  · simp at h
theorem choose_list {P : Nat → Ev → Prop} : ∀ n, (∀ k, k < n → ∃ i, P k i) → ∃ L : List Ev, L.length = n ∧ ∀ k (hk : k < L.length), P k (L[k])
  | 0, _ => ⟨[], rfl, fun k hk => by simp at hk⟩
  | n + 1, h => by
    obtain ⟨L, hl, hL⟩ := choose_list n (fun k hk => h k (by omega))
    obtain ⟨i, hi⟩ := h n (by omega)
    refine ⟨L ++ [i], by simp [hl], fun k hk => ?_⟩
    by_cases hkl : k < L.length
    · rw [List.getElem_append_left hkl]; exact hL k hkl
    · obtain rfl : k = L.length := by simp at hk; omega
      rw [List.getElem_append_right (Nat.le_refl _)]
      simp only [Nat.sub_self, List.getElem_cons_zero]
      rw [hl]; exact hi
set_option maxRecDepth 100000 in
theorem open_evl {v : Value} {d : DataW H} {ps : List MemPlace} {base : Nat} (hok : Value.okWide Tryd.prog W .any base 22 v) (h : DataW.Trod enc Tryd.prog W 0 (fun _ => true) true 22 v d ps) :
    ∃ L : List Ev, (ElsAt Ev.cl 6 W v L ∧ ∀ e ∈ L, e.wf) ∧ ((d = .nil ∧ L = []) ∨ ∃ elems spare, d = .slice elems spare ∧ elems.length = L.length) := by
  obtain ⟨a, len, cap, rfl⟩ := okWide_slice Tryd.underlying22 hok
  obtain ⟨fuel, hf⟩ := h
  rcases Deep.open_slice Tryd.underlying22 hf with ⟨hcs, hx⟩ | ⟨x, l, c, m, n, D, Pl, hcs, _, hl, hm, hmm, hx, hcell⟩
  · simp [Value.cells] at hcs
    obtain ⟨rfl, rfl, rfl⟩ := hcs
    exact ⟨[], ⟨⟨none, 0, rfl, Nat.le_refl _, fun k hk => absurd hk (by simp)⟩, by simp⟩, .inl ⟨(Prod.mk.inj hx).1, rfl⟩⟩
  · simp [Value.cells] at hcs
    obtain ⟨rfl, rfl, rfl⟩ := hcs
    simp at hmm
    subst hmm
    have hd := (Prod.mk.inj hx).1
    have key : ∀ k, k < len → ∃ e : Ev, e.wf ∧ ∃ g off, x = ⟨g, off, none⟩ ∧ ∀ f y, e.cl[f]? = some y → W.cell? ⟨g, off + k * 6 + f, none⟩ = some y := fun k hk => by
      obtain ⟨cs', h1, h2⟩ := hcell k (by omega)
      rw [cellsE] at h1
      obtain ⟨_, hlen, hc⟩ := World.cells?_some h1
      obtain ⟨s, rfl, hwf⟩ := open_ev6 h2 hlen
      have hsp : x.spot = none := by
        obtain ⟨cs0, h10, h20⟩ := hcell 0 (by omega)
        rw [cellsE] at h10
        obtain ⟨_, hlen0, hc0⟩ := World.cells?_some h10
        obtain ⟨s0, rfl, _⟩ := open_ev6 h20 hlen0
        have := hc0 0 (by omega)
        simp [Addr.add] at this
        exact cell_spot this
      obtain ⟨xb, xo, xs⟩ := x
      cases hsp
      refine ⟨s, hwf, xb, xo, rfl, fun f y hy => ?_⟩
      have hf6 : f < 6 := (List.getElem?_eq_some_iff.1 hy).1
      have e := (congrArg W.cell? (show (⟨xb, xo + k * 6 + f, none⟩ : Addr) = ((⟨xb, xo, none⟩ : Addr).add (k * 6)).add f by rw [addr_add, addr_add])).trans (hc f hf6)
      rw [e]
      obtain ⟨_, hy2⟩ := List.getElem?_eq_some_iff.1 hy
      first | rw [hy2] | rw [← hy]
    obtain ⟨L, hLl, hL⟩ := choose_list len key
    refine ⟨L, ⟨⟨some x, _, by rw [hLl], by omega, fun k hk => ?_⟩, ?_⟩, .inr ⟨_, _, hd, by simp [hLl]⟩⟩
    · obtain ⟨_, g, off, rfl, q⟩ := hL k hk
      exact ⟨g, off, rfl, q⟩
    · intro i hi
      obtain ⟨k, hk, rfl⟩ := List.getElem_of_mem hi
      exact (hL k hk).1
end
end Go.Proofs.YtjaldfmdjnkoeaaDoor
