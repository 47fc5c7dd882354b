
/- How instructions and bytes that come in read; what CodeTexts' row lists. No statement of the seat is proved here. -/
import Derived.Test.YtkkmkfldldglgaaGreatDoorAsV
import Derived.Deep.SlicePairs
namespace Go.Proofs.YtkkmkfldldglgaaGreatDoor
open Go.ChangeShapes Go.WideShapes Go.ChangeAt Go.RowKit Go.Shelf

theorem wf_i64 {a : Int} (h : (Lit.int .i64 a).wf = true) : -9223372036854775808 ≤ a ∧ a < 9223372036854775808 := by
  simp [Lit.wf, IntKind.min, IntKind.max, IntKind.signed, IntKind.bits] at h; omega
theorem wf_u64 {a : Int} (h : (Lit.int .u64 a).wf = true) : 0 ≤ a ∧ a < 18446744073709551616 := by
  simp [Lit.wf, IntKind.min, IntKind.max, IntKind.signed, IntKind.bits] at h; omega
theorem wf_u8 {a : Int} (h : (Lit.int .u8 a).wf = true) : 0 ≤ a ∧ a < 256 := by
  simp [Lit.wf, IntKind.min, IntKind.max, IntKind.signed, IntKind.bits] at h; omega
theorem laidOut : laidOutB Tryz.prog = true := by kernel_rfl
theorem cellsI : Tryz.prog.cellsOf 37 = 5 := by kernel_rfl
theorem cellsO : Tryz.prog.cellsOf 34 = 1 := by kernel_rfl
theorem cellsN : Tryz.prog.cellsOf 3 = 1 := by kernel_rfl
theorem cellsB : Tryz.prog.cellsOf 5 = 1 := by kernel_rfl
theorem bytesI : Tryz.prog.bytesOf 37 = 40 := by kernel_rfl
theorem bytesB : Tryz.prog.bytesOf 5 = 1 := by kernel_rfl

section
variable {H : Type} {enc : TypeId × Value → H} {W : World}
set_option maxRecDepth 100000 in
theorem open_ins5 {fuel : Nat} {cs : List Value} {x : DataW H × List MemPlace} (h : DataW.trod enc Tryz.prog W 0 (fun _ => true) true fuel 37 cs = some x) (hlen : cs.length = 5) :
    ∃ i : I5, cs = [.int .i64 i.op, .int .i64 i.a, .int .i64 i.b, .int .i64 i.c, .int .u64 i.n] ∧ i.wf := by
  obtain ⟨xs, k, hk, hxy, _, hxl, hf⟩ := DataW.trod_struct Tryz.underlying37 h
  match xs, hxl, cs, hlen with
  | [y0, y1, y2, y3, y4], _, [v0, v1, v2, v3, v4], _ =>
    have g0 := hf 0 _ rfl
    have g1 := hf 1 _ rfl
    have g2 := hf 2 _ rfl
    have g3 := hf 3 _ rfl
    have g4 := hf 4 _ rfl
    simp [cellsN, cellsU, cellsO] at g0 g1 g2 g3 g4
    obtain ⟨n0, e0, _, w0⟩ := DataW.trod_int Tryz.underlying34 g0
    obtain ⟨n1, e1, _, w1⟩ := DataW.trod_int Tryz.underlying3 g1
    obtain ⟨n2, e2, _, w2⟩ := DataW.trod_int Tryz.underlying3 g2
    obtain ⟨n3, e3, _, w3⟩ := DataW.trod_int Tryz.underlying3 g3
    obtain ⟨n4, e4, _, w4⟩ := DataW.trod_int Tryz.underlying35 g4
    simp at e0 e1 e2 e3 e4
    subst e0 e1 e2 e3 e4
    exact ⟨⟨n0, n1, n2, n3, n4⟩, rfl, wf_i64 w0, wf_i64 w1, wf_i64 w2, wf_i64 w3, wf_u64 w4⟩
set_option maxRecDepth 100000 in
theorem open_ins {v : Value} {d : DataW H} {ps : List MemPlace} {base : Nat} (hok : Value.okWide Tryz.prog W .any base 37 v) (h : DataW.Trod enc Tryz.prog W 0 (fun _ => true) true 37 v d ps) :
    ∃ i : I5, v = .agg i.cells ∧ i.wf := by
  obtain ⟨cs, rfl, hs⟩ := okWide_struct Tryz.underlying37 hok
  obtain ⟨fuel, hf⟩ := h
  rw [cellsI] at hs
  obtain ⟨i, hi, hw⟩ := open_ins5 hf (by simpa [Value.cells] using hs)
  refine ⟨i, ?_, hw⟩
  simp [Value.cells] at hi
  rw [show cs = cs.toList.toArray by simp, hi]
theorem cell_spot {w : World} {a : Addr} {v : Value} (h : w.cell? a = some v) : a.spot = none := by
  unfold World.cell? at h
  split at h
  · cases hs : a.spot with
    | none => rfl
    | some _ => simp [hs] at h
  · simp at h
end

section
variable {H : Type} {enc : TypeId × Value → H} {W : World}
/-- Instructions as they lie, without the bound. -/
def InsLies (W : World) (v : Value) (L : List I5) : Prop := (∃ a cap, v = .slice a L.length cap ∧ ∀ k (hk : k < L.length), ∃ g off, a = some ⟨g, off, none⟩ ∧ W.cell? ⟨g, off + k * 5, none⟩ = some (.int .i64 (L[k]'hk).op) ∧ W.cell? ⟨g, off + k * 5 + 1, none⟩ = some (.int .i64 (L[k]'hk).a) ∧ W.cell? ⟨g, off + k * 5 + 2, none⟩ = some (.int .i64 (L[k]'hk).b) ∧ W.cell? ⟨g, off + k * 5 + 3, none⟩ = some (.int .i64 (L[k]'hk).c) ∧ W.cell? ⟨g, off + k * 5 + 4, none⟩ = some (.int .u64 (L[k]'hk).n)) ∧ ∀ i ∈ L, i.wf
theorem InsLies.at {v : Value} {L : List I5} (h : InsLies W v L) (hb : L.length * 40 ≤ 140737488355328) : InsAt W v L := ⟨h.1, h.2, hb⟩

theorem choose_list {P : Nat → I5 → Prop} : ∀ n, (∀ k, k < n → ∃ i, P k i) → ∃ L : List I5, L.length = n ∧ ∀ k (hk : k < L.length), P k (L[k])
  | 0, _ => ⟨[], rfl, fun k hk => by simp at hk⟩
  | n + 1, h => by
    obtain ⟨L, hl, hL⟩ := choose_list n (fun k hk => h k (by omega))
    obtain ⟨i, hi⟩ := h n (by omega)
    refine ⟨L ++ [i], by simp [hl], fun k hk => ?_⟩
    by_cases hkl : k < L.length
    · rw [List.getElem_append_left hkl]; exact hL k hkl
    · obtain rfl : k = L.length := by simp at hk; omega
      rw [List.getElem_append_right (Nat.le_refl _)]
      simp only [Nat.sub_self, List.getElem_cons_zero]
      rw [hl]; exact hi

set_option maxRecDepth 100000 in
theorem open_insl {v : Value} {d : DataW H} {ps : List MemPlace} {base : Nat} (hok : Value.okWide Tryz.prog W .any base 23 v) (h : DataW.Trod enc Tryz.prog W 0 (fun _ => true) true 23 v d ps) :
    ∃ L : List I5, InsLies W v L ∧ ((d = .nil ∧ L = []) ∨ ∃ elems spare, d = .slice elems spare ∧ elems.length = L.length) := by
  obtain ⟨a, len, cap, rfl⟩ := okWide_slice Tryz.underlying23 hok
  obtain ⟨fuel, hf⟩ := h
  rcases Deep.open_slice Tryz.underlying23 hf with ⟨hcs, hx⟩ | ⟨x, l, c, m, n, D, Pl, hcs, _, hl, hm, hmm, hx, hcell⟩
  · simp [Value.cells] at hcs
    obtain ⟨rfl, rfl, rfl⟩ := hcs
    exact ⟨[], ⟨⟨none, 0, rfl, fun k hk => absurd hk (by simp)⟩, by simp⟩, .inl ⟨(Prod.mk.inj hx).1, rfl⟩⟩
  · simp [Value.cells] at hcs
    obtain ⟨rfl, rfl, rfl⟩ := hcs
    simp at hmm
    subst hmm
    have hd := (Prod.mk.inj hx).1
    have key : ∀ k, k < len → ∃ i : I5, i.wf ∧ ∃ g off, x = ⟨g, off, none⟩ ∧ W.cell? ⟨g, off + k * 5, none⟩ = some (.int .i64 i.op) ∧ W.cell? ⟨g, off + k * 5 + 1, none⟩ = some (.int .i64 i.a) ∧ W.cell? ⟨g, off + k * 5 + 2, none⟩ = some (.int .i64 i.b) ∧ W.cell? ⟨g, off + k * 5 + 3, none⟩ = some (.int .i64 i.c) ∧ W.cell? ⟨g, off + k * 5 + 4, none⟩ = some (.int .u64 i.n) := fun k hk => by
      obtain ⟨cs', h1, h2⟩ := hcell k (by omega)
      rw [cellsI] at h1
      obtain ⟨_, hlen, hc⟩ := World.cells?_some h1
      obtain ⟨s, rfl, hwf⟩ := open_ins5 h2 hlen
      have hsp : x.spot = none := by
        obtain ⟨cs0, h10, h20⟩ := hcell 0 (by omega)
        rw [cellsI] at h10
        obtain ⟨_, hlen0, hc0⟩ := World.cells?_some h10
        obtain ⟨s0, rfl, _⟩ := open_ins5 h20 hlen0
        have := hc0 0 (by omega)
        simp [Addr.add] at this
        exact cell_spot this
      obtain ⟨xb, xo, xs⟩ := x
      cases hsp
      have e := fun (j : Nat) (hj : j < 5) => (congrArg W.cell? (show (⟨xb, xo + k * 5 + j, none⟩ : Addr) = ((⟨xb, xo, none⟩ : Addr).add (k * 5)).add j by rw [addr_add, addr_add])).trans (hc j hj)
      exact ⟨s, hwf, xb, xo, rfl, e 0 (by omega), e 1 (by omega), e 2 (by omega), e 3 (by omega), e 4 (by omega)⟩
    obtain ⟨L, hLl, hL⟩ := choose_list len key
    refine ⟨L, ⟨⟨some x, _, by rw [hLl], fun k hk => ?_⟩, ?_⟩, .inr ⟨_, _, hd, by simp [hLl]⟩⟩
    · obtain ⟨_, g, off, rfl, q⟩ := hL k hk
      exact ⟨g, off, rfl, q⟩
    · intro i hi
      obtain ⟨k, hk, rfl⟩ := List.getElem_of_mem hi
      exact (hL k hk).1
end
end Go.Proofs.YtkkmkfldldglgaaGreatDoor
