/-
  No statement of the seat is proved here. (Several texts in one: DoorL, OpenL, OpenR.)
-/
import Derived.Test.YtbgnlenhncbceaaDoorCards
import Derived.Test.YtbgnlenhncbceaaDoorTie
import Derived.Test.YtbgnlenhncbceaaDoorWorks
import Derived.WalkKit
import Derived.ProofKit
import Derived.OpenShut
import Derived.Deep.DeepHandedRow
import Derived.Lib.LaidTab
import Derived.Test.YtbgnlenhncbceaaDoorWords
import Derived.SizedLaws
import Derived.Deep.SlicePairs
import Derived.Test.YtbgnlenhncbceaaDoorCells

/-
  What the seat's rows list: the library's table, in the world in which a call begins, and a world that holds it. No statement of the seat is proved here.
-/
namespace Go.Proofs.YtbgnlenhncbceaaDoor
open Go.ChangeShapes Go.WideShapes Go.ChangeAt Go.RowKit

theorem wf_i64 {a : Int} (h : (Lit.int .i64 a).wf = true) : -9223372036854775808 ≤ a ∧ a < 9223372036854775808 := by
  simp [Lit.wf, IntKind.min, IntKind.max, IntKind.signed, IntKind.bits] at h; omega
theorem wf_u64 {a : Int} (h : (Lit.int .u64 a).wf = true) : 0 ≤ a ∧ a < 18446744073709551616 := by
  simp [Lit.wf, IntKind.min, IntKind.max, IntKind.signed, IntKind.bits] at h; omega

theorem own : ownKnob Tryd.prog.godebug = none := by kernel_rfl
theorem gTab : Tryd.prog.globalNamed "math/bits.deBruijn64tab" = some 0 := by kernel_rfl
theorem gTabType : (Tryd.prog.globals[0]?).map (·.type) = some 122 := by kernel_rfl
theorem cellsTab : Tryd.prog.cellsOf 122 = 64 := by kernel_rfl
theorem cells5 : Tryd.prog.cellsOf 5 = 1 := by kernel_rfl

/-- What a row's list gives: the table stands where TrailingZeros64 reads it. -/
theorem tz_of {W : World} (h : laidMetH Tryd.prog [("math/bits.deBruijn64tab", Rows.laid_math_bits_deBruijn64tab)] W) : Tz W := by
  have ht : Lib.TabIs Tryd.prog W "math/bits.deBruijn64tab" .u8 tzTab := Lib.tabIs_of_head (rest := []) gTab gTabType Tryd.underlying122 Tryd.underlying5 cells5 cellsTab h
  intro i hi
  have := ht.cell gTab i (by exact hi)
  rw [this]
  simp [show i < tzTab.length from hi]

/-- A world for the witness: the settled one, the table holding what its initialiser lays. -/
noncomputable def laidWorld (os : Os) : World :=
  { World.holding Tryd.prog os ⟨#[], #[], []⟩ with heap := (World.holding Tryd.prog os ⟨#[], #[], []⟩).heap.modify 0 fun
      | .cells _ t frozen => .cells (tzTab.map fun z => Value.int .u8 z).toArray t frozen
      | o => o }
end Go.Proofs.YtbgnlenhncbceaaDoor


/-
  How the laws' arguments read: a slice of words. No statement of the seat is proved here.
-/
namespace Go.Proofs.YtbgnlenhncbceaaDoor
open Go.ChangeShapes Go.WideShapes Go.ChangeAt Go.RowKit

theorem laidOut : laidOutB Tryd.prog = true := by kernel_rfl
theorem cellsU : Tryd.prog.cellsOf 38 = 1 := by kernel_rfl
theorem bytesU : Tryd.prog.bytesOf 38 = 8 := by kernel_rfl

set_option maxRecDepth 100000 in
/-- A slice of words that came in. -/
theorem open_words {H : Type} {enc : TypeId × Value → H} {W : World} {v : Value} {d : DataW H} {ps : List MemPlace} {base : Nat} (hok : Value.okWide Tryd.prog W .any base 39 v) (h : DataW.Trod enc Tryd.prog W 0 (fun _ => true) true 39 v d ps) :
    ∃ ws : List Int, Lies W v ws ∧ (∀ x, x ∈ ws → (Lit.int .u64 x).wf = true) ∧ ((d = .nil ∧ ws = []) ∨ ∃ elems spare, d = .slice elems spare ∧ elems.length = ws.length) := by
  obtain ⟨a, len, cap, rfl⟩ := okWide_slice Tryd.underlying39 hok
  obtain ⟨fuel, hf⟩ := h
  rcases open_ints Tryd.underlying39 Tryd.underlying38 cellsU hf with ⟨hcs, hx⟩ | ⟨x, l, c, zs, hcs, _, hl, hm, hz, hx, hcell, hwz⟩
  · simp [Value.cells] at hcs
    obtain ⟨rfl, rfl, rfl⟩ := hcs
    exact ⟨[], ⟨none, 0, rfl, fun i hi => absurd hi (by simp)⟩, fun x hx => by simp at hx, .inl ⟨(Prod.mk.inj hx).1, rfl⟩⟩
  · simp [Value.cells] at hcs
    obtain ⟨rfl, rfl, rfl⟩ := hcs
    simp at hz
    have hlen : (zs.take len).length = len := by simp; omega
    refine ⟨zs.take len, ?_, fun n hn => hwz n (List.mem_of_mem_take hn), .inr ⟨_, _, (Prod.mk.inj hx).1, by simp [lits]⟩⟩
    refine ⟨some x, cap, by rw [hlen], fun i hi => ?_⟩
    have hi' : i < len := by omega
    have hc := hcell i (by omega)
    have hsp : x.spot = none := by
      have := hcell 0 (by omega)
      simp [Addr.add] at this
      unfold World.cell? at this
      split at this
      · cases hs : x.spot with
        | none => rfl
        | some _ => simp [hs] at this
      · simp at this
    obtain ⟨xb, xo, xs⟩ := x
    cases hsp
    rw [addr_add] at hc
    refine ⟨xb, xo, rfl, ?_⟩
    rw [hc, List.getD_eq_getElem?_getD]
    unfold oat
    rw [List.getElem?_take_of_lt hi']

theorem cellsC : Tryd.prog.cellsOf 72 = 2 := by kernel_rfl
theorem bytesC : Tryd.prog.bytesOf 72 = 16 := by kernel_rfl
set_option maxRecDepth 100000 in
/-- A slice of addresses with words that came in. -/
theorem open_pairs {H : Type} {enc : TypeId × Value → H} {W : World} {v : Value} {d : DataW H} {ps : List MemPlace} {base : Nat} (hok : Value.okWide Tryd.prog W .any base 29 v) (h : DataW.Trod enc Tryd.prog W 0 (fun _ => true) true 29 v d ps) :
    ∃ cs : List (Int × Int), Pairs W v cs ∧ (∀ x ∈ cs, (0 ≤ x.1 ∧ x.1 < 18446744073709551616) ∧ 0 ≤ x.2 ∧ x.2 < 18446744073709551616) ∧ ((d = .nil ∧ cs = []) ∨ ∃ elems spare, d = .slice elems spare ∧ elems.length = cs.length) := by
  obtain ⟨a, len, cap, rfl⟩ := okWide_slice Tryd.underlying29 hok
  obtain ⟨fuel, hf⟩ := h
  rcases Deep.open_slice_pairs Tryd.underlying29 Tryd.underlying72 cellsC rfl rfl cellsU cellsU hf with ⟨hcs, hx⟩ | ⟨x, l, c, m, n, V0, V1, D0, D1, P0, P1, hcs, _, hl, hm, hmm, hx, hcell⟩
  · simp [Value.cells] at hcs
    obtain ⟨rfl, rfl, rfl⟩ := hcs
    exact ⟨[], ⟨none, 0, rfl, fun i hi => by simp at hi⟩, fun x hx => by simp at hx, .inl ⟨(Prod.mk.inj hx).1, rfl⟩⟩
  · simp [Value.cells] at hcs
    obtain ⟨rfl, rfl, rfl⟩ := hcs
    simp at hmm
    subst hmm
    have each : ∀ i, i < len → ∃ q : Int × Int, (V0 i = .int .u64 q.1 ∧ (0 ≤ q.1 ∧ q.1 < 18446744073709551616)) ∧ V1 i = .int .u64 q.2 ∧ 0 ≤ q.2 ∧ q.2 < 18446744073709551616 := fun i hi => by
      obtain ⟨_, _, h3, h4⟩ := hcell i (by omega)
      obtain ⟨n0, e0, _, w0⟩ := DataW.trod_int Tryd.underlying38 h3
      obtain ⟨n1, e1, _, w1⟩ := DataW.trod_int Tryd.underlying38 h4
      simp at e0 e1
      exact ⟨(n0, n1), ⟨e0, wf_u64 w0⟩, e1, wf_u64 w1⟩
    obtain ⟨q, hq⟩ := Deep.choose_lt each
    have hlen : ((List.range len).map q).length = len := by simp
    refine ⟨(List.range len).map q, ⟨some x, _, by rw [hlen], fun i hi => ?_⟩, fun y hy => ?_, .inr ⟨_, _, (Prod.mk.inj hx).1, by simp⟩⟩
    · have hi' : i < len := by simpa using hi
      have hsp : x.spot = none := by
        have := (hcell 0 (by omega)).1
        simp [Addr.add] at this
        unfold World.cell? at this
        split at this
        · cases hs : x.spot with
          | none => rfl
          | some _ => simp [hs] at this
        · simp at this
      obtain ⟨xb, xo, xs⟩ := x
      cases hsp
      obtain ⟨h1, h2, _, _⟩ := hcell i (by omega)
      obtain ⟨⟨g1, _⟩, g2, _⟩ := hq i hi'
      rw [addr_add, g1] at h1
      rw [addr_add, g2] at h2
      refine ⟨xb, xo, (q i).1, (q i).2, rfl, by simp [hi'], h1, ?_⟩
      simpa [Nat.add_assoc] using h2
    · obtain ⟨i, hi, rfl⟩ := List.mem_map.1 hy
      obtain ⟨⟨_, g1⟩, _, g2⟩ := hq i (List.mem_range.1 hi)
      exact ⟨g1, g2⟩
end Go.Proofs.YtbgnlenhncbceaaDoor


/-
  How a script of calls reads: a slice of Ops, each with words of its own. No statement of the seat is proved here.
-/
namespace Go.Proofs.YtbgnlenhncbceaaDoor
open Go.ChangeShapes Go.WideShapes Go.ChangeAt Go.RowKit

theorem cellsOp : Tryd.prog.cellsOf 41 = 6 := by kernel_rfl
theorem cellsI : Tryd.prog.cellsOf 3 = 1 := by kernel_rfl
theorem cellsSl : Tryd.prog.cellsOf 39 = 1 := by kernel_rfl
theorem bytesOp : Tryd.prog.bytesOf 41 = 64 := by kernel_rfl

/-- A call as it lies. -/
structure OpD where
  kd : Int
  on : Int
  ad : Int
  wd : Int
  n : Int
  ac : Option Addr
  cc : Nat
  cs : List Int
def OpD.Good (W : World) (o : OpD) : Prop := 0 ≤ o.ad ∧ Lies W (.slice o.ac o.cs.length o.cc) o.cs ∧ o.cs.length * 8 ≤ 140737488351232
/-- Calls as they lie. -/
def OpsAt (W : World) (a : Option Addr) (n : Nat) : Prop := ∀ k, k < n → ∃ g off, a = some ⟨g, off, none⟩ ∧ ∃ o : OpD, o.Good W ∧ W.cell? ⟨g, off + k * 6, none⟩ = some (.int .i64 o.kd) ∧ W.cell? ⟨g, off + k * 6 + 1, none⟩ = some (.int .i64 o.on) ∧ W.cell? ⟨g, off + k * 6 + 2, none⟩ = some (.int .u64 o.ad) ∧
  W.cell? ⟨g, off + k * 6 + 3, none⟩ = some (.int .u64 o.wd) ∧ W.cell? ⟨g, off + k * 6 + 4, none⟩ = some (.int .i64 o.n) ∧ W.cell? ⟨g, off + k * 6 + 5, none⟩ = some (.slice o.ac o.cs.length o.cc)

section
variable {H : Type} {enc : TypeId × Value → H} {W : World}
theorem cell_spot {w : World} {a : Addr} {v : Value} (h : w.cell? a = some v) : a.spot = none := by
  unfold World.cell? at h
  split at h
  · cases hs : a.spot with
    | none => rfl
    | some _ => simp [hs] at h
  · simp at h
theorem wf_u64' {n : Int} (h : (Lit.int .u64 n).wf = true) : 0 ≤ n ∧ n ≤ 18446744073709551615 := by
  simpa [Lit.wf, IntKind.min, IntKind.max, IntKind.signed, IntKind.bits] using h
theorem open_words_cells {fuel : Nat} {v : Value} {x : DataW H × List MemPlace} (hf : DataW.trod enc Tryd.prog W 0 (fun _ => true) true fuel 39 [v] = some x) :
    ∃ ac cc cs, v = .slice ac cs.length cc ∧ Lies W v cs ∧ ((x.1 = .nil ∧ cs = []) ∨ ∃ elems spare, x.1 = .slice elems spare ∧ elems.length = cs.length) := by
  rcases open_ints Tryd.underlying39 Tryd.underlying38 cellsU hf with ⟨hcs, hx⟩ | ⟨a, l, c, zs, hcs, _, hl, hm, hz, hx, hcell, hwz⟩
  · simp at hcs
    subst hcs
    exact ⟨none, 0, [], rfl, ⟨none, 0, rfl, fun i hi => by simp at hi⟩, .inl ⟨by rw [hx], rfl⟩⟩
  · simp at hcs
    subst hcs
    simp at hz
    have hlen : (zs.take l).length = l := by simp; omega
    refine ⟨some a, c, zs.take l, by rw [hlen], ⟨some a, c, by rw [hlen], fun i hi => ?_⟩, .inr ⟨_, _, by rw [hx], by simp [lits]⟩⟩
    have hi' : i < l := by simp at hi; omega
    have hc := hcell i (by omega)
    have hsp : a.spot = none := by
      have h0 := hcell 0 (by omega)
      simp [Addr.add] at h0
      exact cell_spot h0
    obtain ⟨ab, ao, sp⟩ := a
    cases hsp
    refine ⟨ab, ao, rfl, ?_⟩
    rw [addr_add] at hc
    rw [hc]
    simp [oat, List.getElem?_take_of_lt hi', List.getD_eq_getElem?_getD]

theorem weights_mem_all {P : Program} {e : TypeId} : ∀ {ds : List (DataW H)} {d : DataW H}, d ∈ ds → ∀ n ∈ d.weights P e, n ∈ DataW.weightsAll P e ds
  | d0 :: ds, d, hd, n, hn => by
    simp only [DataW.weightsAll, List.mem_append]
    rcases List.mem_cons.1 hd with rfl | hd
    · exact .inl hn
    · exact .inr (weights_mem_all hd n hn)
  | [], d, hd, _, _ => by simp at hd

set_option maxRecDepth 100000 in
/-- One call. -/
theorem open_op {fuel : Nat} {cs : List Value} {d : DataW H} {ps : List MemPlace} (h : DataW.trod enc Tryd.prog W 0 (fun _ => true) true fuel 41 cs = some (d, ps)) (hlen : cs.length = 6) (hwt : ∀ N ∈ d.weights Tryd.prog 41, N ≤ reachBytes) :
    ∃ o : OpD, cs = [.int .i64 o.kd, .int .i64 o.on, .int .u64 o.ad, .int .u64 o.wd, .int .i64 o.n, .slice o.ac o.cs.length o.cc] ∧ o.Good W := by
  obtain ⟨xs, k, hk, hxy, _, hxl, hf⟩ := DataW.trod_struct Tryd.underlying41 h
  match xs, hxl, cs, hlen with
  | [y0, y1, y2, y3, y4, y5], _, [v0, v1, v2, v3, v4, v5], _ =>
    have g0 := hf 0 _ rfl
    have g1 := hf 1 _ rfl
    have g2 := hf 2 _ rfl
    have g3 := hf 3 _ rfl
    have g4 := hf 4 _ rfl
    have g5 := hf 5 _ rfl
    simp [cellsI, cellsU, cellsSl] at g0 g1 g2 g3 g4 g5
    obtain ⟨n0, e0, _, _⟩ := DataW.trod_int Tryd.underlying3 g0
    obtain ⟨n1, e1, _, _⟩ := DataW.trod_int Tryd.underlying3 g1
    obtain ⟨n2, e2, _, b2⟩ := DataW.trod_int Tryd.underlying38 g2
    obtain ⟨n3, e3, _, _⟩ := DataW.trod_int Tryd.underlying38 g3
    obtain ⟨n4, e4, _, _⟩ := DataW.trod_int Tryd.underlying3 g4
    obtain ⟨ac, cc, us, e5, hr, hd⟩ := open_words_cells g5
    simp at e0 e1 e2 e3 e4
    subst e0 e1 e2 e3 e4 e5
    refine ⟨⟨n0, n1, n2, n3, n4, ac, cc, us⟩, rfl, (wf_u64' b2).1, hr, ?_⟩
    show us.length * 8 ≤ 140737488351232
    rcases hd with ⟨_, rfl⟩ | ⟨elems, spare, he, hl⟩
    · simp
    · simp only [Prod.mk.injEq] at hxy
      have hN : (elems.length + spare.length) * Tryd.prog.bytesOf 38 ∈ d.weights Tryd.prog 41 := by
        rw [hxy.1]
        simp only [DataW.weights, Tryd.underlying41]
        refine DataW.weights_mem_each (j := 5) (t := 39) (d := .slice elems spare) rfl (by simp [he]) _ ?_
        simp [DataW.weights, Tryd.underlying39]
      have := hwt _ hN
      rw [bytesU] at this
      simp only [reachBytes] at this
      omega

set_option maxRecDepth 100000 in
/-- The script. -/
theorem open_ops {v : Value} {d : DataW H} {ps : List MemPlace} {base : Nat} (hok : Value.okWide Tryd.prog W .any base 22 v) (h : DataW.Trod enc Tryd.prog W 0 (fun _ => true) true 22 v d ps) (hwt : ∀ N ∈ d.weights Tryd.prog 22, N ≤ reachBytes) :
    ∃ a n c, v = .slice a n c ∧ OpsAt W a n ∧ n * 64 ≤ 140737488351232 := by
  obtain ⟨a, len, cap, rfl⟩ := okWide_slice Tryd.underlying22 hok
  obtain ⟨fuel, hf⟩ := h
  rcases Deep.open_slice Tryd.underlying22 hf with ⟨hcs, hx⟩ | ⟨x, l, c, m, n, D, Pl, hcs, _, hl, hm, hmm, hx, hcell⟩
  · simp [Value.cells] at hcs
    obtain ⟨rfl, rfl, rfl⟩ := hcs
    exact ⟨none, 0, 0, rfl, fun k hk => absurd hk (by omega), by omega⟩
  · simp [Value.cells] at hcs
    obtain ⟨rfl, rfl, rfl⟩ := hcs
    simp at hmm
    subst hmm
    have hd := (Prod.mk.inj hx).1
    have hb : len * 64 ≤ 140737488351232 := by
      have := hwt ((len + (m - len)) * Tryd.prog.bytesOf 41) (by
        rw [hd]
        simp [DataW.weights, Tryd.underlying22])
      rw [bytesOp] at this
      simp only [reachBytes] at this
      omega
    have each : ∀ i, i < len → ∃ o : OpD, o.Good W ∧ W.cells? 0 (x.add (i * 6)) 6 = some [.int .i64 o.kd, .int .i64 o.on, .int .u64 o.ad, .int .u64 o.wd, .int .i64 o.n, .slice o.ac o.cs.length o.cc] := fun i hi => by
      obtain ⟨cs', h1, h2⟩ := hcell i (by omega)
      rw [cellsOp] at h1
      obtain ⟨_, hlen, _⟩ := World.cells?_some h1
      obtain ⟨o, rfl, ho⟩ := open_op h2 hlen (fun N hN => hwt N (by
        rw [hd]
        simp only [DataW.weights, Tryd.underlying22, List.mem_cons, List.mem_append]
        exact .inr (.inl (weights_mem_all (List.mem_map.2 ⟨i, List.mem_range.2 hi, rfl⟩) N hN))))
      exact ⟨o, ho, h1⟩
    refine ⟨some x, len, _, rfl, fun k hk => ?_, hb⟩
    obtain ⟨o, ho, h1⟩ := each k hk
    obtain ⟨_, _, hc⟩ := World.cells?_some h1
    have hsp : x.spot = none := by
      obtain ⟨o0, _, h10⟩ := each 0 (by omega)
      obtain ⟨_, _, hc0⟩ := World.cells?_some h10
      have := hc0 0 (by omega)
      simp [Addr.add] at this
      exact cell_spot this
    obtain ⟨xb, xo, xs⟩ := x
    cases hsp
    have e := fun (j : Nat) (hj : j < 6) => (congrArg W.cell? (show (⟨xb, xo + k * 6 + j, none⟩ : Addr) = ((⟨xb, xo, none⟩ : Addr).add (k * 6)).add j by rw [addr_add, addr_add])).trans (hc j hj)
    exact ⟨xb, xo, rfl, o, ho, e 0 (by omega), e 1 (by omega), e 2 (by omega), e 3 (by omega), e 4 (by omega), e 5 (by omega)⟩
end
end Go.Proofs.YtbgnlenhncbceaaDoor
