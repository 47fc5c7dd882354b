/-
  No statement of the seat is proved here. (Several texts in one: DoorL, Cells, OpenL.)
-/
import Derived.Test.YtmhinalgjfiliaaDoorCards
import Derived.Test.YtmhinalgjfiliaaDoorTie
import Derived.Test.YtmhinalgjfiliaaDoorWorks
import Derived.WalkKit
import Derived.ProofKit
import Derived.OpenShut
import Derived.Deep.DeepHandedRow
import Derived.Lib.LaidTab
import Derived.Test.YtmhinalgjfiliaaDoorEnt
import Derived.Test.YtmhinalgjfiliaaDoorWords
import Derived.SizedLaws
import Derived.Deep.SlicePairs

/-
  What the seat's rows list: the library's table, in the world in which a call begins, and a world that holds it. No statement of the seat is proved here.
-/
namespace Go.Proofs.YtmhinalgjfiliaaDoor
open Go.ChangeShapes Go.WideShapes Go.ChangeAt Go.RowKit

theorem wf_i64 {a : Int} (h : (Lit.int .i64 a).wf = true) : -9223372036854775808 ≤ a ∧ a < 9223372036854775808 := by
  simp [Lit.wf, IntKind.min, IntKind.max, IntKind.signed, IntKind.bits] at h; omega
theorem wf_u64 {a : Int} (h : (Lit.int .u64 a).wf = true) : 0 ≤ a ∧ a < 18446744073709551616 := by
  simp [Lit.wf, IntKind.min, IntKind.max, IntKind.signed, IntKind.bits] at h; omega

theorem own : ownKnob Tryd.prog.godebug = none := by kernel_rfl
theorem gTab : Tryd.prog.globalNamed "math/bits.deBruijn64tab" = some 0 := by kernel_rfl
theorem gTabType : (Tryd.prog.globals[0]?).map (·.type) = some 149 := by kernel_rfl
theorem cellsTab : Tryd.prog.cellsOf 149 = 64 := by kernel_rfl
theorem cells5 : Tryd.prog.cellsOf 5 = 1 := by kernel_rfl

/-- What a row's list gives: the table stands where TrailingZeros64 reads it. -/
theorem tz_of {W : World} (h : laidMetH Tryd.prog [("math/bits.deBruijn64tab", Rows.laid_math_bits_deBruijn64tab)] W) : Tz W := by
  have ht : Lib.TabIs Tryd.prog W "math/bits.deBruijn64tab" .u8 tzTab := Lib.tabIs_of_head (rest := []) gTab gTabType Tryd.underlying149 Tryd.underlying5 cells5 cellsTab h
  intro i hi
  have := ht.cell gTab i (by exact hi)
  rw [this]
  simp [show i < tzTab.length from hi]

/-- A world for the witness: the settled one, the table holding what its initialiser lays. -/
noncomputable def laidWorld (os : Os) : World :=
  { World.holding Tryd.prog os ⟨#[], #[], []⟩ with heap := (World.holding Tryd.prog os ⟨#[], #[], []⟩).heap.modify 0 fun
      | .cells _ t frozen => .cells (tzTab.map fun z => Value.int .u8 z).toArray t frozen
      | o => o }
end Go.Proofs.YtmhinalgjfiliaaDoor


/-
  Slices of entries that came in. No statement of the seat is proved here.
-/
namespace Go.Proofs.YtmhinalgjfiliaaDoor
open Go.RowKit Go.Shelf

/-- A slice that reads as these entries. -/
def Pairs (w : World) (v : Value) (cs : List (Int × Int)) : Prop := ∃ a c, v = .slice a cs.length c ∧ ∀ i, i < cs.length → ∃ g off x y, a = some ⟨g, off, none⟩ ∧ cs[i]? = some (x, y) ∧ w.cell? ⟨g, off + i * 2, none⟩ = some (.int .u64 x) ∧ w.cell? ⟨g, off + i * 2 + 1, none⟩ = some (.int .u64 y)
theorem Pairs.keeps {w w' : World} {v : Value} {cs : List (Int × Int)} (h : Pairs w v cs) (k : Keeps (fun _ => False) w w') : Pairs w' v cs := by
  obtain ⟨a, c, hv, hc⟩ := h
  refine ⟨a, c, hv, fun i hi => ?_⟩
  obtain ⟨g, off, x, y, ha, hx, h1, h2⟩ := hc i hi
  have hb := k.block g (World.block_lt_of_cell? _ _ h1) (fun f => f)
  exact ⟨g, off, x, y, ha, hx, (World.cell?_of_block hb).trans h1, (World.cell?_of_block hb).trans h2⟩
/-- One of the entries, wherever what was there stays. -/
theorem Pairs.fixed {w : World} {a : Option Addr} {n c : Nat} {cs : List (Int × Int)} (h : Pairs w (.slice a n c) cs) {k : Nat} (hk : k < cs.length) :
    ∃ g off x y, a = some ⟨g, off, none⟩ ∧ cs[k]? = some (x, y) ∧ Hid (∀ W, Keeps (fun _ => False) w W → W.cell? ⟨g, off + k * 2, none⟩ = some (.int .u64 x) ∧ W.cell? ⟨g, off + k * 2 + 1, none⟩ = some (.int .u64 y)) := by
  obtain ⟨a', c', hv, hc⟩ := h
  injection hv with e1 _ _
  subst e1
  obtain ⟨g, off, x, y, ha, hx, h1, h2⟩ := hc k hk
  refine ⟨g, off, x, y, ha, hx, fun W hW => ?_⟩
  have hb := hW.block g (World.block_lt_of_cell? _ _ h1) (fun f => f)
  exact ⟨(World.cell?_of_block hb).trans h1, (World.cell?_of_block hb).trans h2⟩
theorem Row.pairs {w : World} {v : Value} {es : List (Int × Int)} (h : Row w 44 2 v es.length (entV es)) : Pairs w v es := by
  obtain ⟨a, c, hv, _, _⟩ := h.form
  refine ⟨a, c, hv, fun i hi => ?_⟩
  obtain ⟨g, cap, h1, _, _, h4, _⟩ := h.at (by omega)
  rw [hv] at h1
  injection h1 with h1
  obtain ⟨e1, e2⟩ := entV_get es i (es[i]) (List.getElem?_eq_getElem hi)
  exact ⟨g, 0, (es[i]).1, (es[i]).2, h1, List.getElem?_eq_getElem hi, by rw [Nat.zero_add]; exact (h4 _ (by omega)).trans e1, by rw [Nat.zero_add]; exact (h4 _ (by omega)).trans e2⟩
end Go.Proofs.YtmhinalgjfiliaaDoor


/-
  How the laws' arguments read: a slice of words. No statement of the seat is proved here.
-/
namespace Go.Proofs.YtmhinalgjfiliaaDoor
open Go.ChangeShapes Go.WideShapes Go.ChangeAt Go.RowKit

theorem laidOut : laidOutB Tryd.prog = true := by kernel_rfl
theorem cellsU : Tryd.prog.cellsOf 34 = 1 := by kernel_rfl
theorem bytesU : Tryd.prog.bytesOf 34 = 8 := by kernel_rfl

set_option maxRecDepth 100000 in
/-- A slice of words that came in. -/
theorem open_words {H : Type} {enc : TypeId × Value → H} {W : World} {v : Value} {d : DataW H} {ps : List MemPlace} {base : Nat} (hok : Value.okWide Tryd.prog W .any base 22 v) (h : DataW.Trod enc Tryd.prog W 0 (fun _ => true) true 22 v d ps) :
    ∃ ws : List Int, Lies W v ws ∧ (∀ x, x ∈ ws → (Lit.int .u64 x).wf = true) ∧ ((d = .nil ∧ ws = []) ∨ ∃ elems spare, d = .slice elems spare ∧ elems.length = ws.length) := by
  obtain ⟨a, len, cap, rfl⟩ := okWide_slice Tryd.underlying22 hok
  obtain ⟨fuel, hf⟩ := h
  rcases open_ints Tryd.underlying22 Tryd.underlying34 cellsU hf with ⟨hcs, hx⟩ | ⟨x, l, c, zs, hcs, _, hl, hm, hz, hx, hcell, hwz⟩
  · simp [Value.cells] at hcs
    obtain ⟨rfl, rfl, rfl⟩ := hcs
    exact ⟨[], ⟨none, 0, rfl, fun i hi => absurd hi (by simp)⟩, fun x hx => by simp at hx, .inl ⟨(Prod.mk.inj hx).1, rfl⟩⟩
  · simp [Value.cells] at hcs
    obtain ⟨rfl, rfl, rfl⟩ := hcs
    simp at hz
    have hlen : (zs.take len).length = len := by simp; omega
    refine ⟨zs.take len, ?_, fun n hn => hwz n (List.mem_of_mem_take hn), .inr ⟨_, _, (Prod.mk.inj hx).1, by simp [lits]⟩⟩
    refine ⟨some x, cap, by rw [hlen], fun i hi => ?_⟩
    have hi' : i < len := by omega
    have hc := hcell i (by omega)
    have hsp : x.spot = none := by
      have := hcell 0 (by omega)
      simp [Addr.add] at this
      unfold World.cell? at this
      split at this
      · cases hs : x.spot with
        | none => rfl
        | some _ => simp [hs] at this
      · simp at this
    obtain ⟨xb, xo, xs⟩ := x
    cases hsp
    rw [addr_add] at hc
    refine ⟨xb, xo, rfl, ?_⟩
    rw [hc, List.getD_eq_getElem?_getD]
    unfold oat
    rw [List.getElem?_take_of_lt hi']

theorem cellsC : Tryd.prog.cellsOf 44 = 2 := by kernel_rfl
theorem bytesC : Tryd.prog.bytesOf 44 = 16 := by kernel_rfl
set_option maxRecDepth 100000 in
/-- A slice of addresses with words that came in. -/
theorem open_pairs {H : Type} {enc : TypeId × Value → H} {W : World} {v : Value} {d : DataW H} {ps : List MemPlace} {base : Nat} (hok : Value.okWide Tryd.prog W .any base 23 v) (h : DataW.Trod enc Tryd.prog W 0 (fun _ => true) true 23 v d ps) :
    ∃ cs : List (Int × Int), Pairs W v cs ∧ (∀ x ∈ cs, (0 ≤ x.1 ∧ x.1 < 18446744073709551616) ∧ 0 ≤ x.2 ∧ x.2 < 18446744073709551616) ∧ ((d = .nil ∧ cs = []) ∨ ∃ elems spare, d = .slice elems spare ∧ elems.length = cs.length) := by
  obtain ⟨a, len, cap, rfl⟩ := okWide_slice Tryd.underlying23 hok
  obtain ⟨fuel, hf⟩ := h
  rcases Deep.open_slice_pairs Tryd.underlying23 Tryd.underlying44 cellsC rfl rfl cellsU cellsU hf with ⟨hcs, hx⟩ | ⟨x, l, c, m, n, V0, V1, D0, D1, P0, P1, hcs, _, hl, hm, hmm, hx, hcell⟩
  · simp [Value.cells] at hcs
    obtain ⟨rfl, rfl, rfl⟩ := hcs
    exact ⟨[], ⟨none, 0, rfl, fun i hi => by simp at hi⟩, fun x hx => by simp at hx, .inl ⟨(Prod.mk.inj hx).1, rfl⟩⟩
  · simp [Value.cells] at hcs
    obtain ⟨rfl, rfl, rfl⟩ := hcs
    simp at hmm
    subst hmm
    have each : ∀ i, i < len → ∃ q : Int × Int, (V0 i = .int .u64 q.1 ∧ (0 ≤ q.1 ∧ q.1 < 18446744073709551616)) ∧ V1 i = .int .u64 q.2 ∧ 0 ≤ q.2 ∧ q.2 < 18446744073709551616 := fun i hi => by
      obtain ⟨_, _, h3, h4⟩ := hcell i (by omega)
      obtain ⟨n0, e0, _, w0⟩ := DataW.trod_int Tryd.underlying34 h3
      obtain ⟨n1, e1, _, w1⟩ := DataW.trod_int Tryd.underlying34 h4
      simp at e0 e1
      exact ⟨(n0, n1), ⟨e0, wf_u64 w0⟩, e1, wf_u64 w1⟩
    obtain ⟨q, hq⟩ := Deep.choose_lt each
    have hlen : ((List.range len).map q).length = len := by simp
    refine ⟨(List.range len).map q, ⟨some x, _, by rw [hlen], fun i hi => ?_⟩, fun y hy => ?_, .inr ⟨_, _, (Prod.mk.inj hx).1, by simp⟩⟩
    · have hi' : i < len := by simpa using hi
      have hsp : x.spot = none := by
        have := (hcell 0 (by omega)).1
        simp [Addr.add] at this
        unfold World.cell? at this
        split at this
        · cases hs : x.spot with
          | none => rfl
          | some _ => simp [hs] at this
        · simp at this
      obtain ⟨xb, xo, xs⟩ := x
      cases hsp
      obtain ⟨h1, h2, _, _⟩ := hcell i (by omega)
      obtain ⟨⟨g1, _⟩, g2, _⟩ := hq i hi'
      rw [addr_add, g1] at h1
      rw [addr_add, g2] at h2
      refine ⟨xb, xo, (q i).1, (q i).2, rfl, by simp [hi'], h1, ?_⟩
      simpa [Nat.add_assoc] using h2
    · obtain ⟨i, hi, rfl⟩ := List.mem_map.1 hy
      obtain ⟨⟨_, g1⟩, _, g2⟩ := hq i (List.mem_range.1 hi)
      exact ⟨g1, g2⟩
end Go.Proofs.YtmhinalgjfiliaaDoor
