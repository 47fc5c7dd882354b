/-
  No statement of the seat is proved here. (Several texts in one: OrC, LayG, OpK, OpL, ALoop2, ALoop3, ALoop4.)
-/
import Derived.Test.YthmiainhaebjiaaGreatDoorM07OpE
import Derived.Test.YthmiainhaebjiaaGreatDoorM14OrB
import Derived.Test.YthmiainhaebjiaaGreatDoorChecked
import Derived.Shelf.SlSortCmp.NoneTotal
import Derived.Test.YthmiainhaebjiaaGreatDoorM13OpG
import Derived.Sort.OwnSortedInts
import Derived.Test.YthmiainhaebjiaaGreatDoorM06OpC

/- A walk of stood (layer 16). No statement of the seat is proved here. -/
namespace Go.Proofs.YthmiainhaebjiaaGreatDoor
open Go.RowKit Go.Shelf

@[go_sem] theorem run_mkMapC (w : World) : (Instr.makeMap 115 none).run Tryz.prog w = .ok (.map (some w.heap.size)) (w.alloc (.map #[] 0)) := by
  simp [Instr.makeMap, Result.andThen]
theorem MapC.new (w : World) : MapC (w.alloc (.map #[] 0)) w.heap.size [] := ⟨#[], 0, (MapKept.heap_alloc w (.map #[] 0)).1, rfl⟩
/-- Cells with words that stood there, of some addresses. -/
def StoodL (S : Crs2) (D : List Int) (L : List (Int × Int)) : Prop := ∀ p : Int × Int, p ∈ L ↔ p.1 ∈ D ∧ ∃ l, S p.1 = some l ∧ ∃ n, (n, p.2) ∈ l
set_option maxRecDepth 100000 in
set_option maxHeartbeats 8000000 in
theorem stood_any (pb mb base : Nat) (f : Int → Option Sl) (S : Crs2) (hlen : ∀ a l, S a = some l → l.length ≤ 1100000) (w : World) (c4 : w.cell? ⟨pb, 4, none⟩ = some (.map (some mb))) (h : StAt w mb base f S) :
    Calls Tryz.prog 53 #[.pointer (some ⟨pb, 0, none⟩)] w fun ex w' => ∃ b L, ex = .returned (.map (some b)) ∧ MapC w' b L ∧ (∀ p : Int × Int, p ∈ L ↔ ∃ l, S p.1 = some l ∧ ∃ n, (n, p.2) ∈ l) ∧ w.heap.size ≤ b ∧ Keeps (fun _ => False) w w' := by
  have kM := (Keeps.refl (fun _ => False) w).alloc (.map #[] 0)
  have mM := MapC.new w
  have hmb := h.map.lt
  obtain ⟨w1, m, r1, hI, k1⟩ := (h.keeps kM (fun f => f) (fun _ _ _ f => f)).map.range
  have hsz : (w.alloc (.map #[] 0)).heap.size = w.heap.size + 1 := by simp
  rw [hsz] at r1 hI
  have cM : (w.alloc (.map #[] 0)).cell? ⟨pb, 4, none⟩ = some (.map (some mb)) := kM.cellB (fun f => f) c4
  obtain ⟨b, hb⟩ : ∃ b, b = w.heap.size := ⟨_, rfl⟩
  have HH : Hid (∀ X, Keeps (fun _ => False) w X → StAt X mb base f S) := fun X k => h.keeps k (fun f => f) (fun _ _ _ f => f)
  have HL : Hid (∀ a l, S a = some l → l.length ≤ 1100000) := hlen
  have K1 := kM.trans k1
  have M1 : Hid (∃ D m L, Itr w1 mb (w.heap.size + 1) f D m ∧ MapC w1 w.heap.size L ∧ StoodL S D L) := ⟨[], m, [], hI, mM.keeps k1 (fun f => f), fun p => by simp⟩
  clear h hlen hI mM kM k1 hsz c4
  go_enter Tryz.func53, Tryz.ntmps53
  go_wp2_with fail
  clear r1 cM
  go_loopw [] (fun wr => Hid (∃ D m L, Itr wr mb (w.heap.size + 1) f D m ∧ MapC wr w.heap.size L ∧ StoodL S D L) ∧ Keeps (fun _ => False) w wr) (fun wr => itN wr mb (w.heap.size + 1))
  case atStart => exact ⟨M1, K1⟩
  case round =>
    clear M1 K1
    obtain ⟨hM, kr⟩ := hrel
    obtain ⟨D, m, L, hI, hC, hS⟩ := hM.out
    have hleft := hI.left
    generalize wr = Wo at *
    rcases hI.next 0 with ⟨hall, hnx⟩ | ⟨a, s, w2, m', hfa, haD, hm', hnx, hen, hI2, k2⟩
    · have HF : Hid (∀ p : Int × Int, p ∈ L ↔ ∃ l, S p.1 = some l ∧ ∃ n, (n, p.2) ∈ l) := fun p => by
        rw [hS p]
        refine ⟨fun ⟨_, h⟩ => h, fun ⟨l, h1, h2⟩ => ⟨?_, l, h1, h2⟩⟩
        have hd := (HH.out Wo kr).dom p.1
        rw [h1] at hd
        obtain ⟨s, hs⟩ := Option.isSome_iff_exists.1 hd
        exact hall p.1 s hs
      clear hall hM hI hS hleft
      go_wp2_with fail
      go_ret
      exact ⟨_, L, rfl, hC, HF.out, Nat.le_refl _, kr⟩
    · have kr2 : Keeps (fun _ => False) w w2 := kr.young k2 (fun q e => by omega)
      have hC2 := hC.keeps k2 (fun e => by omega)
      have hd := (HH.out w2 kr2).dom a
      rw [hfa] at hd
      obtain ⟨l, hl⟩ := Option.isSome_iff_exists.1 hd.symm
      have hll := HL.out a l hl
      have HR : Hid (∀ X, Keeps (fun _ => False) w X → OwnR stC 2 111 X base s.v l) := fun X k => by
        have := (HH.out X k).row a s hfa
        rw [hl] at this
        exact this
      obtain ⟨sa, sc, hsv⟩ := (HR.out w2 kr2).form
      rw [hsv] at hnx hen HR
      have M2 : Hid (∃ L', MapC w2 w.heap.size L' ∧ (∀ p, p ∈ L' ↔ p ∈ L ∨ p.1 = a ∧ ∃ n, (n, p.2) ∈ l.take 0) ∧ Itr w2 mb (w.heap.size + 1) f (D ++ [a]) m') := ⟨L, hC2, fun p => by simp, hI2⟩
      have HSL : Hid (StoodL S D L ∧ S a = some l) := ⟨hS, hl⟩
      have HLF : Hid (itN Wo mb (w.heap.size + 1) = m ∧ m' < m) := ⟨hleft, hm'⟩
      clear hM hI hC hS hC2 hI2 hd hl hfa haD hsv hleft hm' k2
      go_wp2_with fail
      go_loopw [21] (fun u wr => ∃ j : Nat, u = .int .i64 j ∧ j ≤ l.length ∧ Hid (∃ L', MapC wr w.heap.size L' ∧ (∀ p, p ∈ L' ↔ p ∈ L ∨ p.1 = a ∧ ∃ n, (n, p.2) ∈ l.take j) ∧ Itr wr mb (w.heap.size + 1) f (D ++ [a]) m') ∧ Keeps (fun _ => False) w wr) (fun u _ => l.length - (intOf u).toNat)
      case atStart => exact ⟨0, rfl, Nat.zero_le _, M2, kr2⟩
      case round =>
        clear M2 kr2 hnx hen
        obtain ⟨j, rfl, hj, hM, kq⟩ := hrel
        obtain ⟨L', hC, hS, hI⟩ := hM.out
        by_cases hlt : j < l.length
        · have hji : (j : Int) < l.length := by omega
          have hj0 : (0 : Int) ≤ j := by omega
          have hjw : IntKind.i64.wrap ((j : Int) + 1) = (j : Int) + 1 := by rw [IntKind.wrap_i64]; omega
          obtain ⟨g, off, rfl, hc⟩ := ((HR.out wr kq).els st_len).at j hlt
          have htk : l.take (j + 1) = l.take j ++ [l[j]] := List.take_succ_eq_append_getElem hlt
          generalize l[j]'hlt = nx at *
          obtain ⟨n, x⟩ := nx
          have y0 := hc 0 _ rfl
          have y1 := hc 1 _ rfl
          simp only [Nat.add_zero] at y0
          have kA := (Keeps.refl (fun _ => False) wr).alloc (.cells #[.int .i64 n, .int .u64 x] 111)
          obtain ⟨w', p1, p2, p3⟩ := (hC.keeps kA (fun f => f)).put (a, x)
          have hlt2 := (hI.lt).1
          have HF : Hid (∃ L', MapC w' w.heap.size L' ∧ (∀ p, p ∈ L' ↔ p ∈ L ∨ p.1 = a ∧ ∃ n, (n, p.2) ∈ l.take (j + 1)) ∧ Itr w' mb (w.heap.size + 1) f (D ++ [a]) m') := by
            refine ⟨_, p2, fun p => ?_, (hI.keeps kA (fun f => f) (fun f => f)).keeps p3 (fun e => by omega) (fun e => by omega)⟩
            have hmem : p ∈ (if (a, x) ∈ L' then L' else L' ++ [(a, x)]) ↔ p ∈ L' ∨ p = (a, x) := by
              by_cases hin : (a, x) ∈ L'
              · rw [if_pos hin]
                exact ⟨.inl, fun q => q.elim id (fun e => e ▸ hin)⟩
              · rw [if_neg hin, List.mem_append, List.mem_singleton]
            rw [hmem, hS p, htk]
            constructor
            · rintro ((q | ⟨q1, n', q2⟩) | rfl)
              · exact .inl q
              · exact .inr ⟨q1, n', List.mem_append.2 (.inl q2)⟩
              · exact .inr ⟨rfl, n, by simp⟩
            · rintro (q | ⟨q1, n', q2⟩)
              · exact .inl (.inl q)
              · rcases List.mem_append.1 q2 with q2 | q2
                · exact .inl (.inr ⟨q1, n', q2⟩)
                · simp only [List.mem_singleton, Prod.mk.injEq] at q2
                  exact .inr (Prod.ext q1 q2.2)
          have KF : Keeps (fun _ => False) w w' := (kq.trans kA).young p3 (fun q e => by omega)
          dsimp only [ceV] at p1
          clear hM hC hS hI hc htk p2 p3 kA kq
          go_wp2_with fail
          go_roundw
          · exact ⟨j + 1, by simp, by omega, HF, KF⟩
          · simp [intOf]; omega
        · obtain rfl : j = l.length := by omega
          have HF : Hid (∃ D m L, Itr wr mb (w.heap.size + 1) f D m ∧ MapC wr w.heap.size L ∧ StoodL S D L) := by
            refine ⟨D ++ [a], m', L', hI, hC, fun p => ?_⟩
            rw [hS p, List.take_length, HSL.out.1 p, List.mem_append, List.mem_singleton]
            constructor
            · rintro (⟨q1, q2⟩ | ⟨q1, q2⟩)
              · exact ⟨.inl q1, q2⟩
              · exact ⟨.inr q1, l, by rw [q1]; exact HSL.out.2, q2⟩
            · rintro ⟨q1 | q1, l', q2, q3⟩
              · exact .inl ⟨q1, l', q2, q3⟩
              · rw [q1, HSL.out.2] at q2
                cases q2
                exact .inr ⟨q1, q3⟩
          have hle := hI.left
          have HM : Hid (itN wr mb (w.heap.size + 1) < itN Wo mb (w.heap.size + 1)) := by
            unfold Hid
            rw [hle, HLF.out.1]
            exact HLF.out.2
          clear hM hC hS hI hle
          go_wp2_with fail
          go_roundw
          · exact ⟨HF, kq⟩
          · exact HM.out
end Go.Proofs.YthmiainhaebjiaaGreatDoor

/- What of the library of Go the program of the seat holds, in the words of the contracts of the shelf. No statement of the seat is proved here. -/
namespace Go.Proofs.YthmiainhaebjiaaGreatDoor
open Go.Shelf
def laysF6_ren : Go.Shelf.Ren := ⟨fun | 6 => 64 | 15 => 74 | 14 => 82 | 28 => 97 | 29 => 98 | 20 => 105 | 21 => 106 | 22 => 107 | 23 => 108 | 24 => 109 | 25 => 110 | 26 => 111 | 27 => 112 | 46 => 122 | 47 => 117 | 48 => 118 | 49 => 123 | 50 => 124 | 57 => 126 | n => n, fun | 22 => 65 | 24 => 73 | 25 => 140 | 3 => 3 | 39 => 159 | 0 => 0 | 53 => 182 | 55 => 26 | 4 => 4 | 46 => 176 | 45 => 175 | 50 => 154 | 5 => 5 | 9 => 9 | 66 => 201 | 70 => 205 | 76 => 212 | 77 => 213 | n => n, fun | n => n⟩
theorem laysF6 : Go.Proofs.SlLaysF0.n6 Tryz.prog laysF6_ren := {
  mixed := by kernel_rfl,
  f6 := ⟨"slices.SortFunc[[]parley/api.Block,parley/api.Block]", by decide, Tryz.func64.trans (congrArg some (by kernel_rfl))⟩,
  f14 := ⟨"slices.pdqsortCmpFunc[parley/api.Block]", by decide, Tryz.func82.trans (congrArg some (by kernel_rfl))⟩,
  f15 := Tryz.func74.trans (congrArg some (by kernel_rfl)),
  f20 := ⟨"slices.insertionSortCmpFunc[parley/api.Block]", by decide, Tryz.func105.trans (congrArg some (by kernel_rfl))⟩,
  f21 := ⟨"slices.heapSortCmpFunc[parley/api.Block]", by decide, Tryz.func106.trans (congrArg some (by kernel_rfl))⟩,
  f22 := ⟨"slices.breakPatternsCmpFunc[parley/api.Block]", by decide, Tryz.func107.trans (congrArg some (by kernel_rfl))⟩,
  f23 := ⟨"slices.choosePivotCmpFunc[parley/api.Block]", by decide, Tryz.func108.trans (congrArg some (by kernel_rfl))⟩,
  f24 := ⟨"slices.reverseRangeCmpFunc[parley/api.Block]", by decide, Tryz.func109.trans (congrArg some (by kernel_rfl))⟩,
  f25 := ⟨"slices.partialInsertionSortCmpFunc[parley/api.Block]", by decide, Tryz.func110.trans (congrArg some (by kernel_rfl))⟩,
  f26 := ⟨"slices.partitionEqualCmpFunc[parley/api.Block]", by decide, Tryz.func111.trans (congrArg some (by kernel_rfl))⟩,
  f27 := ⟨"slices.partitionCmpFunc[parley/api.Block]", by decide, Tryz.func112.trans (congrArg some (by kernel_rfl))⟩,
  f28 := Tryz.func97.trans (congrArg some (by kernel_rfl)),
  f29 := Tryz.func98.trans (congrArg some (by kernel_rfl)),
  f46 := ⟨"slices.siftDownCmpFunc[parley/api.Block]", by decide, Tryz.func122.trans (congrArg some (by kernel_rfl))⟩,
  f47 := Tryz.func117.trans (congrArg some (by kernel_rfl)),
  f48 := Tryz.func118.trans (congrArg some (by kernel_rfl)),
  f49 := ⟨"slices.medianAdjacentCmpFunc[parley/api.Block]", by decide, Tryz.func123.trans (congrArg some (by kernel_rfl))⟩,
  f50 := ⟨"slices.medianCmpFunc[parley/api.Block]", by decide, Tryz.func124.trans (congrArg some (by kernel_rfl))⟩,
  f57 := ⟨"slices.order2CmpFunc[parley/api.Block]", by decide, Tryz.func126.trans (congrArg some (by kernel_rfl))⟩,
  t0 := Tryz.underlying0,
  a0 := Tryz.isAgg0,
  z0 := Tryz.sizeOf0,
  v0 := Tryz.zeroValue0,
  t3 := Tryz.underlying3,
  a3 := Tryz.isAgg3,
  z3 := Tryz.sizeOf3,
  v3 := Tryz.zeroValue3,
  t4 := Tryz.underlying4,
  a4 := Tryz.isAgg4,
  z4 := Tryz.sizeOf4,
  v4 := Tryz.zeroValue4,
  t5 := Tryz.underlying5,
  a5 := Tryz.isAgg5,
  z5 := Tryz.sizeOf5,
  v5 := Tryz.zeroValue5,
  t9 := Tryz.underlying9,
  a9 := Tryz.isAgg9,
  z9 := Tryz.sizeOf9,
  v9 := Tryz.zeroValue9,
  t22 := Tryz.underlying65,
  a22 := Tryz.isAgg65,
  z22 := Tryz.sizeOf65,
  v22 := Tryz.zeroValue65,
  t25 := Tryz.underlying140,
  a25 := Tryz.isAgg140,
  z25 := Tryz.sizeOf140,
  v25 := Tryz.zeroValue140,
  t39 := Tryz.underlying159,
  a39 := Tryz.isAgg159,
  z39 := Tryz.sizeOf159,
  v39 := Tryz.zeroValue159,
  t45 := Tryz.underlying175,
  a45 := Tryz.isAgg175,
  z45 := Tryz.sizeOf175,
  v45 := Tryz.zeroValue175,
  t46 := Tryz.underlying176,
  a46 := Tryz.isAgg176,
  z46 := Tryz.sizeOf176,
  v46 := Tryz.zeroValue176,
  t50 := Tryz.underlying154,
  a50 := Tryz.isAgg154,
  z50 := Tryz.sizeOf154,
  v50 := Tryz.zeroValue154,
  t53 := Tryz.underlying182,
  a53 := Tryz.isAgg182,
  z53 := Tryz.sizeOf182,
  v53 := Tryz.zeroValue182,
  t55 := Tryz.underlying26,
  a55 := Tryz.isAgg26,
  z55 := Tryz.sizeOf26,
  v55 := Tryz.zeroValue26,
  t66 := Tryz.underlying201,
  a66 := Tryz.isAgg201,
  z66 := Tryz.sizeOf201,
  v66 := Tryz.zeroValue201,
  t70 := Tryz.underlying205,
  a70 := Tryz.isAgg205,
  z70 := Tryz.sizeOf205,
  v70 := Tryz.zeroValue205,
  t76 := Tryz.underlying212,
  a76 := Tryz.isAgg212,
  z76 := Tryz.sizeOf212,
  v76 := Tryz.zeroValue212,
  t77 := Tryz.underlying213,
  a77 := Tryz.isAgg213,
  z77 := Tryz.sizeOf213,
  v77 := Tryz.zeroValue213
}
def laysC6_ren : Go.Shelf.Ren := ⟨fun | 6 => 55 | 15 => 74 | 14 => 73 | 28 => 97 | 29 => 98 | 20 => 89 | 21 => 90 | 22 => 91 | 23 => 92 | 24 => 93 | 25 => 94 | 26 => 95 | 27 => 96 | 46 => 116 | 47 => 117 | 48 => 118 | 49 => 119 | 50 => 120 | 57 => 125 | n => n, fun | 22 => 24 | 24 => 28 | 25 => 123 | 3 => 3 | 39 => 159 | 0 => 0 | 53 => 182 | 55 => 26 | 4 => 4 | 46 => 176 | 45 => 175 | 50 => 154 | 5 => 5 | 9 => 9 | 66 => 201 | 70 => 205 | 76 => 212 | 77 => 213 | n => n, fun | n => n⟩
theorem laysC6 : Go.Proofs.SlLaysF0.n6 Tryz.prog laysC6_ren := {
  mixed := by kernel_rfl,
  f6 := ⟨"slices.SortFunc[[]parley/api.Cell,parley/api.Cell]", by decide, Tryz.func55.trans (congrArg some (by kernel_rfl))⟩,
  f14 := ⟨"slices.pdqsortCmpFunc[parley/api.Cell]", by decide, Tryz.func73.trans (congrArg some (by kernel_rfl))⟩,
  f15 := Tryz.func74.trans (congrArg some (by kernel_rfl)),
  f20 := ⟨"slices.insertionSortCmpFunc[parley/api.Cell]", by decide, Tryz.func89.trans (congrArg some (by kernel_rfl))⟩,
  f21 := ⟨"slices.heapSortCmpFunc[parley/api.Cell]", by decide, Tryz.func90.trans (congrArg some (by kernel_rfl))⟩,
  f22 := ⟨"slices.breakPatternsCmpFunc[parley/api.Cell]", by decide, Tryz.func91.trans (congrArg some (by kernel_rfl))⟩,
  f23 := ⟨"slices.choosePivotCmpFunc[parley/api.Cell]", by decide, Tryz.func92.trans (congrArg some (by kernel_rfl))⟩,
  f24 := ⟨"slices.reverseRangeCmpFunc[parley/api.Cell]", by decide, Tryz.func93.trans (congrArg some (by kernel_rfl))⟩,
  f25 := ⟨"slices.partialInsertionSortCmpFunc[parley/api.Cell]", by decide, Tryz.func94.trans (congrArg some (by kernel_rfl))⟩,
  f26 := ⟨"slices.partitionEqualCmpFunc[parley/api.Cell]", by decide, Tryz.func95.trans (congrArg some (by kernel_rfl))⟩,
  f27 := ⟨"slices.partitionCmpFunc[parley/api.Cell]", by decide, Tryz.func96.trans (congrArg some (by kernel_rfl))⟩,
  f28 := Tryz.func97.trans (congrArg some (by kernel_rfl)),
  f29 := Tryz.func98.trans (congrArg some (by kernel_rfl)),
  f46 := ⟨"slices.siftDownCmpFunc[parley/api.Cell]", by decide, Tryz.func116.trans (congrArg some (by kernel_rfl))⟩,
  f47 := Tryz.func117.trans (congrArg some (by kernel_rfl)),
  f48 := Tryz.func118.trans (congrArg some (by kernel_rfl)),
  f49 := ⟨"slices.medianAdjacentCmpFunc[parley/api.Cell]", by decide, Tryz.func119.trans (congrArg some (by kernel_rfl))⟩,
  f50 := ⟨"slices.medianCmpFunc[parley/api.Cell]", by decide, Tryz.func120.trans (congrArg some (by kernel_rfl))⟩,
  f57 := ⟨"slices.order2CmpFunc[parley/api.Cell]", by decide, Tryz.func125.trans (congrArg some (by kernel_rfl))⟩,
  t0 := Tryz.underlying0,
  a0 := Tryz.isAgg0,
  z0 := Tryz.sizeOf0,
  v0 := Tryz.zeroValue0,
  t3 := Tryz.underlying3,
  a3 := Tryz.isAgg3,
  z3 := Tryz.sizeOf3,
  v3 := Tryz.zeroValue3,
  t4 := Tryz.underlying4,
  a4 := Tryz.isAgg4,
  z4 := Tryz.sizeOf4,
  v4 := Tryz.zeroValue4,
  t5 := Tryz.underlying5,
  a5 := Tryz.isAgg5,
  z5 := Tryz.sizeOf5,
  v5 := Tryz.zeroValue5,
  t9 := Tryz.underlying9,
  a9 := Tryz.isAgg9,
  z9 := Tryz.sizeOf9,
  v9 := Tryz.zeroValue9,
  t22 := Tryz.underlying24,
  a22 := Tryz.isAgg24,
  z22 := Tryz.sizeOf24,
  v22 := Tryz.zeroValue24,
  t25 := Tryz.underlying123,
  a25 := Tryz.isAgg123,
  z25 := Tryz.sizeOf123,
  v25 := Tryz.zeroValue123,
  t39 := Tryz.underlying159,
  a39 := Tryz.isAgg159,
  z39 := Tryz.sizeOf159,
  v39 := Tryz.zeroValue159,
  t45 := Tryz.underlying175,
  a45 := Tryz.isAgg175,
  z45 := Tryz.sizeOf175,
  v45 := Tryz.zeroValue175,
  t46 := Tryz.underlying176,
  a46 := Tryz.isAgg176,
  z46 := Tryz.sizeOf176,
  v46 := Tryz.zeroValue176,
  t50 := Tryz.underlying154,
  a50 := Tryz.isAgg154,
  z50 := Tryz.sizeOf154,
  v50 := Tryz.zeroValue154,
  t53 := Tryz.underlying182,
  a53 := Tryz.isAgg182,
  z53 := Tryz.sizeOf182,
  v53 := Tryz.zeroValue182,
  t55 := Tryz.underlying26,
  a55 := Tryz.isAgg26,
  z55 := Tryz.sizeOf26,
  v55 := Tryz.zeroValue26,
  t66 := Tryz.underlying201,
  a66 := Tryz.isAgg201,
  z66 := Tryz.sizeOf201,
  v66 := Tryz.zeroValue201,
  t70 := Tryz.underlying205,
  a70 := Tryz.isAgg205,
  z70 := Tryz.sizeOf205,
  v70 := Tryz.zeroValue205,
  t76 := Tryz.underlying212,
  a76 := Tryz.isAgg212,
  z76 := Tryz.sizeOf212,
  v76 := Tryz.zeroValue212,
  t77 := Tryz.underlying213,
  a77 := Tryz.isAgg213,
  z77 := Tryz.sizeOf213,
  v77 := Tryz.zeroValue213
}

end Go.Proofs.YthmiainhaebjiaaGreatDoor


/- The library's sort at rows of any width; the blocks by their last places. No statement of the seat is proved here. -/
namespace Go.Proofs.YthmiainhaebjiaaGreatDoor
open Go.RowKit Go.Shelf Go.Sort

section
variable {α : Type} [Inhabited α]
theorem flatK_flatV {c : α → List Value} {sz : Nat} (hz : 0 < sz) (hc : ∀ x, (c x).length = sz) (L : List α) : (flatK c sz L.toArray).toList = flatV c L := by
  apply List.ext_getElem?
  intro t
  by_cases ht : t < L.length * sz
  · have hq : t / sz < L.length := (Nat.div_lt_iff_lt_mul hz).2 ht
    have e : t = t / sz * sz + t % sz := by rw [Nat.mul_comm]; exact (Nat.div_add_mod t sz).symm
    have h1 := flatV_at hc L (t / sz) (t % sz) hq (Nat.mod_lt _ hz)
    rw [← e] at h1
    rw [h1]
    have h2 : (flatK c sz L.toArray)[t]! = (c (L.toArray[t / sz]!))[t % sz]! := get_flatK _ _ _ t (by simpa using ht)
    rw [getElem!_pos _ t (by simpa using ht)] at h2
    rw [Array.getElem?_toList, Array.getElem?_eq_getElem (by simpa using ht), h2, getElem!_pos L.toArray (t / sz) (by simpa using hq)]
    have hm : t % sz < (c (L[t / sz])).length := by rw [hc]; exact Nat.mod_lt _ hz
    rw [List.getElem_toArray, getElem!_pos (c (L[t / sz])) (t % sz) hm, List.getElem?_eq_getElem hm]
  · rw [List.getElem?_eq_none (by simp; omega), List.getElem?_eq_none (by rw [flatV_len hc]; omega)]
theorem holdsK_own {c : α → List Value} {sz : Nat} (hz : 0 < sz) (hc : ∀ x, (c x).length = sz) {w : World} {base g cap n : Nat} {t : TypeId} {L : List α} (h : OwnR c sz t w base (.slice (some ⟨g, 0, none⟩) n cap) L) : HoldsK c sz w g 0 L.toArray := by
  unfold HoldsK Holds
  intro j hj
  rw [size_flatK] at hj
  simp only [List.size_toArray] at hj
  rcases h.own.2 with ⟨q, _⟩ | ⟨g3, cap3, cur3, q1, q2, q3, q4, q5, q6, q7⟩
  · cases q
  · have e2 : g = g3 := by injection q1 with q; injection q with q; injection q
    subst e2
    refine ⟨?_, frozen_of_block q3 _⟩
    rw [Nat.zero_add, cell_of_block q3, ← Array.getElem?_toList, ← List.getElem?_take_of_lt (show j < L.length * sz by omega), q7, ← flatK_flatV hz hc, Array.getElem?_toList, Array.getElem?_eq_getElem (by simpa using hj), getElem!_pos _ j (by simpa using hj)]
    rfl
theorem own_sortedK {c : α → List Value} {sz : Nat} (hz : 0 < sz) (hc : ∀ x, (c x).length = sz) {w : World} {base g cap n m : Nat} {t : TypeId} {L M : List α} {os : Array Obj} (hl : M.length = L.length) (h : OwnR c sz t w base (.slice (some ⟨g, 0, none⟩) n cap) L) : OwnR c sz t (sortWorldK c sz w g 0 m M.toArray os) base (.slice (some ⟨g, 0, none⟩) n cap) M ∧ Keeps (fun q => q = g) w (sortWorldK c sz w g 0 m M.toArray os) := by
  have hk : Keeps (fun q => q = g) w (sortWorldK c sz w g 0 m M.toArray os) := by
    unfold sortWorldK putRowK
    refine ⟨rfl, rfl, rfl, by simp, fun k hk hne => ?_⟩
    rw [heap_grow_old _ _ (by simpa using hk)]
    have : g ≠ k := fun e => hne e.symm
    simp [putRow, mapBlock, Sort.ahead, Array.getElem?_modify, this]
  refine ⟨?_, hk⟩
  rcases h.own.2 with ⟨q, _⟩ | ⟨g3, cap3, cur3, q1, q2, q3, q4, q5, q6, q7⟩
  · cases q
  · injection q1 with e1 e2 e3
    injection e1 with e1
    injection e1 with e1
    subst e1 e2 e3
    have hb : (sortWorldK c sz w g 0 m M.toArray os).heap[g]? = some (.cells (putCells id 0 (flatK c sz M.toArray) cur3) t (0, 0)) := by
      unfold sortWorldK putRowK
      have hg := lt_of_block q3
      rw [heap_grow_old _ _ (by simpa using hg)]
      simp [putRow, mapBlock, Sort.ahead, Array.getElem?_modify, q3, onCells]
    refine ⟨⟨flatV_len hc M, .inr ⟨g, cap, _, by rw [hl], q2, hb, by rw [hl]; exact q4, q5, by simp [putCells, q6], ?_⟩⟩, Nat.le_trans h.base hk.size⟩
    have hle : M.length * sz ≤ cur3.size := by rw [q6, hl]; exact Nat.mul_le_mul_right _ q4
    rw [← flatK_flatV hz hc M]
    apply List.ext_getElem?
    intro j
    by_cases hj : j < M.length * sz
    · rw [List.getElem?_take_of_lt hj, Array.getElem?_toList, Array.getElem?_toList]
      have h9 : j < (flatK c sz M.toArray).size := by simpa using hj
      simp only [putCells, Array.getElem?_mapIdx]
      rw [Array.getElem?_eq_getElem (by omega), Array.getElem?_eq_getElem h9]
      simp only [Option.map_some, Nat.zero_le, true_and, Nat.zero_add, Nat.sub_zero]
      rw [if_pos h9, getElem!_pos _ j h9]; rfl
    · rw [List.getElem?_take_eq_none (by omega), List.getElem?_eq_none (by simp; omega)]
end
def laC (x y : Bx) : Int := cmpI x.p.la y.p.la
set_option maxRecDepth 100000 in
set_option maxHeartbeats 4000000 in
theorem cmpBB_at (x y : Bx) (w : World) : Calls Tryz.prog 65 #[.agg #[.int .i64 x.p.th, .int .i64 x.p.kd, .int .i64 x.p.fi, .int .i64 x.p.la, .int .u64 x.p.nu, .bool x.p.wr, .int .i64 x.p.er, .slice x.r.a x.r.n x.r.c, .slice x.s.a x.s.n x.s.c], .agg #[.int .i64 y.p.th, .int .i64 y.p.kd, .int .i64 y.p.fi, .int .i64 y.p.la, .int .u64 y.p.nu, .bool y.p.wr, .int .i64 y.p.er, .slice y.r.a y.r.n y.r.c, .slice y.s.a y.s.n y.s.c]] w fun ex w' => ex = .returned (.int .i64 (cmpI x.p.la y.p.la)) ∧ w' = (w.alloc (.cells #[.int .i64 x.p.th, .int .i64 x.p.kd, .int .i64 x.p.fi, .int .i64 x.p.la, .int .u64 x.p.nu, .bool x.p.wr, .int .i64 x.p.er, .slice x.r.a x.r.n x.r.c, .slice x.s.a x.s.n x.s.c] 73)).alloc (.cells #[.int .i64 y.p.th, .int .i64 y.p.kd, .int .i64 y.p.fi, .int .i64 y.p.la, .int .u64 y.p.nu, .bool y.p.wr, .int .i64 y.p.er, .slice y.r.a y.r.n y.r.c, .slice y.s.a y.s.n y.s.c] 73) := by
  have CM := fun X => cmpN_any x.p.la y.p.la X
  generalize cmpI x.p.la y.p.la = z at *
  go_enter Tryz.func65, Tryz.ntmps65
  go_wp2_with fail
  refine (CM _).mono ?_
  rintro ex w2 ⟨rfl, rfl⟩
  go_wp2_with fail
  go_ret
  exact ⟨rfl, rfl⟩
theorem ltLa (x y : Bx) : ltOf laC x y = decide (x.p.la < y.p.la) := by
  unfold ltOf laC
  rw [Bool.eq_iff_iff, decide_eq_true_eq, decide_eq_true_eq, cmpI_lt]
theorem swoLa : SWO (ltOf laC) where
  irrefl x := by rw [ltLa]; simp
  trans x y z h1 h2 := by rw [ltLa] at *; simp at *; omega
  ntrans x y z h1 h2 := by rw [ltLa] at *; simp at *; omega
theorem sortB_any {w : World} {base : Nat} {v : Value} (Z : List Bx) (hl : Z.length ≤ 1200000) (h : OwnR Bx.cb 9 73 w base v Z) :
    Calls Tryz.prog 64 #[v, .func (.func 65) #[] #[]] w fun e w' => e = .returned (.tuple #[]) ∧ ∃ Y : List Bx, OwnR Bx.cb 9 73 w' base v Y ∧ Y.Perm Z ∧ Y.Pairwise (fun p q => p.p.la ≤ q.p.la) ∧ Keeps (fun q => v.ownBlock = some q) w w' := by
  haveI : Inhabited Bx := ⟨⟨pt0, sl0, sl0⟩⟩
  by_cases hL : Z = []
  · subst hL
    obtain ⟨b, cp, rfl⟩ := h.form
    refine (AnyF.slices_SortFunc_none (P := Tryz.prog) (ρ := laysF6_ren) laysF6 b cp _ w).mono fun e w' ⟨h1, h2⟩ => ?_
    subst h2
    exact ⟨h1, [], h, .refl _, List.Pairwise.nil, Keeps.refl _ _⟩
  · have hlen : 0 < Z.length := List.length_pos_iff.2 hL
    obtain ⟨g, cap, cur, rfl, hbg, hgb, hgs⟩ := h.at hlen
    have hH := holdsK_own (by decide) cb_len h
    have eg : ∀ args w, (callFunc 65 args).run Tryz.prog w = .ok (.enter 65 args) w := enters_of Tryz.func65 (by kernel_rfl) rfl
    have hcmp : CmpLays Tryz.prog 65 #[] Bx.cb 9 laC g 0 Z.toArray.size w := fun m os dk hs x y => by
      refine (cmpBB_at x y _).mono fun ex w' ⟨h1, h2⟩ => ?_
      rw [alloc_eq_grow, alloc_eq_grow, grow_grow] at h2
      exact ⟨h1, 0, _, h2⟩
    have hsz : Z.toArray.size = Z.length := by simp
    have C := AnyQ.slices_SortFunc (P := Tryz.prog) (ρ := laysF6_ren) laysF6 9 Tryz.isAgg73 Tryz.sizeOf73 Bx.cb cb_len cb_one laC swoLa 65 #[] g 0 cap Z.toArray w eg hcmp hH (lt_of_block hgb) (by rw [hsz]; omega)
    rw [hsz] at C
    refine C.mono fun e w' ⟨h1, d', n, os, hp, hs, hw⟩ => ?_
    obtain ⟨hz1, _, hperm⟩ := hp
    rw [hsz] at hz1
    have e1 : d'.extract 0 Z.length = d' := by rw [← hz1]; exact Array.extract_size
    have e2 : Z.toArray.extract 0 Z.length = Z.toArray := by rw [← hsz]; exact Array.extract_size
    rw [e1, e2] at hperm
    have hdl : d'.toList.length = Z.length := by simpa using hz1
    have hso := own_sortedK (c := Bx.cb) (sz := 9) (by decide) cb_len (m := n) (os := os) (M := d'.toList) hdl h
    rw [show d'.toList.toArray = d' by simp, ← hw] at hso
    refine ⟨h1, d'.toList, hso.1, by simpa using hperm, ?_, hso.2.mono fun q _ e => by rw [e]; rfl⟩
    rw [List.pairwise_iff_getElem]
    intro i j hi hj hij
    have hi' : i < d'.size := by simpa using hi
    have hj' : j < d'.size := by simpa using hj
    have := hs i j (Nat.zero_le _) hij (by omega)
    rw [getElem!_pos d' j hj', getElem!_pos d' i hi', ltLa] at this
    simp only [decide_eq_false_iff_not, Int.not_lt] at this
    simpa using this
end Go.Proofs.YthmiainhaebjiaaGreatDoor


/- A walk of settle (layer 16). No statement of the seat is proved here. -/
namespace Go.Proofs.YthmiainhaebjiaaGreatDoor
open Go.RowKit Go.Shelf

theorem Cr.len {l : List (Int × Int)} {n : Int} (h : Cr l n) : (l.length : Int) ≤ n + 1 := by
  have hi : ∀ i, (hi : i < l.length) → (i : Int) ≤ (l[i]).1 := by
    intro i
    induction i with
    | zero => intro hi; have := (h.le _ (List.getElem_mem hi)).1; omega
    | succ i ih =>
      intro hi
      have h1 := ih (by omega)
      have h2 := List.pairwise_iff_getElem.1 h.up i (i + 1) (by omega) hi (by omega)
      omega
  have hne := h.ne
  have h1 := hi (l.length - 1) (by omega)
  have h2 := (h.le _ (List.getElem_mem (show l.length - 1 < l.length by omega))).2
  omega
theorem Keeps.young2 {S T : Nat → Prop} {w a b : World} (h : Keeps T w a) (k : Keeps S a b) (hs : ∀ q, S q → w.heap.size ≤ q) : Keeps T w b :=
  ⟨k.os.trans h.os, k.tape.trans h.tape, k.output.trans h.output, Nat.le_trans h.size k.size, fun q hq ht => (k.block q (Nat.lt_of_lt_of_le hq h.size) (fun f => by have := hs q f; omega)).trans (h.block q hq ht)⟩
/-- The past's block. -/
@[reducible] def pastC (vF vT vB vW : Value) (mb : Nat) : Obj := .cells #[vF, vT, vB, vW, .map (some mb)] 68 (0, 0)
theorem wrt_filter {X : List Bx} {k : Nat} (h : k < X.length) : (X.take (k + 1)).filter (fun x => x.p.wr) = (X.take k).filter (fun x => x.p.wr) ++ (if (X[k]).p.wr then [X[k]] else []) := by
  rw [List.take_succ_eq_append_getElem h, List.filter_append]
  congr 1
  by_cases q : (X[k]).p.wr <;> simp [q]
abbrev oldR (w : World) (base : Nat) (v : Value) (Y : List Bx) : Prop := OwnR Bx.cb 9 73 w base v Y
/-- New blocks may turn. -/
theorem Keeps.old2 {w a b : World} {m : Nat} (h : Keeps (fun q => q = m) w a) (k : Keeps (fun q => q = m ∨ w.heap.size ≤ q) a b) : Keeps (fun q => q = m) w b :=
  ⟨k.os.trans h.os, k.tape.trans h.tape, k.output.trans h.output, Nat.le_trans h.size k.size, fun q hq ht => (k.block q (Nat.lt_of_lt_of_le hq h.size) (fun f => by rcases f with f | f <;> omega)).trans (h.block q hq ht)⟩
/-- What settle leaves. -/
structure SeP (w : World) (pb mb : Nat) (vF vT vB : Value) (F : List Int) (X : List Bx) (w' : World) (vW : Value) (Y : List Bx) (f : Int → Option Sl) (b1 b2 : Nat) : Prop where
  blk : w'.heap[pb]? = some (pastC vF vT vB vW mb)
  row : OwnR Bx.cb 9 73 w' b1 vW Y
  perm : Y.Perm (X.filter fun x => x.p.wr)
  up : Y.Pairwise (fun p q => p.p.la < q.p.la)
  st : StAt w' mb b2 f (setN F (Y.map (·.p)) Y.length)
  kp : Keeps (fun q => q = pb ∨ q = mb) w w'
  lo : w.heap.size ≤ b1 ∧ w.heap.size ≤ b2
set_option maxRecDepth 100000 in
set_option maxHeartbeats 8000000 in
theorem settle_any (pb mb b0 : Nat) (vF vT vB : Value) (F : List Int) (X : List Bx) (hX : X.length ≤ 1050000) (hd : DistL (X.map (·.p))) (hin : ∀ x ∈ X, ∀ e ∈ x.p.ws, 0 ≤ e.1 ∧ e.1 < (F.length : Int)) (hwl : ∀ x ∈ X, x.p.ws.length ≤ 1050000) (hpm : pb ≠ mb) (hpb : pb < b0) (hmb : mb < b0) (w : World) (bp : w.heap[pb]? = some (pastC vF vT vB (.slice none 0 0) mb)) (hm : MapS w mb (fun _ => none)) (hF : WsAt w vF F) (hFb : ∀ a n c, vF = .slice (some a) n c → a.block ≠ pb ∧ a.block ≠ mb) (hB : Bls w b0 vB X) :
    Calls Tryz.prog 43 #[.pointer (some ⟨pb, 0, none⟩)] w fun ex w' => ex = .returned (.tuple #[]) ∧ ∃ vW Y f b1 b2, SeP w pb mb vF vT vB F X w' vW Y f b1 b2 := by
  have hlp := lt_of_block bp
  have hlm := hm.lt
  obtain ⟨va, vcap, rfl, hvc⟩ := (hB.own.els cb_len).shape
  have HX : Hid (∀ Z, Keeps (fun q => q = pb ∨ q = mb) w Z → ElsAt Bx.cb 9 Z (.slice va X.length vcap) X) := fun Z k => (hB.own.keeps k fun g hg => by have := (own_block hB.own.own hg).2; omega).els cb_len
  have HW : Hid (∀ Z, Keeps (fun q => q = pb ∨ q = mb) w Z → ∀ x ∈ X, ElsAt enC 3 Z x.s.v x.p.ws) := fun Z k x hx => ((hB.rws.wt x hx).keeps k fun g hg => by have := (own_block (hB.rws.wt x hx).own hg).2; omega).els en_len
  have HFs : Hid (∀ Z, Keeps (fun q => q = pb ∨ q = mb) w Z → WsAt Z vF F) := fun Z k => hF.keepsB wC_ne k fun a n c e => by have := hFb a n c e; omega
  have HM : Hid (∀ Z, Keeps (fun q => q = pb) w Z → MapS Z mb (fun _ => none)) := fun Z k => hm.keeps k (fun e => hpm e.symm)
  have HI : Hid ((∀ x ∈ X, ∀ e ∈ x.p.ws, 0 ≤ e.1 ∧ e.1 < (F.length : Int)) ∧ DistL (X.map (·.p)) ∧ (∀ x ∈ X, x.p.ws.length ≤ 1050000)) := ⟨hin, hd, hwl⟩
  have HE : Hid (∀ Z, Keeps (fun q => q = pb ∨ q = mb) w Z → ∀ k (hk : k < X.length), ∃ g off, va = some ⟨g, off, none⟩ ∧ ∀ f u, (Bx.cb (X[k]))[f]? = some u → Z.cell? ⟨g, off + k * 9 + f, none⟩ = some u) := fun Z k j hj => (HX.out Z k).at j hj
  have p2 : w.cell? ⟨pb, 2, none⟩ = some (.slice va X.length vcap) := by rw [cell_of_block bp]; rfl
  have O0 := OwnR.nil Bx.cb 9 73 w
  clear hin hd hwl hF hFb hB hm
  go_enter Tryz.func43, Tryz.ntmps43
  go_wp2_with fail
  clear p2
  go_loopw [13] (fun u wr => ∃ (k : Nat) (v3 : Value), u = .int .i64 k ∧ k ≤ X.length ∧ Hid (wr.heap[pb]? = some (pastC vF vT (.slice va X.length vcap) v3 mb) ∧ OwnR Bx.cb 9 73 wr w.heap.size v3 ((X.take k).filter fun x => x.p.wr) ∧ Keeps (fun q => q = pb) w wr)) (fun u _ => X.length - (intOf u).toNat)
  case atStart => exact ⟨0, _, rfl, Nat.zero_le _, ⟨bp, O0, Keeps.refl _ _⟩⟩
  case round =>
    clear O0 bp
    obtain ⟨k, v3, rfl, hk, hh⟩ := hrel
    by_cases hlt : k < X.length
    · have hki : (k : Int) < X.length := by omega
      have hk0 : (0 : Int) ≤ k := by omega
      obtain ⟨bpr, hO, kr⟩ := hh.out
      obtain ⟨g, off, rfl, hc⟩ := HE.out wr (kr.mono fun q _ e => .inl e) k hlt
      have htk := wrt_filter hlt
      have hfl : ((X.take k).filter fun x => x.p.wr).length ≤ 1050000 := Nat.le_trans (List.length_filter_le _ _) (by simp; omega)
      generalize hx : X[k]'hlt = x at *
      clear hx
      obtain ⟨⟨pth, pkd, pfi, pla, pnu, pwr, per, prs, pws, psi, plk⟩, ⟨ra, rn, rc⟩, ⟨sa, sn, sc⟩⟩ := x
      have y0 := hc 0 _ rfl
      have y1 := hc 1 _ rfl
      have y2 := hc 2 _ rfl
      have y3 := hc 3 _ rfl
      have y4 := hc 4 _ rfl
      have y5 := hc 5 _ rfl
      have y6 := hc 6 _ rfl
      have y7 := hc 7 _ rfl
      have y8 := hc 8 _ rfl
      dsimp only at y0 y1 y2 y3 y4 y5 y6 y7 y8
      simp only [Nat.add_zero] at y0
      cases pwr with
      | true =>
        rw [if_pos rfl] at htk
        have kA := (Keeps.refl (fun _ => False) wr).alloc (.cells #[.int .i64 pth, .int .i64 pkd, .int .i64 pfi, .int .i64 pla, .int .u64 pnu, .bool true, .int .i64 per, .slice ra rn rc, .slice sa sn sc] 73)
        have bA := (MapKept.heap_alloc wr (.cells #[.int .i64 pth, .int .i64 pkd, .int .i64 pfi, .int .i64 pla, .int .u64 pnu, .bool true, .int .i64 per, .slice ra rn rc, .slice sa sn sc] 73)).1
        have bpA := (kA.block pb (lt_of_block bpr) (fun f => f)).trans bpr
        have hsA : (wr.alloc (.cells #[.int .i64 pth, .int .i64 pkd, .int .i64 pfi, .int .i64 pla, .int .u64 pnu, .bool true, .int .i64 per, .slice ra rn rc, .slice sa sn sc] 73)).heap.size = wr.heap.size + 1 := by simp
        obtain ⟨A, hA⟩ : ∃ A, A = wr.alloc (.cells #[.int .i64 pth, .int .i64 pkd, .int .i64 pfi, .int .i64 pla, .int .u64 pnu, .bool true, .int .i64 per, .slice ra rn rc, .slice sa sn sc] 73) := ⟨_, rfl⟩
        rw [← hA] at kA bA bpA hsA
        have oA := hO.keeps (w' := A.drew) kA.drew (fun _ _ f => f)
        obtain ⟨v', w3, r1, r2, r3⟩ := oA.push cb_len cb_one (by decide) Tryz.underlying65 info_blk rfl (by decide) (ty := 65) ⟨⟨pth, pkd, pfi, pla, pnu, true, per, prs, pws, psi, plk⟩, ⟨ra, rn, rc⟩, ⟨sa, sn, sc⟩⟩ (cs := #[.int .i64 pth, .int .i64 pkd, .int .i64 pfi, .int .i64 pla, .int .u64 pnu, .bool true, .int .i64 per, .slice ra rn rc, .slice sa sn sc]) rfl (by omega)
        rw [← htk] at r2
        have hpv : ¬ v3.ownBlock = some pb := fun e => by have := (own_block hO.own e).2; omega
        have hpv' : ∀ q, v'.ownBlock = some q → q ≠ pb := fun q hq e => by have := (own_block r2.own hq).2; omega
        have bp3 : w3.heap[pb]? = some (pastC vF vT (.slice (some ⟨g, off, none⟩) X.length vcap) v3 mb) := (r3.keeps.block pb (lt_of_block (w := A.drew) bpA) hpv).trans bpA
        have kS := (Keeps.refl (fun q => q = pb) w3).setCell (p := ⟨pb, 3, none⟩) (.inr rfl) v'
        have K3 : Keeps (fun q => q = pb) w w3 := ((kr.trans (kA.mono fun _ _ f => f.elim)).drew).young2 (r3.keeps) (fun q hq => (own_block hO.own hq).2)
        have HF : Hid ((w3.setCell ⟨pb, 3, none⟩ v').heap[pb]? = some (pastC vF vT (.slice (some ⟨g, off, none⟩) X.length vcap) v' mb) ∧ OwnR Bx.cb 9 73 (w3.setCell ⟨pb, 3, none⟩ v') w.heap.size v' ((X.take (k + 1)).filter fun x => x.p.wr) ∧ Keeps (fun q => q = pb) w (w3.setCell ⟨pb, 3, none⟩ v')) := ⟨block_set bp3 3 v', r2.keeps kS (fun q hq e => hpv' q hq e), K3.setCell (.inr rfl) _⟩
        have cellsA : ∀ i u, (#[.int .i64 pth, .int .i64 pkd, .int .i64 pfi, .int .i64 pla, .int .u64 pnu, .bool true, .int .i64 per, .slice ra rn rc, .slice sa sn sc] : Array Value)[i]? = some u → A.drew.cell? ⟨wr.heap.size, i, none⟩ = some u := fun i u hu => by rw [cell_of_block (w := A.drew) bA]; exact hu
        have hne : ¬ v3.ownBlock = some wr.heap.size := fun e => by have := (own_block hO.own e).1; omega
        have S0 : A.drew.cell? ⟨pb, 3, none⟩ = some v3 ∧ A.drew.cell? ⟨wr.heap.size, 0, none⟩ = some (.int .i64 pth) ∧ A.drew.cell? ⟨wr.heap.size, 1, none⟩ = some (.int .i64 pkd) ∧ A.drew.cell? ⟨wr.heap.size, 2, none⟩ = some (.int .i64 pfi) ∧ A.drew.cell? ⟨wr.heap.size, 3, none⟩ = some (.int .i64 pla) ∧ A.drew.cell? ⟨wr.heap.size, 4, none⟩ = some (.int .u64 pnu) ∧ A.drew.cell? ⟨wr.heap.size, 5, none⟩ = some (.bool true) ∧ A.drew.cell? ⟨wr.heap.size, 6, none⟩ = some (.int .i64 per) ∧ A.drew.cell? ⟨wr.heap.size, 7, none⟩ = some (.slice ra rn rc) ∧ A.drew.cell? ⟨wr.heap.size, 8, none⟩ = some (.slice sa sn sc) := ⟨by rw [cell_of_block (w := A.drew) bpA]; rfl, cellsA 0 _ rfl, cellsA 1 _ rfl, cellsA 2 _ rfl, cellsA 3 _ rfl, cellsA 4 _ rfl, cellsA 5 _ rfl, cellsA 6 _ rfl, cellsA 7 _ rfl, cellsA 8 _ rfl⟩
        have kC := (Keeps.refl (fun _ => False) A.drew).alloc (.cells #[.int .i64 pth, .int .i64 pkd, .int .i64 pfi, .int .i64 pla, .int .u64 pnu, .bool true, .int .i64 per, .slice ra rn rc, .slice sa sn sc] 73)
        have S1 : (A.drew.alloc (.cells #[.int .i64 pth, .int .i64 pkd, .int .i64 pfi, .int .i64 pla, .int .u64 pnu, .bool true, .int .i64 per, .slice ra rn rc, .slice sa sn sc] 73)).cell? ⟨pb, 3, none⟩ = some v3 ∧ (A.drew.alloc (.cells #[.int .i64 pth, .int .i64 pkd, .int .i64 pfi, .int .i64 pla, .int .u64 pnu, .bool true, .int .i64 per, .slice ra rn rc, .slice sa sn sc] 73)).cell? ⟨wr.heap.size, 0, none⟩ = some (.int .i64 pth) ∧ (A.drew.alloc (.cells #[.int .i64 pth, .int .i64 pkd, .int .i64 pfi, .int .i64 pla, .int .u64 pnu, .bool true, .int .i64 per, .slice ra rn rc, .slice sa sn sc] 73)).cell? ⟨wr.heap.size, 1, none⟩ = some (.int .i64 pkd) ∧ (A.drew.alloc (.cells #[.int .i64 pth, .int .i64 pkd, .int .i64 pfi, .int .i64 pla, .int .u64 pnu, .bool true, .int .i64 per, .slice ra rn rc, .slice sa sn sc] 73)).cell? ⟨wr.heap.size, 2, none⟩ = some (.int .i64 pfi) ∧ (A.drew.alloc (.cells #[.int .i64 pth, .int .i64 pkd, .int .i64 pfi, .int .i64 pla, .int .u64 pnu, .bool true, .int .i64 per, .slice ra rn rc, .slice sa sn sc] 73)).cell? ⟨wr.heap.size, 3, none⟩ = some (.int .i64 pla) ∧ (A.drew.alloc (.cells #[.int .i64 pth, .int .i64 pkd, .int .i64 pfi, .int .i64 pla, .int .u64 pnu, .bool true, .int .i64 per, .slice ra rn rc, .slice sa sn sc] 73)).cell? ⟨wr.heap.size, 4, none⟩ = some (.int .u64 pnu) ∧ (A.drew.alloc (.cells #[.int .i64 pth, .int .i64 pkd, .int .i64 pfi, .int .i64 pla, .int .u64 pnu, .bool true, .int .i64 per, .slice ra rn rc, .slice sa sn sc] 73)).cell? ⟨wr.heap.size, 5, none⟩ = some (.bool true) ∧ (A.drew.alloc (.cells #[.int .i64 pth, .int .i64 pkd, .int .i64 pfi, .int .i64 pla, .int .u64 pnu, .bool true, .int .i64 per, .slice ra rn rc, .slice sa sn sc] 73)).cell? ⟨wr.heap.size, 6, none⟩ = some (.int .i64 per) ∧ (A.drew.alloc (.cells #[.int .i64 pth, .int .i64 pkd, .int .i64 pfi, .int .i64 pla, .int .u64 pnu, .bool true, .int .i64 per, .slice ra rn rc, .slice sa sn sc] 73)).cell? ⟨wr.heap.size, 7, none⟩ = some (.slice ra rn rc) ∧ (A.drew.alloc (.cells #[.int .i64 pth, .int .i64 pkd, .int .i64 pfi, .int .i64 pla, .int .u64 pnu, .bool true, .int .i64 per, .slice ra rn rc, .slice sa sn sc] 73)).cell? ⟨wr.heap.size, 8, none⟩ = some (.slice sa sn sc) := ⟨kC.cellB (fun f => f) S0.1, kC.cellB (fun f => f) S0.2.1, kC.cellB (fun f => f) S0.2.2.1, kC.cellB (fun f => f) S0.2.2.2.1, kC.cellB (fun f => f) S0.2.2.2.2.1, kC.cellB (fun f => f) S0.2.2.2.2.2.1, kC.cellB (fun f => f) S0.2.2.2.2.2.2.1, kC.cellB (fun f => f) S0.2.2.2.2.2.2.2.1, kC.cellB (fun f => f) S0.2.2.2.2.2.2.2.2.1, kC.cellB (fun f => f) S0.2.2.2.2.2.2.2.2.2⟩
        have S2 : w3.cell? ⟨pb, 3, none⟩ = some v3 ∧ w3.cell? ⟨wr.heap.size, 0, none⟩ = some (.int .i64 pth) ∧ w3.cell? ⟨wr.heap.size, 1, none⟩ = some (.int .i64 pkd) ∧ w3.cell? ⟨wr.heap.size, 2, none⟩ = some (.int .i64 pfi) ∧ w3.cell? ⟨wr.heap.size, 3, none⟩ = some (.int .i64 pla) ∧ w3.cell? ⟨wr.heap.size, 4, none⟩ = some (.int .u64 pnu) ∧ w3.cell? ⟨wr.heap.size, 5, none⟩ = some (.bool true) ∧ w3.cell? ⟨wr.heap.size, 6, none⟩ = some (.int .i64 per) ∧ w3.cell? ⟨wr.heap.size, 7, none⟩ = some (.slice ra rn rc) ∧ w3.cell? ⟨wr.heap.size, 8, none⟩ = some (.slice sa sn sc) := ⟨r3.keeps.cellB hpv S0.1, r3.keeps.cellB hne S0.2.1, r3.keeps.cellB hne S0.2.2.1, r3.keeps.cellB hne S0.2.2.2.1, r3.keeps.cellB hne S0.2.2.2.2.1, r3.keeps.cellB hne S0.2.2.2.2.2.1, r3.keeps.cellB hne S0.2.2.2.2.2.2.1, r3.keeps.cellB hne S0.2.2.2.2.2.2.2.1, r3.keeps.cellB hne S0.2.2.2.2.2.2.2.2.1, r3.keeps.cellB hne S0.2.2.2.2.2.2.2.2.2⟩
        have fz : w3.frozen? ⟨pb, 3, none⟩ = false := frozen_of_block bp3 _
        have AA : A.drew.heap.size = A.heap.size := rfl
        rw [AA] at r1
        obtain ⟨ub, uc, rfl⟩ := hO.form
        obtain ⟨⟨ta, tn, tc⟩, rfl, -⟩ := sl_of r2
        dsimp only [Sl.v] at r1 HF
        have HA : Hid (_ = _) := r1
        generalize ((X.take k).filter fun x => x.p.wr).length = m1 at *
        have HAA : Hid (A = _) := hA
        clear r1 r2 r3 oA bpA bA kA kC kS K3 hO hh bpr hsA htk hpv hpv' cellsA hne AA hc bp3 hfl
        go_wp2_with fail
        rw [← hA]
        clear y0 y1 y2 y3 y4 y5 y6 y7 y8
        clear hA
        refine wp_until (S := (fun W : World => W.cell? ⟨pb, 3, none⟩ = some (.slice ub m1 uc) ∧ W.cell? ⟨wr.heap.size, 0, none⟩ = some (.int .i64 pth) ∧ W.cell? ⟨wr.heap.size, 1, none⟩ = some (.int .i64 pkd) ∧ W.cell? ⟨wr.heap.size, 2, none⟩ = some (.int .i64 pfi) ∧ W.cell? ⟨wr.heap.size, 3, none⟩ = some (.int .i64 pla) ∧ W.cell? ⟨wr.heap.size, 4, none⟩ = some (.int .u64 pnu) ∧ W.cell? ⟨wr.heap.size, 5, none⟩ = some (.bool true) ∧ W.cell? ⟨wr.heap.size, 6, none⟩ = some (.int .i64 per) ∧ W.cell? ⟨wr.heap.size, 7, none⟩ = some (.slice ra rn rc) ∧ W.cell? ⟨wr.heap.size, 8, none⟩ = some (.slice sa sn sc))) 10 11 rfl hmxp ?_
        simp only [Array.replicate_succ, Array.replicate_zero, List.push_toArray, List.nil_append, List.cons_append]
        refine u_take (i := 0) (v := (.pointer (some ⟨pb, 0, none⟩))) 19 rfl rfl (by kernel_rfl) (by kernel_rfl) (by kernel_rfl) (by kernel_rfl) rfl (fun w' hw' => by obtain ⟨q0, q1, q2, q3, q4, q5, q6, q7, q8, q9⟩ := hw'; go_simp) S0 ?_
        simp only [Act.put, List.setIfInBounds_toArray, List.set_cons_zero, List.set_cons_succ]
        refine u_take (i := 1) (v := (.pointer (some ⟨pb, 0, none⟩))) 20 rfl rfl (by kernel_rfl) (by kernel_rfl) (by kernel_rfl) (by kernel_rfl) rfl (fun w' hw' => by obtain ⟨q0, q1, q2, q3, q4, q5, q6, q7, q8, q9⟩ := hw'; go_simp) S0 ?_
        simp only [Act.put, List.setIfInBounds_toArray, List.set_cons_zero, List.set_cons_succ]
        refine u_take (i := 2) (v := (.pointer (some ⟨pb, 0, none⟩))) 21 rfl rfl (by kernel_rfl) (by kernel_rfl) (by kernel_rfl) (by kernel_rfl) rfl (fun w' hw' => by obtain ⟨q0, q1, q2, q3, q4, q5, q6, q7, q8, q9⟩ := hw'; go_simp) S0 ?_
        simp only [Act.put, List.setIfInBounds_toArray, List.set_cons_zero, List.set_cons_succ]
        refine u_take (i := 3) (v := (.pointer (some ⟨pb, 3, none⟩))) 22 rfl rfl (by kernel_rfl) (by kernel_rfl) (by kernel_rfl) (by kernel_rfl) rfl (fun w' hw' => by obtain ⟨q0, q1, q2, q3, q4, q5, q6, q7, q8, q9⟩ := hw'; go_simp) S0 ?_
        simp only [Act.put, List.setIfInBounds_toArray, List.set_cons_zero, List.set_cons_succ]
        refine u_take (i := 4) (v := (.slice ub m1 uc)) 23 rfl rfl (by kernel_rfl) (by kernel_rfl) (by kernel_rfl) (by kernel_rfl) rfl (fun w' hw' => by obtain ⟨q0, q1, q2, q3, q4, q5, q6, q7, q8, q9⟩ := hw'; go_simp) S0 ?_
        simp only [Act.put, List.setIfInBounds_toArray, List.set_cons_zero, List.set_cons_succ]
        refine u_take (i := 5) (v := (.agg #[.int .i64 pth, .int .i64 pkd, .int .i64 pfi, .int .i64 pla, .int .u64 pnu, .bool true, .int .i64 per, .slice ra rn rc, .slice sa sn sc])) 24 rfl rfl (by kernel_rfl) (by kernel_rfl) (by kernel_rfl) (by kernel_rfl) rfl (fun w' hw' => by obtain ⟨q0, q1, q2, q3, q4, q5, q6, q7, q8, q9⟩ := hw'; go_simp) S0 ?_
        simp only [Act.put, List.setIfInBounds_toArray, List.set_cons_zero, List.set_cons_succ]
        refine u_val (i := 6) (v := (.slice (some ⟨A.heap.size, 0, none⟩) 1 1)) (w' := A.drew.alloc (.cells #[.int .i64 pth, .int .i64 pkd, .int .i64 pfi, .int .i64 pla, .int .u64 pnu, .bool true, .int .i64 per, .slice ra rn rc, .slice sa sn sc] 73)) (some 25) (by kernel_rfl) rfl rfl rfl (by go_simp) S1 ?_
        simp only [Act.put, List.setIfInBounds_toArray, List.set_cons_zero, List.set_cons_succ]
        refine u_val (i := 7) (v := (.slice ta tn tc)) (w' := w3) (some 26) (by kernel_rfl) rfl rfl rfl (run_append_op rfl rfl rfl HA.out) S2 ?_
        simp only [Act.put, List.setIfInBounds_toArray, List.set_cons_zero, List.set_cons_succ]
        refine u_val (i := 8) (v := (.pointer (some ⟨pb, 0, none⟩))) (w' := w3) (some 27) (by kernel_rfl) rfl rfl rfl (by go_simp) S2 ?_
        simp only [Act.put, List.setIfInBounds_toArray, List.set_cons_zero, List.set_cons_succ]
        refine u_val (i := 9) (v := (.pointer (some ⟨pb, 3, none⟩))) (w' := w3) (some 28) (by kernel_rfl) rfl rfl rfl (by go_simp) S2 ?_
        simp only [Act.put, List.setIfInBounds_toArray, List.set_cons_zero, List.set_cons_succ]
        refine u_last (w' := w3.setCell ⟨pb, 3, none⟩ (.slice ta tn tc)) (by kernel_rfl) rfl rfl rfl (by obtain ⟨q0, _⟩ := S2; go_simp) (by kernel_rfl) ?_
        clear S0 S1 S2 fz HA HAA
        generalize w3.setCell ⟨pb, 3, none⟩ (.slice ta tn tc) = Z at *
        go_wp2_with fail
        go_roundw
        · exact ⟨k + 1, _, by simp, by omega, HF.out⟩
        · simp [intOf]; omega
      | false =>
        rw [if_neg Bool.false_ne_true, List.append_nil] at htk
        have kA := (Keeps.refl (fun _ => False) wr).alloc (.cells #[.int .i64 pth, .int .i64 pkd, .int .i64 pfi, .int .i64 pla, .int .u64 pnu, .bool false, .int .i64 per, .slice ra rn rc, .slice sa sn sc] 73)
        have HF : Hid ((wr.alloc (.cells #[.int .i64 pth, .int .i64 pkd, .int .i64 pfi, .int .i64 pla, .int .u64 pnu, .bool false, .int .i64 per, .slice ra rn rc, .slice sa sn sc] 73)).heap[pb]? = some (pastC vF vT (.slice (some ⟨g, off, none⟩) X.length vcap) v3 mb) ∧ OwnR Bx.cb 9 73 (wr.alloc (.cells #[.int .i64 pth, .int .i64 pkd, .int .i64 pfi, .int .i64 pla, .int .u64 pnu, .bool false, .int .i64 per, .slice ra rn rc, .slice sa sn sc] 73)) w.heap.size v3 ((X.take (k + 1)).filter fun x => x.p.wr) ∧ Keeps (fun q => q = pb) w (wr.alloc (.cells #[.int .i64 pth, .int .i64 pkd, .int .i64 pfi, .int .i64 pla, .int .u64 pnu, .bool false, .int .i64 per, .slice ra rn rc, .slice sa sn sc] 73))) := ⟨(kA.block pb (lt_of_block bpr) (fun f => f)).trans bpr, by rw [htk]; exact hO.keeps kA (fun _ _ f => f), kr.trans (kA.mono fun _ _ f => f.elim)⟩
        clear kA hO hh bpr htk hc hfl
        go_wp2_with fail
        go_roundw
        · exact ⟨k + 1, _, by simp, by omega, HF.out⟩
        · simp [intOf]; omega
    · obtain rfl : k = X.length := by omega
      obtain ⟨bpr, hO, kr⟩ := hh.out
      rw [List.take_length] at hO
      clear hh HE
      have hfl : (X.filter fun x => x.p.wr).length ≤ X.length := List.length_filter_le _ _
      have SO := sortB_any (X.filter fun x => x.p.wr) (by omega) hO
      have q3 : wr.cell? ⟨pb, 3, none⟩ = some v3 := by rw [cell_of_block bpr]; rfl
      have hpv : ∀ q, v3.ownBlock = some q → w.heap.size ≤ q := fun q e => (own_block hO.own e).2
      obtain ⟨ub, uc, rfl⟩ := hO.form
      generalize hfz : (X.filter fun x => x.p.wr).length = m1 at *
      have HM1 : Hid ((X.filter fun x => x.p.wr).length = m1) := hfz
      clear hfz
      go_wp2_with fail
      refine SO.mono ?_
      rintro ex w2 ⟨rfl, Y, oY, hperm, hsort, k2⟩
      clear SO q3
      have K2 : Keeps (fun q => q = pb) w w2 := kr.young2 k2 hpv
      have bp2 : w2.heap[pb]? = some (pastC vF vT (.slice va X.length vcap) (.slice ub m1 uc) mb) := (k2.block pb (lt_of_block bpr) (fun e => by have := hpv _ e; omega)).trans bpr
      have hYl : Y.length = m1 := by rw [hperm.length_eq, HM1.out]
      have hYX : ∀ y ∈ Y, y ∈ X := fun y hy => (List.mem_filter.1 (hperm.mem_iff.1 hy)).1
      have hup : Y.Pairwise (fun p q => p.p.la < q.p.la) := by
        have hd : DistL (Y.map (·.p)) := by
          unfold DistL
          have h1 : ((X.filter fun x => x.p.wr).map (fun x => x.p.la)).Sublist (X.map fun x => x.p.la) := List.Sublist.map _ List.filter_sublist
          have h2 : (X.map fun x => x.p.la).Nodup := by have := HI.out.2.1; unfold DistL at this; rw [List.map_map] at this; exact this
          rw [List.map_map]
          exact (hperm.map _).nodup_iff.2 (h1.nodup h2)
        have := wr_strict (Z := Y.map (·.p)) hd (List.pairwise_map.2 hsort)
        rw [List.pairwise_map] at this
        exact this
      have SI : Hid (∀ k, k ≤ (Y.map (·.p)).length → SInv F (setN F (Y.map (·.p)) k) k (fun m => stN F (Y.map (·.p)) (min m.toNat k))) := sinv_all fun p hp e he => by
        obtain ⟨y, hy, rfl⟩ := List.mem_map.1 hp
        exact HI.out.1 y (hYX y hy) e he
      have hm2 := HM.out w2 K2
      have ST0 : StAt w2 mb w2.heap.size (fun _ => none) (setN F (Y.map (·.p)) 0) := ⟨hm2, fun _ => rfl, fun a s e => (by cases e), fun a b s t q e => (by cases e), hm2.lt⟩
      have eY := oY.els cb_len
      have HY : Hid (∀ Z, Keeps (fun q => q = mb) w2 Z → ElsAt Bx.cb 9 Z (.slice ub m1 uc) Y) := fun Z k => (oY.keeps k fun g hg e => by have := (own_block oY.own hg).2; omega).els cb_len
      have HK : Hid (∀ Z, Keeps (fun q => q = mb) w2 Z → Keeps (fun q => q = pb ∨ q = mb) w Z) := fun Z k => (K2.mono fun q _ e => .inl e).trans (k.mono fun q _ e => .inr e)
      have HP : Hid (∀ Z, Keeps (fun q => q = mb) w2 Z → Z.heap[pb]? = some (pastC vF vT (.slice va X.length vcap) (.slice ub m1 uc) mb)) := fun Z k => (k.block pb (lt_of_block bp2) (fun e => hpm e)).trans bp2
      have HPC : Hid (∀ Z, Keeps (fun q => q = mb) w2 Z → Z.cell? ⟨pb, 0, none⟩ = some vF ∧ Z.cell? ⟨pb, 4, none⟩ = some (.map (some mb))) := fun Z k => ⟨by rw [cell_of_block (HP.out Z k)]; rfl, by rw [cell_of_block (HP.out Z k)]; rfl⟩
      have p3 : w2.cell? ⟨pb, 3, none⟩ = some (.slice ub m1 uc) := by rw [cell_of_block bp2]; rfl
      have HR : Hid (oldR w2 w.heap.size (.slice ub m1 uc) Y ∧ Y.Perm (X.filter fun x => x.p.wr) ∧ Y.Pairwise (fun p q => p.p.la < q.p.la) ∧ w.heap.size ≤ w2.heap.size) := ⟨oY, hperm, hup, K2.size⟩
      have HQ : Hid (∀ y ∈ Y, y ∈ X) := hYX
      have hm1 : m1 ≤ 1050000 := by have := HM1.out; omega
      have HYl : Hid (Y.length = m1) := hYl
      have hs2 : pb < w2.heap.size := lt_of_block bp2
      clear hYl oY hperm hsort hup hYX eY bp2 bpr hO kr k2 K2 hpv hm2 hfl
      go_wp2_with fail
      clear p3
      go_loopw [40] (fun u wr => ∃ (n : Nat) (f : Int → Option Sl), u = .int .i64 n ∧ n ≤ m1 ∧ Hid (StAt wr mb w2.heap.size f (setN F (Y.map (·.p)) n)) ∧ Keeps (fun q => q = mb) w2 wr) (fun u _ => m1 - (intOf u).toNat)
      case atStart => exact ⟨0, _, rfl, Nat.zero_le _, ST0, Keeps.refl _ _⟩
      case round =>
        clear ST0
        obtain ⟨W1, hW1⟩ : ∃ W1, W1 = wr := ⟨_, rfl⟩
        subst hW1
        obtain ⟨n, f, rfl, hn, hst, kn⟩ := hrel
        by_cases hltn : n < m1
        · have hni : (n : Int) < m1 := by omega
          have hn0 : (0 : Int) ≤ n := by omega
          have hnY : n < Y.length := by have := HYl.out; omega
          obtain ⟨g, off, rfl, hc⟩ := (HY.out W1 kn).at n hnY
          have hyX := HQ.out (Y[n]) (List.getElem_mem hnY)
          have HWn : Hid (∀ Z, Keeps (fun q => q = mb) w2 Z → ElsAt enC 3 Z (Y[n]).s.v (Y[n]).p.ws) := fun Z k => HW.out Z (HK.out Z k) _ hyX
          have hwn := HI.out.2.2 _ hyX
          have HIn : Hid (∀ e ∈ (Y[n]).p.ws, 0 ≤ e.1 ∧ e.1 < (F.length : Int)) := HI.out.1 _ hyX
          have HSn : Hid (setN F (Y.map (·.p)) (n + 1) = putW F (setN F (Y.map (·.p)) n) ((n : Int) + 1) (Y[n]).p.ws) := by
            show putW F (setN F (Y.map (·.p)) n) ((n : Int) + 1) (((Y.map (·.p))[n]?).getD pt0).ws = _
            rw [List.getElem?_map, List.getElem?_eq_getElem hnY]; rfl
          have wn1 : IntKind.i64.wrap ((n : Int) + 1) = (n : Int) + 1 := by rw [IntKind.wrap_i64]; omega
          generalize hy : Y[n]'hnY = y at *
          clear hy hyX
          obtain ⟨⟨pth, pkd, pfi, pla, pnu, pwr, per, prs, pws, psi, plk⟩, ⟨ra, rn, rc⟩, ⟨sa, sn, sc⟩⟩ := y
          dsimp only [Sl.v] at HWn HIn HSn hwn
          obtain ⟨sa', cap', hsv, hcap'⟩ := (HWn.out W1 kn).shape
          injection hsv with e1 e2 e3
          subst e1 e2 e3
          have y0 := hc 0 _ rfl
          have y1 := hc 1 _ rfl
          have y2 := hc 2 _ rfl
          have y3 := hc 3 _ rfl
          have y4 := hc 4 _ rfl
          have y5 := hc 5 _ rfl
          have y6 := hc 6 _ rfl
          have y7 := hc 7 _ rfl
          have y8 := hc 8 _ rfl
          dsimp only at y0 y1 y2 y3 y4 y5 y6 y7 y8
          simp only [Nat.add_zero] at y0
          have kA := kn.trans (((Keeps.refl (fun _ => False) W1).alloc (.cells #[.int .i64 pth, .int .i64 pkd, .int .i64 pfi, .int .i64 pla, .int .u64 pnu, .bool pwr, .int .i64 per, .slice ra rn rc, .slice sa pws.length sc] 73)).mono fun _ _ f => f.elim)
          have ST1 : Hid (StAt (W1.alloc (.cells #[.int .i64 pth, .int .i64 pkd, .int .i64 pfi, .int .i64 pla, .int .u64 pnu, .bool pwr, .int .i64 per, .slice ra rn rc, .slice sa pws.length sc] 73)) mb w2.heap.size f (putW F (setN F (Y.map (·.p)) n) ((n : Int) + 1) (pws.take 0))) := hst.out.keeps ((Keeps.refl (fun _ => False) W1).alloc (.cells #[.int .i64 pth, .int .i64 pkd, .int .i64 pfi, .int .i64 pla, .int .u64 pnu, .bool pwr, .int .i64 per, .slice ra rn rc, .slice sa pws.length sc] 73)) (fun f => f) (fun _ _ _ f => f)
          clear hst hc
          go_wp2_with fail
          clear y0 y1 y2 y3 y4 y5 y6 y7 y8
          go_loopw [48] (fun u wr => ∃ (j : Nat) (f : Int → Option Sl), u = .int .i64 j ∧ j ≤ pws.length ∧ Hid (StAt wr mb w2.heap.size f (putW F (setN F (Y.map (·.p)) n) ((n : Int) + 1) (pws.take j))) ∧ Keeps (fun q => q = mb) w2 wr) (fun u _ => pws.length - (intOf u).toNat)
          case atStart => exact ⟨0, _, rfl, Nat.zero_le _, ST1, kA⟩
          case round =>
            clear ST1 kA
            obtain ⟨j, f, rfl, hj, hst, kj⟩ := hrel
            by_cases hltj : j < pws.length
            · have hji : (j : Int) < pws.length := by omega
              have hj0 : (0 : Int) ≤ j := by omega
              obtain ⟨g2, off2, rfl, hc⟩ := (HWn.out wr kj).at j hltj
              have hine := HIn.out _ (List.getElem_mem hltj)
              have htk : pws.take (j + 1) = pws.take j ++ [pws[j]] := List.take_succ_eq_append_getElem hltj
              have hpu := putW_push F (setN F (Y.map (·.p)) n) ((n : Int) + 1) (pws.take j) (pws[j])
              rw [← htk] at hpu
              have hsi := sinv_in (W := Y.map (·.p)) (SI.out n (by have := HYl.out; simp; omega)) HIn.out j (by omega)
              have hcr := hsi.cr (pws[j]).1 hine.1 hine.2
              have hcl := hcr.len
              generalize hx : pws[j]'hltj = x at *
              clear hx
              obtain ⟨ad, wd⟩ := x
              have y0 := hc 0 _ rfl
              have y1 := hc 1 _ rfl
              have y2 := hc 2 _ rfl
              dsimp only at y0 y1 y2 hine hcr hcl
              simp only [Nat.add_zero] at y0
              have kB := (Keeps.refl (fun _ => False) wr).alloc (.cells #[.int .u64 ad, .int .u64 wd, .bool false] 75)
              have hsz := kj.size
              have kjB := kj.trans (kB.mono fun _ _ f => f.elim)
              have WR := write_any pb mb w2.heap.size f _ ((n : Int) + 1) _ ad wd vF F (by omega) hine.1 hine.2 hcr (by have : (if j = 0 then (n : Int) else (n : Int) + 1) ≤ (n : Int) + 1 := (by split <;> omega); omega) (wr.alloc (.cells #[.int .u64 ad, .int .u64 wd, .bool false] 75)) (HPC.out _ kjB).1 (HPC.out _ kjB).2 hs2 kjB.size (HFs.out _ (HK.out _ kjB)) (hst.out.keeps kB (fun f => f) (fun _ _ _ f => f))
              unfold WrP at WR
              rw [← hpu] at WR
              clear hst hc hine htk hpu hsi hcr hcl
              go_wp2_with fail
              refine WR.mono ?_
              rintro ex w5 ⟨rfl, ⟨f', st5⟩, k5⟩
              have HF : Hid (StAt w5 mb w2.heap.size f' (putW F (setN F (Y.map (·.p)) n) ((n : Int) + 1) (pws.take (j + 1))) ∧ Keeps (fun q => q = mb) w2 w5) := ⟨st5, kjB.old2 k5⟩
              clear WR st5 k5 kB kjB y0 y1 y2
              go_wp2_with fail
              go_roundw
              · exact ⟨j + 1, f', by simp, by omega, HF.out.1, HF.out.2⟩
              · simp [intOf]; omega
            · obtain rfl : j = pws.length := by omega
              have HF : Hid (StAt wr mb w2.heap.size f (setN F (Y.map (·.p)) (n + 1))) := by rw [HSn.out]; have := hst.out; rw [List.take_length] at this; exact this
              clear hst
              go_wp2_with fail
              go_roundw
              · exact ⟨n + 1, f, by simp, by omega, HF.out, kj⟩
              · simp [intOf]; omega
        · obtain rfl : n = m1 := by omega
          have HF : Hid (∃ vW Y f b1 b2, SeP w pb mb vF vT (.slice va X.length vcap) F X W1 vW Y f b1 b2) := by
            obtain ⟨oY, hperm, hup, hle⟩ := HR.out
            refine ⟨.slice ub n uc, Y, f, w.heap.size, w2.heap.size, HP.out _ kn, OwnR.keeps oY kn (fun g hg e => by have := (own_block (OwnR.own oY) hg).2; omega), hperm, hup, ?_, HK.out _ kn, Nat.le_refl _, hle⟩
            rw [HYl.out]; exact hst.out
          clear hst
          go_wp2_with fail
          go_end0
          exact ⟨rfl, HF.out⟩
end Go.Proofs.YthmiainhaebjiaaGreatDoor


/-
  A loop over a function whose rounds may count on more than cells: what the loop's own book-keeping turns is its record, and nothing else. No statement of the seat is proved here.
-/
namespace Go.Proofs.YthmiainhaebjiaaGreatDoor
open Go.RowKit Go.Shelf

section
variable {F : Fence} {n : Nat} {P : Program} {α : Type}

/-- What a round begins and ends with: the loop's record, the block of deferred calls. -/
structure Book (w W : World) (r : Loop) : Prop where
  book : W.heap[w.heap.size + 1]? = some (.loop r)
  held : W.heap[w.heap.size]? = some (.deferred (some []))

theorem Book.put {w W : World} {r : Loop} (h : Book w W r) (r' : Loop) : Book w (W.putObj (w.heap.size + 1) (.loop r')) r' :=
  ⟨World.putObj_heap_same (Array.getElem?_eq_some_iff.1 h.book).1, (World.putObj_heap_other (by omega)).trans h.held⟩
theorem Book.keeps {w W W' : World} {r : Loop} (h : Book w W r) (k : KeepsFrom w.heap.size W W') : Book w W' r :=
  ⟨k.same _ _ (by omega) h.book rfl, k.same _ _ (Nat.le_refl _) h.held rfl⟩
/-- Blocks of deferred calls from B on are as they were. -/
def HeldOn (B : Nat) (W W' : World) : Prop := ∀ k x, B ≤ k → W.heap[k]? = some (.deferred x) → W'.heap[k]? = some (.deferred x)

theorem Book.own {w W : World} {r : Loop} (hsz : w.heap.size + 2 ≤ W.heap.size) : OwnFrom W.heap.size (fun (_ : Unit) X => Book w X r) := by
  rintro _ A B row hb hgr hr
  have lt1 := (Array.getElem?_eq_some_iff.1 hb.book).1
  exact ⟨(hgr.block _ lt1 (fun e => by have := (hr _ e.symm).1; omega)).trans hb.book, (hgr.block _ (by omega) (fun e => by have := (hr _ e.symm).1; omega)).trans hb.held⟩

end
end Go.Proofs.YthmiainhaebjiaaGreatDoor


/-
  A loop over a function, where the body may count on what comes next. No statement of the seat is proved here.
-/
namespace Go.Proofs.YthmiainhaebjiaaGreatDoor
open Go.RowKit Go.Shelf

section
variable {F : Fence} {n : Nat} {P : Program} {α : Type}

/-- What a function that is ranged over does, asked of the body only where x comes next behind pre, for whatever the caller holds that no turn of a block of the function's own can break. -/
def SeqNext (F : Fence) (n : Nat) (P : Program) (g : Nat) (lb : Array Value) (encs : α → Array Value) (Kp : World → World → Prop) (S Sp : List α → Prop) (N : Nat) (Nx : List α → α → Prop) (w : World) : Prop :=
  ∀ (l : Nat) (J Jx : List α → World → Prop) (W : World), Below w.heap.size w W → OwnFrom W.heap.size J → OwnFrom W.heap.size Jx →
    (∀ pre x W1, J pre W1 → pre.length < N → Nx pre x → YieldAt F (n - 1) P l (encs x) W1 fun e W' => (e = .returned (.bool true) ∧ J (pre ++ [x]) W' ∧ Kp W1 W') ∨ (e = .returned (.bool false) ∧ Jx (pre ++ [x]) W' ∧ HeldOn W.heap.size W1 W')) →
    J [] W → CallsIn F n P g (#[.func (.yield l) #[] #[]] ++ lb) W fun e W' => (∃ v, e = .returned v) ∧ ((∃ xs, S xs ∧ J xs W') ∨ (∃ pre, Sp pre ∧ Jx pre W'))

end
end Go.Proofs.YthmiainhaebjiaaGreatDoor


/-
  A loop over a function whose rounds begin with a variable of their own, which is a new block. No statement of the seat is proved here.
-/
namespace Go.Proofs.YthmiainhaebjiaaGreatDoor
open Go.RowKit Go.Shelf

section
variable {F : Fence} {n : Nat} {P : Program} {α : Type}

/-- The loop, where a round begins with a variable of its own: a new block. -/
theorem range_new {g : Operand} {ps : Array Tmp} {assign body : Code} {Q : Exit → Act → World → Prop} {a : Act} {w : World} (hro : F.round = none) (h1 : 1 ≤ n) {gf : Nat} {lb : Array Value} (hg : a.eval g = .func (.func gf) #[] lb) (hFg : F.fn gf)
    (eg : ∀ args w, (callFunc gf args).run P w = .ok (.enter gf args) w) {encs : α → Array Value} {Kp : World → World → Prop} {S Sp : List α → Prop} {N : Nat} {Nx : List α → α → Prop} {w0 : World} (hseq : SeqNext F (n - 1) P gf lb encs Kp S Sp N Nx w0) (hb0 : Below w0.heap.size w0 w)
    (hKt : ∀ {A B C : World}, Kp A B → Kp B C → Kp A C) (hKa : ∀ (W : World) (o : Obj), Kp W (W.alloc o)) (hKl : ∀ (W : World) (r r' : Loop), W.heap[w.heap.size + 1]? = some (.loop r) → Kp W (W.putObj (w.heap.size + 1) (.loop r'))) (hps : ∀ x, (encs x).size = ps.size)
    (I : List α → World → Prop) (Ix : Code → List α → World → Prop) (hI : OwnFrom w.heap.size I) (hIx : ∀ c, OwnFrom w.heap.size (Ix c)) (h0 : I [] w) (ob : α → Obj) (a₁ : α → Nat → Act)
    (hassign : ∀ (l : Nat) (x : α) (W : World) (K : Act → World → Prop) (b : Nat), W.heap.size = b → K (a₁ x b) (W.alloc (ob x)) →
      assign.wpIn (F.inRound l) (n - 1 - 1) P (Exit.then K (fun _ _ _ => False)) { tmps := (ps.zip (encs x)).foldl (fun t (p, v) => t.setIfInBounds p v) a.tmps, defers := [] } W)
    (hbody : ∀ (l : Nat) (pre : List α) (x : α) (W : World), I pre W → pre.length < N → Nx pre x → ∀ b, W.heap[b]? = some (ob x) → b + 1 = W.heap.size → w.heap.size + 2 ≤ b → body.wpIn (F.inRound l) (n - 1 - 1) P (ownPostG w.heap.size Kp I Ix (pre ++ [x]) W) (a₁ x b) W)
    (hdone : ∀ (xs : List α) (W : World), S xs → I xs W → W.heap[w.heap.size]? = some (.deferred (some [])) → Q .normal { a with defers := { target := .collected w.heap.size, args := #[] } :: a.defers } W)
    (hstop : ∀ (c : Code) (pre : List α) (W : World), Sp pre → Ix c pre W → W.heap[w.heap.size]? = some (.deferred (some [])) → c.wpIn F n P Q { a with defers := { target := .collected w.heap.size, args := #[] } :: a.defers } W) :
    (Code.rangeFunc g ps assign body).wpIn F n P Q a w := by
  refine wpIn_rangeFunc fun fn hfn => ?_
  rw [hro]
  let rc : LoopState → Option Code → Loop := fun st pe => { state := st, pending := pe, fn, tmps := a.tmps, params := ps, assign, body, defers := w.heap.size }
  obtain ⟨W1, hW1⟩ : ∃ W1, (w.alloc (.deferred (some []))).alloc (.loop (rc .ready none)) = W1 := ⟨_, rfl⟩
  have hbk : Book w W1 (rc .ready none) := by
    rw [← hW1]
    have e1 := alloc_block (w.alloc (.deferred (some []))) (.loop (rc .ready none))
    rw [World.size_alloc] at e1
    exact ⟨e1, alloc_old (alloc_block w _) _⟩
  have hI1 : I [] W1 := by rw [← hW1]; exact hI.alloc _ (hI.alloc _ h0)
  have hB1 : Below w0.heap.size w0 W1 := by rw [← hW1]; exact hb0.trans ((((Below.refl _ w).alloc (Nat.le_refl _) _).alloc (by simp) _).mono hb0.size)
  have hsz : w.heap.size + 2 ≤ W1.heap.size := by rw [← hW1]; simp
  have turn : ∀ {β : Type} {T : β → World → Prop} {s : β} {W : World} {r : Loop} (r' : Loop), OwnFrom w.heap.size T → T s W → Book w W r → T s (W.putObj (w.heap.size + 1) (.loop r')) := fun r' hT hs hb => hT.putObj _ hs (by omega) hb.book rfl
  refine ⟨w.heap.size + 1, [{ target := .collected w.heap.size, args := #[] }], W1, { target := .fn (.func gf) lb, args := #[.func (.yield (w.heap.size + 1)) #[] #[]] }, W1, gf, #[.func (.yield (w.heap.size + 1)) #[] #[]] ++ lb, W1, ?_, ?_, ?_, ?_, fun _ => h1, ?_⟩
  · rw [← hW1]
    exact run_enterLoop_outer _ _ _ _ _
  · simp only [resolve, hg]
    simp [go_sem]
  · intro f' hf'
    simp [Target.leads] at hf'
    subst hf'
    exact hFg
  · simp [invoke, go_sem, eg]
  refine (hseq (w.heap.size + 1) (fun pre W => I pre W ∧ Book w W (rc .ready none)) (fun pre W => ∃ c, Ix c pre W ∧ Book w W (rc .done (some c))) W1 hB1 ?_ ?_ ?_ ⟨hI1, hbk⟩).mono ?_
  · rintro s A B row ⟨hs, hb⟩ hgr hr
    exact ⟨hI s A B row hs hgr (fun r e => ⟨by have := (hr r e).1; omega, (hr r e).2⟩), Book.own hsz () A B row hb hgr hr⟩
  · rintro s A B row ⟨c, hs, hb⟩ hgr hr
    exact ⟨c, hIx c s A B row hs hgr (fun r e => ⟨by have := (hr r e).1; omega, (hr r e).2⟩), Book.own hsz () A B row hb hgr hr⟩
  · rintro pre x W0 ⟨hi0, hb0'⟩ hlen hnx
    have hb : Book w (W0.alloc (ob x)) (rc .ready none) := ⟨alloc_old hb0'.book _, alloc_old hb0'.held _⟩
    have hi := hI.alloc (ob x) hi0
    refine ⟨fn, _, assign, body, run_yield (P := P) (args := encs x) hb0'.book (hps x), roundIn_of_wpIn hfn (hassign _ x W0 _ W0.heap.size rfl ⟨_, run_beginRound hb.book rfl, ?_⟩)⟩
    have hbk0 := (Array.getElem?_eq_some_iff.1 hb0'.book).1
    have hob := alloc_block W0 (ob x)
    have hWs : (W0.alloc (ob x)).heap.size = W0.heap.size + 1 := by simp
    have hold : ∀ (k : Nat) (o : Obj), W0.heap[k]? = some o → (W0.alloc (ob x)).heap[k]? = some o := fun k o h => alloc_old h _
    have hka := hKa W0 (ob x)
    generalize W0.alloc (ob x) = W at hb hi hob hWs hold hka ⊢
    have hb2 := hb.put (rc .busy none)
    have hk0 : Kp W0 (W.putObj (w.heap.size + 1) (.loop (rc .busy none))) := hKt hka (hKl W _ _ hb.book)
    refine wpIn_mono (hbody (w.heap.size + 1) pre x _ (turn _ hI hi hb) hlen hnx W0.heap.size ((World.putObj_heap_other (by omega)).trans hob) (by simp [World.putObj]; omega) (by omega)) ?_
    have leave : ∀ (c : Code) (W3 : World), KeepsFrom w.heap.size (W.putObj (w.heap.size + 1) (.loop (rc .busy none))) W3 → Ix c (pre ++ [x]) W3 →
        ∃ v W4, (Instr.endRound (w.heap.size + 1) (some c)).run P W3 = .ok v W4 ∧ ((v = .bool true ∧ False) ∨ (v = .bool false ∧ (∃ c, Ix c (pre ++ [x]) W4 ∧ Book w W4 (rc .done (some c))) ∧ HeldOn W1.heap.size W0 W4)) := fun c W3 hk hx => by
      have hb3 := hb2.keeps hk
      refine ⟨_, _, run_endRound (some c) hb3.book, .inr ⟨rfl, ⟨c, turn _ (hIx c) hx hb3, hb3.put _⟩, fun k y hB hy => ?_⟩⟩
      exact (World.putObj_heap_other (by omega)).trans (hk.same k _ (by omega) ((World.putObj_heap_other (by omega)).trans (hold k _ hy)) rfl)
    rintro e a3 W3 hp
    cases e with
    | normal =>
      obtain ⟨hk3, hkp, hi3⟩ := hp
      have hb3 := hb2.keeps hk3
      exact ⟨_, _, run_endRound none hb3.book, .inl ⟨rfl, ⟨turn _ hI hi3 hb3, hb3.put _⟩, hKt (hKt hk0 hkp) (hKl _ _ _ hb3.book)⟩⟩
    | ret =>
      obtain ⟨v, W4, e1, h | ⟨rfl, h⟩⟩ := leave .ret W3 hp.1 hp.2
      · exact h.2.elim
      · exact ⟨_, W4, e1, .inr ⟨rfl, h⟩⟩
    | exit id =>
      obtain ⟨v, W4, e1, h | ⟨rfl, h⟩⟩ := leave (.exit id) W3 hp.1 hp.2
      · exact h.2.elim
      · exact ⟨_, W4, e1, .inr ⟨rfl, h⟩⟩
    | goto t =>
      obtain ⟨v, W4, e1, h | ⟨rfl, h⟩⟩ := leave (.goto t) W3 hp.1 hp.2
      · exact h.2.elim
      · exact ⟨_, W4, e1, .inr ⟨rfl, h⟩⟩
    | panic ch => exact hp.elim
    | outgrown => exact hp.elim
  · rintro e W2 ⟨⟨v, rfl⟩, ⟨xs, hS, hi, hb⟩ | ⟨pre, hSp, c, hx, hb⟩⟩
    · exact ⟨none, _, run_endLoop hb.book (by simp [rc]), hdone xs _ hS (turn _ hI hi hb) (hb.put _).held⟩
    · exact ⟨some c, _, run_endLoop hb.book (by simp [rc]), hstop c pre _ hSp (turn _ (hIx c) hx hb) (hb.put _).held⟩
end
end Go.Proofs.YthmiainhaebjiaaGreatDoor
