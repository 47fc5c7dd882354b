
/- Rows of whole numbers, sorted and made compact by the library. No statement of the seat is proved here. -/
import Derived.Test.YtljapgoeomedkaaDoorChB
import Derived.Test.YtljapgoeomedkaaDoorLay
import Derived.Sort.OwnSortedInts
import Derived.Lib.OwnBridge
import Derived.Shelf.Slices.In.SortNone
namespace Go.Proofs.YtljapgoeomedkaaDoor
open Go.RowKit Go.Shelf Go.Sort

/-- slices.Sort of such a row. -/
theorem sort_any {w : World} {base : Nat} {v : Value} {L : List Int} (h : Its w base v L) (hl : L.length < 4611686018427387904) :
    Calls Tryd.prog 48 #[v] w fun e w' => e = .returned (.tuple #[]) ∧ Its w' base v (L.mergeSort fun x y => decide (x ≤ y)) ∧ Grew w w' v v := by
  by_cases hv : v = .slice none 0 0
  · subst hv
    have hL : L = [] := by
      rcases h.own.2 with ⟨_, h2⟩ | ⟨g, cap, cur, hv, _⟩
      · exact List.length_eq_zero_iff.1 h2
      · cases hv
    subst hL
    refine (Any.slices_Sort_int_none lays189 none 0 w).mono fun e w' ⟨h1, h2⟩ => ?_
    subst h2
    exact ⟨h1, by simpa using h, Grew.refl _ _⟩
  · obtain ⟨g, cap, rfl, hbg, hgl, hnc, hcm, hlen, hH⟩ := Lib.holds_of_ownsRow h.own hv
    refine (Any.slices_Sort_int lays189 g 0 cap L w hH hgl hl).mono fun e w' ⟨h1, nn, os, h2⟩ => ?_
    subst h2
    rcases h.own.2 with ⟨h0, _⟩ | ⟨g', cap', cur, hv', hbase, hb, q1, q2, q3, q4⟩
    · cases h0
    cases hv'
    have hs := ownsRow_sortedI (n := nn) (os := os) (ts := L.mergeSort fun x y => decide (x ≤ y)) (List.length_mergeSort L) hbase hb q1 q2 q3
    have hg := grownBy_sortedI (w := w) (g := g) (n := nn) (os := os) (L.mergeSort fun x y => decide (x ≤ y)).toArray
    refine ⟨h1, ⟨by rw [List.length_mergeSort]; exact hs, Nat.le_trans h.base hg.size⟩, ⟨(Keeps.refl _ _).grown hg fun k hk => .inr (by rw [← hk]; rfl), .inl rfl⟩⟩

/-- slices.Compact of such a row. -/
theorem compact_any {w : World} {base : Nat} {v : Value} {L : List Int} (h : Its w base v L) (hl : L.length < 4611686018427387904) :
    Calls Tryd.prog 52 #[v] w fun e w' => ∃ v', e = .returned v' ∧ Its w' base v' (Lib.compact L) ∧ Grew w w' v v' := by
  by_cases hv : v = .slice none 0 0
  · subst hv
    have hL : L = [] := by
      rcases h.own.2 with ⟨_, h2⟩ | ⟨g, cap, cur, hv, _⟩
      · exact List.length_eq_zero_iff.1 h2
      · cases hv
    subst hL
    refine (Any.slices_Compact_int_empty laysc20 none 0 w).mono fun e w' ⟨h1, h2⟩ => ?_
    subst h2
    exact ⟨_, h1, h, Grew.refl _ _⟩
  · obtain ⟨g, cap, rfl, hbg, hgl, hnc, hcm, hlen, hH⟩ := Lib.holds_of_ownsRow h.own hv
    refine (Any.slices_Compact_int laysc20 g 0 cap L w hH (by omega) hnc).mono fun e w' ⟨h1, q, h2⟩ => ?_
    subst h2
    have hle := Lib.compact_length_le L
    have hc := Lib.ownsRow_putRow (q := q) (k := (Lib.compact L).length) (ys := Lib.compact L ++ List.replicate (L.length - (Lib.compact L).length) 0) h.own (by simp; omega) (by omega)
    rw [List.take_left] at hc
    refine ⟨_, h1, ⟨hc, ?_⟩, ⟨⟨rfl, rfl, rfl, ?_, fun k hk hs => ?_⟩, .inl rfl⟩⟩
    · simpa [putRow, mapBlock, Sort.ahead] using h.base
    · simp [putRow, mapBlock, Sort.ahead]
    · have : g ≠ k := fun e => hs (by rw [e]; rfl)
      simp [putRow, mapBlock, Sort.ahead, Array.getElem?_modify, this]
end Go.Proofs.YtljapgoeomedkaaDoor
