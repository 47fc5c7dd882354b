
/- How truths that come in read. No statement of the seat is proved here. -/
import Derived.Test.YtljapgoeomedkaaDoorChU
namespace Go.Proofs.YtljapgoeomedkaaDoor
open Go.ChangeShapes Go.WideShapes Go.ChangeAt Go.RowKit Go.Shelf

theorem bytesBl : Tryd.prog.bytesOf 4 = 1 := by kernel_rfl
theorem choose_bl {P : Nat → Bool → Prop} : ∀ n, (∀ k, k < n → ∃ i, P k i) → ∃ L : List Bool, L.length = n ∧ ∀ k (hk : k < L.length), P k (L[k])
  | 0, _ => ⟨[], rfl, fun k hk => by simp at hk⟩
  | n + 1, h => by
    obtain ⟨L, hl, hL⟩ := choose_bl n (fun k hk => h k (by omega))
    obtain ⟨i, hi⟩ := h n (by omega)
    refine ⟨L ++ [i], by simp [hl], fun k hk => ?_⟩
    by_cases hkl : k < L.length
    · rw [List.getElem_append_left hkl]; exact hL k hkl
    · obtain rfl : k = L.length := by simp at hk; omega
      rw [List.getElem_append_right (Nat.le_refl _)]
      simp only [Nat.sub_self, List.getElem_cons_zero]
      rw [hl]; exact hi
section
variable {H : Type} {enc : TypeId × Value → H} {W : World}
set_option maxRecDepth 100000 in
theorem open_bools {v : Value} {d : DataW H} {ps : List MemPlace} {base : Nat} (hok : Value.okWide Tryd.prog W .any base 69 v) (h : DataW.Trod enc Tryd.prog W 0 (fun _ => true) true 69 v d ps) :
    ∃ L : List Bool, (∃ a cap, v = .slice a L.length cap ∧ ∀ k (hk : k < L.length), ∃ g off, a = some ⟨g, off, none⟩ ∧ W.cell? ⟨g, off + k, none⟩ = some (.bool (L[k]'hk))) ∧ ((d = .nil ∧ L = []) ∨ ∃ elems spare, d = .slice elems spare ∧ elems.length = L.length) := by
  obtain ⟨a, len, cap, rfl⟩ := okWide_slice Tryd.underlying69 hok
  obtain ⟨fuel, hf⟩ := h
  rcases Deep.open_slice Tryd.underlying69 hf with ⟨hcs, hx⟩ | ⟨x, l, c, m, n, D, Pl, hcs, _, hl, hm, hmm, hx, hcell⟩
  · simp [Value.cells] at hcs
    obtain ⟨rfl, rfl, rfl⟩ := hcs
    exact ⟨[], ⟨none, 0, rfl, fun k hk => absurd hk (by simp)⟩, .inl ⟨(Prod.mk.inj hx).1, rfl⟩⟩
  · simp [Value.cells] at hcs
    obtain ⟨rfl, rfl, rfl⟩ := hcs
    simp at hmm
    subst hmm
    have hd := (Prod.mk.inj hx).1
    have key : ∀ k, k < len → ∃ b : Bool, ∃ g off, x = ⟨g, off, none⟩ ∧ W.cell? ⟨g, off + k, none⟩ = some (.bool b) := fun k hk => by
      obtain ⟨cs', h1, h2⟩ := hcell k (by omega)
      rw [cellsBl] at h1
      obtain ⟨_, hlen, hc⟩ := World.cells?_some h1
      obtain ⟨b, rfl, _⟩ := DataW.trod_bool Tryd.underlying4 h2
      have hc0 := hc 0 (by omega)
      have hsp : x.spot = none := by
        obtain ⟨cs0, h10, h20⟩ := hcell 0 (by omega)
        rw [cellsBl] at h10
        obtain ⟨_, hlen0, hc1⟩ := World.cells?_some h10
        obtain ⟨b0, rfl, _⟩ := DataW.trod_bool Tryd.underlying4 h20
        have := hc1 0 (by omega)
        simp [Addr.add] at this
        exact cell_spot this
      obtain ⟨xb, xo, xs⟩ := x
      cases hsp
      refine ⟨b, xb, xo, rfl, ?_⟩
      rw [addr_add, addr_add] at hc0
      simpa using hc0
    obtain ⟨L, hLl, hL⟩ := choose_bl len key
    refine ⟨L, ⟨some x, _, by rw [hLl], fun k hk => ?_⟩, .inr ⟨_, _, hd, by simp [hLl]⟩⟩
    obtain ⟨g, off, rfl, q⟩ := hL k hk
    exact ⟨g, off, rfl, q⟩
end
end Go.Proofs.YtljapgoeomedkaaDoor
