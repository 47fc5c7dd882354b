
/- How bytes that come in read. No statement of the seat is proved here. -/
import Derived.Test.YtijommlodgpphaaDoorRdQ
import Derived.Test.YtijommlodgpphaaDoorCdM
namespace Go.Proofs.YtijommlodgpphaaDoor
open Go.ChangeShapes Go.WideShapes Go.ChangeAt Go.RowKit Go.Shelf

theorem choose_by {P : Nat → UInt8 → Prop} : ∀ n, (∀ k, k < n → ∃ i, P k i) → ∃ L : List UInt8, L.length = n ∧ ∀ k (hk : k < L.length), P k (L[k])
  | 0, _ => ⟨[], rfl, fun k hk => by simp at hk⟩
  | n + 1, h => by
    obtain ⟨L, hl, hL⟩ := choose_by n (fun k hk => h k (by omega))
    obtain ⟨i, hi⟩ := h n (by omega)
    refine ⟨L ++ [i], by simp [hl], fun k hk => ?_⟩
    by_cases hkl : k < L.length
    · rw [List.getElem_append_left hkl]; exact hL k hkl
    · obtain rfl : k = L.length := by simp at hk; omega
      rw [List.getElem_append_right (Nat.le_refl _)]
      simp only [Nat.sub_self, List.getElem_cons_zero]
      rw [hl]; exact hi
section
variable {H : Type} {enc : TypeId × Value → H} {W : World}
/-- Bytes as they lie, without the bound. -/
def BtLies (W : World) (v : Value) (l : List UInt8) : Prop := ∃ a cap, v = .slice a l.length cap ∧ l.length ≤ cap ∧ ∀ k (hk : k < l.length), ∃ g off, a = some ⟨g, off, none⟩ ∧ W.cell? ⟨g, off + k, none⟩ = some (.int .u8 (l[k]).toNat)
theorem BtLies.at {v : Value} {l : List UInt8} (h : BtLies W v l) (hb : l.length ≤ 140737488355328) : BtAt W v l := ⟨h, hb⟩
set_option maxRecDepth 100000 in
theorem open_bts {v : Value} {d : DataW H} {ps : List MemPlace} {base : Nat} (hok : Value.okWide Tryd.prog W .any base 22 v) (h : DataW.Trod enc Tryd.prog W 0 (fun _ => true) true 22 v d ps) :
    ∃ L : List UInt8, BtLies W v L ∧ ((d = .nil ∧ L = []) ∨ ∃ elems spare, d = .slice elems spare ∧ elems.length = L.length) := by
  obtain ⟨a, len, cap, rfl⟩ := okWide_slice Tryd.underlying22 hok
  obtain ⟨fuel, hf⟩ := h
  rcases Deep.open_slice Tryd.underlying22 hf with ⟨hcs, hx⟩ | ⟨x, l, c, m, n, D, Pl, hcs, _, hl, hm, hmm, hx, hcell⟩
  · simp [Value.cells] at hcs
    obtain ⟨rfl, rfl, rfl⟩ := hcs
    exact ⟨[], ⟨none, 0, rfl, Nat.le_refl _, fun k hk => absurd hk (by simp)⟩, .inl ⟨(Prod.mk.inj hx).1, rfl⟩⟩
  · simp [Value.cells] at hcs
    obtain ⟨rfl, rfl, rfl⟩ := hcs
    simp at hmm
    subst hmm
    have hd := (Prod.mk.inj hx).1
    have key : ∀ k, k < len → ∃ b : UInt8, ∃ g off, x = ⟨g, off, none⟩ ∧ W.cell? ⟨g, off + k, none⟩ = some (.int .u8 b.toNat) := fun k hk => by
      obtain ⟨cs', h1, h2⟩ := hcell k (by omega)
      rw [cellsB] at h1
      obtain ⟨_, hlen, hc⟩ := World.cells?_some h1
      obtain ⟨b, e0, _, w0⟩ := DataW.trod_int Tryd.underlying5 h2
      subst e0
      have hb : 0 ≤ b ∧ b < 256 := by
        simp [Lit.wf, IntKind.min, IntKind.max, IntKind.signed, IntKind.bits] at w0
        omega
      have hc0 := hc 0 (by omega)
      have hsp : x.spot = none := by
        obtain ⟨cs0, h10, h20⟩ := hcell 0 (by omega)
        rw [cellsB] at h10
        obtain ⟨_, hlen0, hc1⟩ := World.cells?_some h10
        obtain ⟨b0, e1, _, _⟩ := DataW.trod_int Tryd.underlying5 h20
        subst e1
        have := hc1 0 (by omega)
        simp [Addr.add] at this
        exact cell_spot this
      obtain ⟨xb, xo, xs⟩ := x
      cases hsp
      refine ⟨UInt8.ofNat b.toNat, xb, xo, rfl, ?_⟩
      rw [addr_add, addr_add] at hc0
      have hbb : ((UInt8.ofNat b.toNat).toNat : Int) = b := by
        have : (UInt8.ofNat b.toNat).toNat = b.toNat := by simp; omega
        rw [this]; omega
      rw [hbb]
      simpa using hc0
    obtain ⟨L, hLl, hL⟩ := choose_by len key
    refine ⟨L, ⟨some x, _, by rw [hLl], by rw [hLl]; exact hl, fun k hk => ?_⟩, .inr ⟨_, _, hd, by simp [hLl]⟩⟩
    obtain ⟨g, off, rfl, q⟩ := hL k hk
    exact ⟨g, off, rfl, q⟩
end
end Go.Proofs.YtijommlodgpphaaDoor
