import Derived.Test.YthmiainhaebjiaaGreatDoorNnOsJ
import Derived.Test.YthmiainhaebjiaaGreatDoorM35OqM0

/- The law OpaqueCells (layer 16) holds of any arguments of this size. No statement of the seat is proved here. -/
namespace Go.Proofs.YthmiainhaebjiaaGreatDoor
open Go.RowKit Go.Shelf

theorem cells_law (vF v vs : Value) (m : Int) (F : List Int) (L : List Ev) (ws : List (Int × Int)) (hFl : F.length ≤ 1050000) (hl : L.length ≤ 1050000) (hwl : ws.length ≤ 1050000) (hw0 : ∀ e ∈ ws, 0 ≤ e.1) (w : World) (hv : EvsAt w v L) (hF : WsAt w vF F) (hs : ElsAt clC 2 w vs ws) (hg : Gv w) (h8 : 2 ≤ w.heap.size) :
    Calls Tryz.prog 3 #[vF, v, .int .i64 m, vs] w fun ex w' => ex = .returned (.bool true) ∧ Keeps (fun _ => False) w w' := by
  obtain ⟨a1, e1, Z1, a2, e2, Z2, a3, e3, Z3, C⟩ := cea_any hFl hl hv.wf m ws (by omega) hw0
  exact cells_walk vF v vs m F L ws hFl hl hwl w hv hF hs hg h8 C
end Go.Proofs.YthmiainhaebjiaaGreatDoor

/- How cells that come in read (layer 16). No statement of the seat is proved here. -/
namespace Go.Proofs.YthmiainhaebjiaaGreatDoor
open Go.ChangeShapes Go.WideShapes Go.ChangeAt Go.RowKit Go.Shelf

theorem cellsCe : Tryz.prog.cellsOf 28 = 2 := by kernel_rfl
theorem bytesCe : Tryz.prog.bytesOf 28 = 16 := by kernel_rfl

section
variable {H : Type} {enc : TypeId × Value → H} {W : World}
set_option maxRecDepth 100000 in
theorem open_ce2 {fuel : Nat} {cs : List Value} {x : DataW H × List MemPlace} (h : DataW.trod enc Tryz.prog W 0 (fun _ => true) true fuel 28 cs = some x) (hlen : cs.length = 2) :
    ∃ e : Int × Int, cs = clC e ∧ 0 ≤ e.1 := by
  obtain ⟨xs, k, hk, hxy, _, hxl, hf⟩ := DataW.trod_struct Tryz.underlying28 h
  match xs, hxl, cs, hlen with
  | [y0, y1], _, [v0, v1], _ =>
    have g0 := hf 0 _ rfl
    have g1 := hf 1 _ rfl
    simp [cellsU] at g0 g1
    obtain ⟨n0, e0, _, w0⟩ := DataW.trod_int Tryz.underlying26 g0
    obtain ⟨n1, e1, _, _⟩ := DataW.trod_int Tryz.underlying26 g1
    simp at e0 e1
    subst e0 e1
    exact ⟨(n0, n1), rfl, (wf_u64 w0).1⟩
theorem choose_cel {P : Nat → Int × Int → Prop} : ∀ n, (∀ k, k < n → ∃ i, P k i) → ∃ L : List (Int × Int), L.length = n ∧ ∀ k (hk : k < L.length), P k (L[k])
  | 0, _ => ⟨[], rfl, fun k hk => by simp at hk⟩
  | n + 1, h => by
    obtain ⟨L, hl, hL⟩ := choose_cel n (fun k hk => h k (by omega))
    obtain ⟨i, hi⟩ := h n (by omega)
    refine ⟨L ++ [i], by simp [hl], fun k hk => ?_⟩
    by_cases hkl : k < L.length
    · rw [List.getElem_append_left hkl]; exact hL k hkl
    · obtain rfl : k = L.length := by simp at hk; omega
      rw [List.getElem_append_right (Nat.le_refl _)]
      simp only [Nat.sub_self, List.getElem_cons_zero]
      rw [hl]; exact hi
set_option maxRecDepth 100000 in
theorem open_cel {v : Value} {d : DataW H} {ps : List MemPlace} {base : Nat} (hok : Value.okWide Tryz.prog W .any base 24 v) (h : DataW.Trod enc Tryz.prog W 0 (fun _ => true) true 24 v d ps) :
    ∃ L : List (Int × Int), (ElsAt clC 2 W v L ∧ ∀ e ∈ L, 0 ≤ e.1) ∧ ((d = .nil ∧ L = []) ∨ ∃ elems spare, d = .slice elems spare ∧ elems.length = L.length) := by
  obtain ⟨a, len, cap, rfl⟩ := okWide_slice Tryz.underlying24 hok
  obtain ⟨fuel, hf⟩ := h
  rcases Deep.open_slice Tryz.underlying24 hf with ⟨hcs, hx⟩ | ⟨x, l, c, m, n, D, Pl, hcs, _, hl, hm, hmm, hx, hcell⟩
  · simp [Value.cells] at hcs
    obtain ⟨rfl, rfl, rfl⟩ := hcs
    exact ⟨[], ⟨⟨none, 0, rfl, Nat.le_refl _, fun k hk => absurd hk (by simp)⟩, by simp⟩, .inl ⟨(Prod.mk.inj hx).1, rfl⟩⟩
  · simp [Value.cells] at hcs
    obtain ⟨rfl, rfl, rfl⟩ := hcs
    simp at hmm
    subst hmm
    have hd := (Prod.mk.inj hx).1
    have key : ∀ k, k < len → ∃ e : Int × Int, 0 ≤ e.1 ∧ ∃ g off, x = ⟨g, off, none⟩ ∧ ∀ f y, (clC e)[f]? = some y → W.cell? ⟨g, off + k * 2 + f, none⟩ = some y := fun k hk => by
      obtain ⟨cs', h1, h2⟩ := hcell k (by omega)
      rw [cellsCe] at h1
      obtain ⟨_, hlen, hc⟩ := World.cells?_some h1
      obtain ⟨s, rfl, hwf⟩ := open_ce2 h2 hlen
      have hsp : x.spot = none := by
        obtain ⟨cs0, h10, h20⟩ := hcell 0 (by omega)
        rw [cellsCe] at h10
        obtain ⟨_, hlen0, hc0⟩ := World.cells?_some h10
        obtain ⟨s0, rfl, _⟩ := open_ce2 h20 hlen0
        have := hc0 0 (by omega)
        simp [Addr.add] at this
        exact cell_spot this
      obtain ⟨xb, xo, xs⟩ := x
      cases hsp
      refine ⟨s, hwf, xb, xo, rfl, fun f y hy => ?_⟩
      have hf6 : f < 2 := (List.getElem?_eq_some_iff.1 hy).1
      have e := (congrArg W.cell? (show (⟨xb, xo + k * 2 + f, none⟩ : Addr) = ((⟨xb, xo, none⟩ : Addr).add (k * 2)).add f by rw [addr_add, addr_add])).trans (hc f hf6)
      rw [e]
      obtain ⟨_, hy2⟩ := List.getElem?_eq_some_iff.1 hy
      first | rw [hy2] | rw [← hy]
    obtain ⟨L, hLl, hL⟩ := choose_cel len key
    refine ⟨L, ⟨⟨some x, _, by rw [hLl], by omega, fun k hk => ?_⟩, ?_⟩, .inr ⟨_, _, hd, by simp [hLl]⟩⟩
    · obtain ⟨_, g, off, rfl, q⟩ := hL k hk
      exact ⟨g, off, rfl, q⟩
    · intro i hi
      obtain ⟨k, hk, rfl⟩ := List.getElem_of_mem hi
      exact (hL k hk).1
end
end Go.Proofs.YthmiainhaebjiaaGreatDoor
