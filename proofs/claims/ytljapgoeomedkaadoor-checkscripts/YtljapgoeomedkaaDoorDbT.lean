
/- How a script that comes in reads. No statement of the seat is proved here. -/
import Derived.Test.YtljapgoeomedkaaDoorDbE
import Derived.Test.YtljapgoeomedkaaDoorChU
namespace Go.Proofs.YtljapgoeomedkaaDoor
open Go.ChangeShapes Go.WideShapes Go.ChangeAt Go.RowKit Go.Shelf

theorem cellsL : Tryd.prog.cellsOf 22 = 1 := by kernel_rfl
theorem cellsLL : Tryd.prog.cellsOf 60 = 1 := by kernel_rfl
theorem cellsSc : Tryd.prog.cellsOf 63 = 4 := by kernel_rfl
theorem cellsU6 : Tryd.prog.cellsOf 59 = 1 := by kernel_rfl
theorem cellsU3 : Tryd.prog.cellsOf 61 = 1 := by kernel_rfl
theorem bytesSl : Tryd.prog.bytesOf 22 = 24 := by kernel_rfl
theorem weightsAll_mem {H : Type} {P : Program} {e : TypeId} : ∀ {l : List (DataW H)} {d : DataW H}, d ∈ l → ∀ n ∈ d.weights P e, n ∈ DataW.weightsAll P e l
  | d' :: r, d, hd, n, hn => by
    simp only [DataW.weightsAll, List.mem_append]
    rcases List.mem_cons.1 hd with rfl | h
    · exact Or.inl hn
    · exact Or.inr (weightsAll_mem h n hn)
section
variable {H : Type} {enc : TypeId × Value → H} {W : World}
/-- How a datum of instructions is shaped. -/
def InsD (d : DataW H) (L : List I5) : Prop := (d = .nil ∧ L = []) ∨ ∃ elems spare, d = .slice elems spare ∧ elems.length = L.length
set_option maxRecDepth 100000 in
theorem open_insl2 {u : Value} {fuel : Nat} {x : DataW H × List MemPlace} (hf : DataW.trod enc Tryd.prog W 0 (fun _ => true) true fuel 22 [u] = some x) : ∃ L : List I5, InsLies W u L ∧ InsD x.1 L := by
  rcases Deep.open_slice Tryd.underlying22 hf with ⟨hcs, hx⟩ | ⟨x, l, c, m, n, D, Pl, hcs, _, hl, hm, hmm, hx, hcell⟩
  · simp at hcs
    subst hcs
    exact ⟨[], ⟨⟨none, 0, rfl, fun k hk => absurd hk (by simp)⟩, by simp⟩, .inl ⟨by rw [hx], rfl⟩⟩
  · simp at hcs
    subst hcs
    simp at hmm
    subst hmm
    have key : ∀ k, k < l → ∃ i : I5, i.wf ∧ ∃ g off, x = ⟨g, off, none⟩ ∧ W.cell? ⟨g, off + k * 5, none⟩ = some (.int .i64 i.op) ∧ W.cell? ⟨g, off + k * 5 + 1, none⟩ = some (.int .i64 i.a) ∧ W.cell? ⟨g, off + k * 5 + 2, none⟩ = some (.int .i64 i.b) ∧ W.cell? ⟨g, off + k * 5 + 3, none⟩ = some (.int .i64 i.c) ∧ W.cell? ⟨g, off + k * 5 + 4, none⟩ = some (.int .u64 i.n) := fun k hk => by
      obtain ⟨cs', h1, h2⟩ := hcell k (by omega)
      rw [cellsI] at h1
      obtain ⟨_, hlen, hc⟩ := World.cells?_some h1
      obtain ⟨s, rfl, hwf⟩ := open_ins5 h2 hlen
      have hsp : x.spot = none := by
        obtain ⟨cs0, h10, h20⟩ := hcell 0 (by omega)
        rw [cellsI] at h10
        obtain ⟨_, hlen0, hc0⟩ := World.cells?_some h10
        obtain ⟨s0, rfl, _⟩ := open_ins5 h20 hlen0
        have := hc0 0 (by omega)
        simp [Addr.add] at this
        exact cell_spot this
      obtain ⟨xb, xo, xs⟩ := x
      cases hsp
      have e := fun (j : Nat) (hj : j < 5) => (congrArg W.cell? (show (⟨xb, xo + k * 5 + j, none⟩ : Addr) = ((⟨xb, xo, none⟩ : Addr).add (k * 5)).add j by rw [addr_add, addr_add])).trans (hc j hj)
      exact ⟨s, hwf, xb, xo, rfl, e 0 (by omega), e 1 (by omega), e 2 (by omega), e 3 (by omega), e 4 (by omega)⟩
    obtain ⟨L, hLl, hL⟩ := choose_list l key
    refine ⟨L, ⟨⟨some x, _, by rw [hLl], fun k hk => ?_⟩, ?_⟩, .inr ⟨_, _, congrArg Prod.fst hx, by simp [hLl]⟩⟩
    · obtain ⟨_, g, off, rfl, q⟩ := hL k hk
      exact ⟨g, off, rfl, q⟩
    · intro i hi
      obtain ⟨k, hk, rfl⟩ := List.getElem_of_mem hi
      exact (hL k hk).1
theorem InsLies.form {u : Value} {L : List I5} (h : InsLies W u L) : ∃ pa pc, u = .slice pa L.length pc := by
  obtain ⟨⟨a, cap, h, _⟩, _⟩ := h
  exact ⟨a, cap, h⟩
theorem choose_lists {P : Nat → List I5 → Prop} : ∀ n, (∀ k, k < n → ∃ i, P k i) → ∃ L : List (List I5), L.length = n ∧ ∀ k (hk : k < L.length), P k (L[k])
  | 0, _ => ⟨[], rfl, fun k hk => by simp at hk⟩
  | n + 1, h => by
    obtain ⟨L, hl, hL⟩ := choose_lists n (fun k hk => h k (by omega))
    obtain ⟨i, hi⟩ := h n (by omega)
    refine ⟨L ++ [i], by simp [hl], fun k hk => ?_⟩
    by_cases hkl : k < L.length
    · rw [List.getElem_append_left hkl]; exact hL k hkl
    · obtain rfl : k = L.length := by simp at hk; omega
      rw [List.getElem_append_right (Nat.le_refl _)]
      simp only [Nat.sub_self, List.getElem_cons_zero]
      rw [hl]; exact hi
/-- Programs as they lie, without the bounds. -/
def PgsLies (W : World) (v : Value) (Ps : List (List I5)) : Prop := ∃ a cap, v = .slice a Ps.length cap ∧ ∀ k (hk : k < Ps.length), ∃ g off pa pc, a = some ⟨g, off, none⟩ ∧ W.cell? ⟨g, off + k, none⟩ = some (.slice pa (Ps[k]).length pc) ∧ InsLies W (.slice pa (Ps[k]).length pc) Ps[k]
def PgsD (d : DataW H) (Ps : List (List I5)) : Prop := (d = .nil ∧ Ps = []) ∨ ∃ elems spare, d = .slice elems spare ∧ elems.length = Ps.length ∧ ∀ k (hk : k < Ps.length), ∃ e, elems[k]? = some e ∧ InsD e Ps[k]
set_option maxRecDepth 100000 in
theorem open_pgs {u : Value} {fuel : Nat} {x : DataW H × List MemPlace} (hf : DataW.trod enc Tryd.prog W 0 (fun _ => true) true fuel 60 [u] = some x) : ∃ Ps : List (List I5), PgsLies W u Ps ∧ PgsD x.1 Ps := by
  rcases Deep.open_slice Tryd.underlying60 hf with ⟨hcs, hx⟩ | ⟨x, l, c, m, n, D, Pl, hcs, _, hl, hm, hmm, hx, hcell⟩
  · simp at hcs
    subst hcs
    exact ⟨[], ⟨none, 0, rfl, fun k hk => absurd hk (by simp)⟩, .inl ⟨by rw [hx], rfl⟩⟩
  · simp at hcs
    subst hcs
    simp at hmm
    subst hmm
    have one : ∀ k, k < l → ∃ u', W.cell? ((x.add (k * 1)).add 0) = some u' ∧ ∃ L, InsLies W u' L ∧ InsD (D k) L := fun k hk => by
      obtain ⟨cs', h1, h2⟩ := hcell k (by omega)
      rw [cellsL] at h1
      obtain ⟨_, hlen, hc⟩ := World.cells?_some h1
      obtain ⟨u', rfl⟩ : ∃ u', cs' = [u'] := List.length_eq_one_iff.1 hlen
      obtain ⟨L, hL, hD⟩ := open_insl2 h2
      exact ⟨u', hc 0 (by omega), L, hL, hD⟩
    have key : ∀ k, k < l → ∃ L : List I5, (∃ g off pa pc, x = ⟨g, off, none⟩ ∧ W.cell? ⟨g, off + k, none⟩ = some (.slice pa L.length pc) ∧ InsLies W (.slice pa L.length pc) L) ∧ InsD (D k) L := fun k hk => by
      obtain ⟨u', hc, L, hL, hD⟩ := one k hk
      have hsp : x.spot = none := by
        obtain ⟨u0, hc0, _⟩ := one 0 (by omega)
        simp [Addr.add] at hc0
        exact cell_spot hc0
      obtain ⟨xb, xo, xs⟩ := x
      cases hsp
      obtain ⟨pa, pc, rfl⟩ := hL.form
      rw [addr_add, addr_add] at hc
      exact ⟨L, ⟨xb, xo, pa, pc, rfl, by simpa using hc, hL⟩, hD⟩
    obtain ⟨Ps, hPl, hP⟩ := choose_lists l key
    refine ⟨Ps, ⟨some x, _, by rw [hPl], fun k hk => ?_⟩, .inr ⟨_, _, congrArg Prod.fst hx, by simp [hPl], fun k hk => ⟨D k, ?_, (hP k hk).2⟩⟩⟩
    · obtain ⟨⟨g, off, pa, pc, rfl, q⟩, _⟩ := hP k hk
      exact ⟨g, off, pa, pc, rfl, q⟩
    · simp [show k < l by omega]
set_option maxRecDepth 100000 in
theorem open_script {v : Value} {d : DataW H} {ps : List MemPlace} {base : Nat} (hok : Value.okWide Tryd.prog W .any base 63 v) (h : DataW.Trod enc Tryd.prog W 0 (fun _ => true) true 63 v d ps) :
    ∃ (c : Int) (a1 : Option Addr) (n1 c1 : Nat) (ap : Option Addr) (cp : Nat) (a3 : Option Addr) (n3 c3 : Nat) (Ps : List (List I5)), v = .agg (scrA c a1 n1 c1 ap Ps.length cp a3 n3 c3) ∧ PgsLies W (.slice ap Ps.length cp) Ps ∧ ∃ d0 d1 d2 d3, d = .agg [d0, d1, d2, d3] ∧ PgsD d2 Ps := by
  obtain ⟨cs, rfl, hs⟩ := okWide_struct Tryd.underlying63 hok
  obtain ⟨fuel, hf⟩ := h
  rw [cellsSc] at hs
  obtain ⟨xs, k, hk, hxy, hd, hxl, hfl⟩ := DataW.trod_struct Tryd.underlying63 hf
  have hcl : cs.toList.length = 4 := by simpa using hs
  obtain ⟨v0, v1, v2, v3, hcs⟩ : ∃ v0 v1 v2 v3, cs.toList = [v0, v1, v2, v3] := by
    match cs.toList, hcl with
    | [v0, v1, v2, v3], _ => exact ⟨v0, v1, v2, v3, rfl⟩
  have hce : (Value.agg cs).cells.toList = [v0, v1, v2, v3] := hcs
  rw [hce] at hfl
  match xs, hxl with
  | [y0, y1, y2, y3], _ =>
    have g0 := hfl 0 _ rfl
    have g1 := hfl 1 _ rfl
    have g2 := hfl 2 _ rfl
    have g3 := hfl 3 _ rfl
    simp [cellsN, cellsU6, cellsLL, cellsU3] at g0 g1 g2 g3
    obtain ⟨n0, e0, _, w0⟩ := DataW.trod_int Tryd.underlying3 g0
    simp at e0
    subst e0
    obtain ⟨a1, n1, c1, rfl⟩ : ∃ a n c, v1 = .slice a n c := by
      rcases Deep.open_slice Tryd.underlying59 g1 with ⟨hc, _⟩ | ⟨x, l, c, m, n, D, Pl, hc, _⟩
      · simp at hc; exact ⟨_, _, _, hc⟩
      · simp at hc; exact ⟨_, _, _, hc⟩
    obtain ⟨a3, n3, c3, rfl⟩ : ∃ a n c, v3 = .slice a n c := by
      rcases Deep.open_slice Tryd.underlying61 g3 with ⟨hc, _⟩ | ⟨x, l, c, m, n, D, Pl, hc, _⟩
      · simp at hc; exact ⟨_, _, _, hc⟩
      · simp at hc; exact ⟨_, _, _, hc⟩
    obtain ⟨Ps, hP, hD⟩ := open_pgs g2
    obtain ⟨ap, cp, hv2, hc⟩ := hP
    subst hv2
    refine ⟨n0, a1, n1, c1, ap, cp, a3, n3, c3, Ps, ?_, ⟨ap, cp, rfl, hc⟩, _, _, _, _, congrArg Prod.fst hxy, hD⟩
    rw [show cs = cs.toList.toArray by simp, hcs]
    rfl
/-- The bounds that the row asks for. -/
theorem script_sized {ts : List TypeId} {ds : List (DataW H)} (h : (DataW.weightsEach Tryd.prog ts ds).all (· ≤ reachBytes) = true) {j : Nat} {d0 d1 d2 d3 : DataW H} {Ps : List (List I5)} (ht : ts[j]? = some 63) (hd : ds[j]? = some (.agg [d0, d1, d2, d3])) (hD : PgsD d2 Ps) :
    Ps.length * 24 ≤ 140737488351232 ∧ ∀ k (hk : k < Ps.length), (Ps[k]).length * 40 ≤ 140737488351232 := by
  have hm : ∀ n ∈ d2.weights Tryd.prog 60, n ≤ 140737488351232 := fun n hn => by
    have := of_decide_eq_true (List.all_eq_true.1 h n (DataW.weights_mem_each ht hd n (by
      simp only [DataW.weights, Tryd.underlying63, List.map_cons, List.map_nil, DataW.weightsEach, List.mem_append]
      exact .inr (.inr (.inl hn)))))
    simpa [reachBytes] using this
  rcases hD with ⟨rfl, rfl⟩ | ⟨elems, spare, rfl, hl, he⟩
  · exact ⟨by simp, fun k hk => absurd hk (by simp)⟩
  · simp only [DataW.weights, Tryd.underlying60, List.mem_cons, List.mem_append] at hm
    refine ⟨?_, fun k hk => ?_⟩
    · have := hm _ (.inl rfl)
      rw [bytesSl] at this
      omega
    · obtain ⟨e, hee, hi⟩ := he k hk
      rcases hi with ⟨_, h0⟩ | ⟨e', s', rfl, hl'⟩
      · rw [h0]; simp
      · have := hm ((e'.length + s'.length) * Tryd.prog.bytesOf 50) (.inr (.inl (weightsAll_mem (List.mem_of_getElem? hee) _ (by simp [DataW.weights, Tryd.underlying22]))))
        rw [bytesI] at this
        omega
theorem PgsLies.pgs {v : Value} {Ps : List (List I5)} (h : PgsLies W v Ps) (hb : ∀ k (hk : k < Ps.length), (Ps[k]).length * 40 ≤ 140737488351232) : Pgs W v Ps ∧ ∀ p ∈ Ps, (∀ i ∈ p, i.wf) ∧ (p.length + 1) * 40 ≤ 140737488355328 := by
  obtain ⟨a, cap, rfl, hc⟩ := h
  refine ⟨⟨a, cap, rfl, fun k hk => ?_⟩, fun p hp => ?_⟩
  · obtain ⟨g, off, pa, pc, rfl, c0, hi⟩ := hc k hk
    exact ⟨g, off, pa, pc, rfl, c0, hi.at (by have := hb k hk; omega)⟩
  · obtain ⟨k, hk, rfl⟩ := List.getElem_of_mem hp
    obtain ⟨g, off, pa, pc, rfl, c0, hi⟩ := hc k hk
    exact ⟨hi.2, by have := hb k hk; omega⟩
end
end Go.Proofs.YtljapgoeomedkaaDoor
