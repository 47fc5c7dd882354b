/-
  No statement of the seat is proved here. (Several texts in one: AuE, AzK.)
-/
import Derived.Test.YtppejcfghlpbjaaGreatDoorM20AsV
import Derived.Deep.SlicePairs
import Derived.Test.YtppejcfghlpbjaaGreatDoorN22AzH
import Derived.Deep.Slices

/- How instructions and bytes that come in read; what CodeTexts' row lists. No statement of the seat is proved here. -/
namespace Go.Proofs.YtppejcfghlpbjaaGreatDoor
open Go.ChangeShapes Go.WideShapes Go.ChangeAt Go.RowKit Go.Shelf

theorem wf_i64 {a : Int} (h : (Lit.int .i64 a).wf = true) : -9223372036854775808 ≤ a ∧ a < 9223372036854775808 := by
  simp [Lit.wf, IntKind.min, IntKind.max, IntKind.signed, IntKind.bits] at h; omega
theorem wf_u64 {a : Int} (h : (Lit.int .u64 a).wf = true) : 0 ≤ a ∧ a < 18446744073709551616 := by
  simp [Lit.wf, IntKind.min, IntKind.max, IntKind.signed, IntKind.bits] at h; omega
theorem wf_u8 {a : Int} (h : (Lit.int .u8 a).wf = true) : 0 ≤ a ∧ a < 256 := by
  simp [Lit.wf, IntKind.min, IntKind.max, IntKind.signed, IntKind.bits] at h; omega
theorem laidOut : laidOutB Tryz.prog = true := by kernel_rfl
theorem cellsI : Tryz.prog.cellsOf 45 = 5 := by kernel_rfl
theorem cellsO : Tryz.prog.cellsOf 43 = 1 := by kernel_rfl
theorem cellsN : Tryz.prog.cellsOf 3 = 1 := by kernel_rfl
theorem cellsB : Tryz.prog.cellsOf 5 = 1 := by kernel_rfl
theorem bytesI : Tryz.prog.bytesOf 45 = 40 := by kernel_rfl
theorem bytesB : Tryz.prog.bytesOf 5 = 1 := by kernel_rfl

section
variable {H : Type} {enc : TypeId × Value → H} {W : World}
set_option maxRecDepth 100000 in
theorem open_ins5 {fuel : Nat} {cs : List Value} {x : DataW H × List MemPlace} (h : DataW.trod enc Tryz.prog W 0 (fun _ => true) true fuel 45 cs = some x) (hlen : cs.length = 5) :
    ∃ i : I5, cs = [.int .i64 i.op, .int .i64 i.a, .int .i64 i.b, .int .i64 i.c, .int .u64 i.n] ∧ i.wf := by
  obtain ⟨xs, k, hk, hxy, _, hxl, hf⟩ := DataW.trod_struct Tryz.underlying45 h
  match xs, hxl, cs, hlen with
  | [y0, y1, y2, y3, y4], _, [v0, v1, v2, v3, v4], _ =>
    have g0 := hf 0 _ rfl
    have g1 := hf 1 _ rfl
    have g2 := hf 2 _ rfl
    have g3 := hf 3 _ rfl
    have g4 := hf 4 _ rfl
    simp [cellsN, cellsU, cellsO] at g0 g1 g2 g3 g4
    obtain ⟨n0, e0, _, w0⟩ := DataW.trod_int Tryz.underlying43 g0
    obtain ⟨n1, e1, _, w1⟩ := DataW.trod_int Tryz.underlying3 g1
    obtain ⟨n2, e2, _, w2⟩ := DataW.trod_int Tryz.underlying3 g2
    obtain ⟨n3, e3, _, w3⟩ := DataW.trod_int Tryz.underlying3 g3
    obtain ⟨n4, e4, _, w4⟩ := DataW.trod_int Tryz.underlying40 g4
    simp at e0 e1 e2 e3 e4
    subst e0 e1 e2 e3 e4
    exact ⟨⟨n0, n1, n2, n3, n4⟩, rfl, wf_i64 w0, wf_i64 w1, wf_i64 w2, wf_i64 w3, wf_u64 w4⟩
set_option maxRecDepth 100000 in
theorem open_ins {v : Value} {d : DataW H} {ps : List MemPlace} {base : Nat} (hok : Value.okWide Tryz.prog W .any base 45 v) (h : DataW.Trod enc Tryz.prog W 0 (fun _ => true) true 45 v d ps) :
    ∃ i : I5, v = .agg i.cells ∧ i.wf := by
  obtain ⟨cs, rfl, hs⟩ := okWide_struct Tryz.underlying45 hok
  obtain ⟨fuel, hf⟩ := h
  rw [cellsI] at hs
  obtain ⟨i, hi, hw⟩ := open_ins5 hf (by simpa [Value.cells] using hs)
  refine ⟨i, ?_, hw⟩
  simp [Value.cells] at hi
  rw [show cs = cs.toList.toArray by simp, hi]
theorem cell_spot {w : World} {a : Addr} {v : Value} (h : w.cell? a = some v) : a.spot = none := by
  unfold World.cell? at h
  split at h
  · cases hs : a.spot with
    | none => rfl
    | some _ => simp [hs] at h
  · simp at h
end

section
variable {H : Type} {enc : TypeId × Value → H} {W : World}
/-- Instructions as they lie, without the bound. -/
def InsLies (W : World) (v : Value) (L : List I5) : Prop := (∃ a cap, v = .slice a L.length cap ∧ ∀ k (hk : k < L.length), ∃ g off, a = some ⟨g, off, none⟩ ∧ W.cell? ⟨g, off + k * 5, none⟩ = some (.int .i64 (L[k]'hk).op) ∧ W.cell? ⟨g, off + k * 5 + 1, none⟩ = some (.int .i64 (L[k]'hk).a) ∧ W.cell? ⟨g, off + k * 5 + 2, none⟩ = some (.int .i64 (L[k]'hk).b) ∧ W.cell? ⟨g, off + k * 5 + 3, none⟩ = some (.int .i64 (L[k]'hk).c) ∧ W.cell? ⟨g, off + k * 5 + 4, none⟩ = some (.int .u64 (L[k]'hk).n)) ∧ ∀ i ∈ L, i.wf
theorem InsLies.at {v : Value} {L : List I5} (h : InsLies W v L) (hb : L.length * 40 ≤ 140737488355328) : InsAt W v L := ⟨h.1, h.2, hb⟩

theorem choose_list {P : Nat → I5 → Prop} : ∀ n, (∀ k, k < n → ∃ i, P k i) → ∃ L : List I5, L.length = n ∧ ∀ k (hk : k < L.length), P k (L[k])
  | 0, _ => ⟨[], rfl, fun k hk => by simp at hk⟩
  | n + 1, h => by
    obtain ⟨L, hl, hL⟩ := choose_list n (fun k hk => h k (by omega))
    obtain ⟨i, hi⟩ := h n (by omega)
    refine ⟨L ++ [i], by simp [hl], fun k hk => ?_⟩
    by_cases hkl : k < L.length
    · rw [List.getElem_append_left hkl]; exact hL k hkl
    · obtain rfl : k = L.length := by simp at hk; omega
      rw [List.getElem_append_right (Nat.le_refl _)]
      simp only [Nat.sub_self, List.getElem_cons_zero]
      rw [hl]; exact hi

set_option maxRecDepth 100000 in
theorem open_insl {v : Value} {d : DataW H} {ps : List MemPlace} {base : Nat} (hok : Value.okWide Tryz.prog W .any base 42 v) (h : DataW.Trod enc Tryz.prog W 0 (fun _ => true) true 42 v d ps) :
    ∃ L : List I5, InsLies W v L ∧ ((d = .nil ∧ L = []) ∨ ∃ elems spare, d = .slice elems spare ∧ elems.length = L.length) := by
  obtain ⟨a, len, cap, rfl⟩ := okWide_slice Tryz.underlying42 hok
  obtain ⟨fuel, hf⟩ := h
  rcases Deep.open_slice Tryz.underlying42 hf with ⟨hcs, hx⟩ | ⟨x, l, c, m, n, D, Pl, hcs, _, hl, hm, hmm, hx, hcell⟩
  · simp [Value.cells] at hcs
    obtain ⟨rfl, rfl, rfl⟩ := hcs
    exact ⟨[], ⟨⟨none, 0, rfl, fun k hk => absurd hk (by simp)⟩, by simp⟩, .inl ⟨(Prod.mk.inj hx).1, rfl⟩⟩
  · simp [Value.cells] at hcs
    obtain ⟨rfl, rfl, rfl⟩ := hcs
    simp at hmm
    subst hmm
    have hd := (Prod.mk.inj hx).1
    have key : ∀ k, k < len → ∃ i : I5, i.wf ∧ ∃ g off, x = ⟨g, off, none⟩ ∧ W.cell? ⟨g, off + k * 5, none⟩ = some (.int .i64 i.op) ∧ W.cell? ⟨g, off + k * 5 + 1, none⟩ = some (.int .i64 i.a) ∧ W.cell? ⟨g, off + k * 5 + 2, none⟩ = some (.int .i64 i.b) ∧ W.cell? ⟨g, off + k * 5 + 3, none⟩ = some (.int .i64 i.c) ∧ W.cell? ⟨g, off + k * 5 + 4, none⟩ = some (.int .u64 i.n) := fun k hk => by
      obtain ⟨cs', h1, h2⟩ := hcell k (by omega)
      rw [cellsI] at h1
      obtain ⟨_, hlen, hc⟩ := World.cells?_some h1
      obtain ⟨s, rfl, hwf⟩ := open_ins5 h2 hlen
      have hsp : x.spot = none := by
        obtain ⟨cs0, h10, h20⟩ := hcell 0 (by omega)
        rw [cellsI] at h10
        obtain ⟨_, hlen0, hc0⟩ := World.cells?_some h10
        obtain ⟨s0, rfl, _⟩ := open_ins5 h20 hlen0
        have := hc0 0 (by omega)
        simp [Addr.add] at this
        exact cell_spot this
      obtain ⟨xb, xo, xs⟩ := x
      cases hsp
      have e := fun (j : Nat) (hj : j < 5) => (congrArg W.cell? (show (⟨xb, xo + k * 5 + j, none⟩ : Addr) = ((⟨xb, xo, none⟩ : Addr).add (k * 5)).add j by rw [addr_add, addr_add])).trans (hc j hj)
      exact ⟨s, hwf, xb, xo, rfl, e 0 (by omega), e 1 (by omega), e 2 (by omega), e 3 (by omega), e 4 (by omega)⟩
    obtain ⟨L, hLl, hL⟩ := choose_list len key
    refine ⟨L, ⟨⟨some x, _, by rw [hLl], fun k hk => ?_⟩, ?_⟩, .inr ⟨_, _, hd, by simp [hLl]⟩⟩
    · obtain ⟨_, g, off, rfl, q⟩ := hL k hk
      exact ⟨g, off, rfl, q⟩
    · intro i hi
      obtain ⟨k, hk, rfl⟩ := List.getElem_of_mem hi
      exact (hL k hk).1
end
end Go.Proofs.YtppejcfghlpbjaaGreatDoor


/- How a script that comes in reads (layer 9). No statement of the seat is proved here. -/
namespace Go.Proofs.YtppejcfghlpbjaaGreatDoor
open Go.ChangeShapes Go.WideShapes Go.ChangeAt Go.RowKit Go.Shelf

theorem cellsL : Tryz.prog.cellsOf 42 = 1 := by kernel_rfl
theorem cellsLL : Tryz.prog.cellsOf 23 = 1 := by kernel_rfl
theorem cellsSc : Tryz.prog.cellsOf 26 = 4 := by kernel_rfl
theorem cellsU6 : Tryz.prog.cellsOf 22 = 1 := by kernel_rfl
theorem cellsU3 : Tryz.prog.cellsOf 24 = 1 := by kernel_rfl
theorem cellsT3 : Tryz.prog.cellsOf 41 = 1 := by kernel_rfl
theorem bytesSl : Tryz.prog.bytesOf 42 = 24 := by kernel_rfl
theorem bytesU6 : Tryz.prog.bytesOf 40 = 8 := by kernel_rfl
theorem bytesU3 : Tryz.prog.bytesOf 41 = 4 := by kernel_rfl
theorem wf_u32 {a : Int} (h : (Lit.int .u32 a).wf = true) : 0 ≤ a ∧ a < 4294967296 := by
  simp [Lit.wf, IntKind.min, IntKind.max, IntKind.signed, IntKind.bits] at h; omega
theorem weightsAll_mem {H : Type} {P : Program} {e : TypeId} : ∀ {l : List (DataW H)} {d : DataW H}, d ∈ l → ∀ n ∈ d.weights P e, n ∈ DataW.weightsAll P e l
  | d' :: r, d, hd, n, hn => by
    simp only [DataW.weightsAll, List.mem_append]
    rcases List.mem_cons.1 hd with rfl | h
    · exact Or.inl hn
    · exact Or.inr (weightsAll_mem h n hn)
section
variable {H : Type} {enc : TypeId × Value → H} {W : World}
/-- How a datum of instructions is shaped. -/
def InsD (d : DataW H) (L : List I5) : Prop := (d = .nil ∧ L = []) ∨ ∃ elems spare, d = .slice elems spare ∧ elems.length = L.length
set_option maxRecDepth 100000 in
theorem open_insl2 {u : Value} {fuel : Nat} {x : DataW H × List MemPlace} (hf : DataW.trod enc Tryz.prog W 0 (fun _ => true) true fuel 42 [u] = some x) : ∃ L : List I5, InsLies W u L ∧ InsD x.1 L := by
  rcases Deep.open_slice Tryz.underlying42 hf with ⟨hcs, hx⟩ | ⟨x, l, c, m, n, D, Pl, hcs, _, hl, hm, hmm, hx, hcell⟩
  · simp at hcs
    subst hcs
    exact ⟨[], ⟨⟨none, 0, rfl, fun k hk => absurd hk (by simp)⟩, by simp⟩, .inl ⟨by rw [hx], rfl⟩⟩
  · simp at hcs
    subst hcs
    simp at hmm
    subst hmm
    have key : ∀ k, k < l → ∃ i : I5, i.wf ∧ ∃ g off, x = ⟨g, off, none⟩ ∧ W.cell? ⟨g, off + k * 5, none⟩ = some (.int .i64 i.op) ∧ W.cell? ⟨g, off + k * 5 + 1, none⟩ = some (.int .i64 i.a) ∧ W.cell? ⟨g, off + k * 5 + 2, none⟩ = some (.int .i64 i.b) ∧ W.cell? ⟨g, off + k * 5 + 3, none⟩ = some (.int .i64 i.c) ∧ W.cell? ⟨g, off + k * 5 + 4, none⟩ = some (.int .u64 i.n) := fun k hk => by
      obtain ⟨cs', h1, h2⟩ := hcell k (by omega)
      rw [cellsI] at h1
      obtain ⟨_, hlen, hc⟩ := World.cells?_some h1
      obtain ⟨s, rfl, hwf⟩ := open_ins5 h2 hlen
      have hsp : x.spot = none := by
        obtain ⟨cs0, h10, h20⟩ := hcell 0 (by omega)
        rw [cellsI] at h10
        obtain ⟨_, hlen0, hc0⟩ := World.cells?_some h10
        obtain ⟨s0, rfl, _⟩ := open_ins5 h20 hlen0
        have := hc0 0 (by omega)
        simp [Addr.add] at this
        exact cell_spot this
      obtain ⟨xb, xo, xs⟩ := x
      cases hsp
      have e := fun (j : Nat) (hj : j < 5) => (congrArg W.cell? (show (⟨xb, xo + k * 5 + j, none⟩ : Addr) = ((⟨xb, xo, none⟩ : Addr).add (k * 5)).add j by rw [addr_add, addr_add])).trans (hc j hj)
      exact ⟨s, hwf, xb, xo, rfl, e 0 (by omega), e 1 (by omega), e 2 (by omega), e 3 (by omega), e 4 (by omega)⟩
    obtain ⟨L, hLl, hL⟩ := choose_list l key
    refine ⟨L, ⟨⟨some x, _, by rw [hLl], fun k hk => ?_⟩, ?_⟩, .inr ⟨_, _, congrArg Prod.fst hx, by simp [hLl]⟩⟩
    · obtain ⟨_, g, off, rfl, q⟩ := hL k hk
      exact ⟨g, off, rfl, q⟩
    · intro i hi
      obtain ⟨k, hk, rfl⟩ := List.getElem_of_mem hi
      exact (hL k hk).1
theorem InsLies.form {u : Value} {L : List I5} (h : InsLies W u L) : ∃ pa pc, u = .slice pa L.length pc := by
  obtain ⟨⟨a, cap, h, _⟩, _⟩ := h
  exact ⟨a, cap, h⟩
theorem choose_lists {P : Nat → List I5 → Prop} : ∀ n, (∀ k, k < n → ∃ i, P k i) → ∃ L : List (List I5), L.length = n ∧ ∀ k (hk : k < L.length), P k (L[k])
  | 0, _ => ⟨[], rfl, fun k hk => by simp at hk⟩
  | n + 1, h => by
    obtain ⟨L, hl, hL⟩ := choose_lists n (fun k hk => h k (by omega))
    obtain ⟨i, hi⟩ := h n (by omega)
    refine ⟨L ++ [i], by simp [hl], fun k hk => ?_⟩
    by_cases hkl : k < L.length
    · rw [List.getElem_append_left hkl]; exact hL k hkl
    · obtain rfl : k = L.length := by simp at hk; omega
      rw [List.getElem_append_right (Nat.le_refl _)]
      simp only [Nat.sub_self, List.getElem_cons_zero]
      rw [hl]; exact hi
/-- Programs as they lie, without the bounds. -/
def PgsLies (W : World) (v : Value) (Ps : List (List I5)) : Prop := ∃ a cap, v = .slice a Ps.length cap ∧ Ps.length ≤ cap ∧ ∀ k (hk : k < Ps.length), ∃ g off pa pc, a = some ⟨g, off, none⟩ ∧ W.cell? ⟨g, off + k, none⟩ = some (.slice pa (Ps[k]).length pc) ∧ InsLies W (.slice pa (Ps[k]).length pc) Ps[k]
def PgsD (d : DataW H) (Ps : List (List I5)) : Prop := (d = .nil ∧ Ps = []) ∨ ∃ elems spare, d = .slice elems spare ∧ elems.length = Ps.length ∧ ∀ k (hk : k < Ps.length), ∃ e, elems[k]? = some e ∧ InsD e Ps[k]
set_option maxRecDepth 100000 in
theorem open_pgs {u : Value} {fuel : Nat} {x : DataW H × List MemPlace} (hf : DataW.trod enc Tryz.prog W 0 (fun _ => true) true fuel 23 [u] = some x) : ∃ Ps : List (List I5), PgsLies W u Ps ∧ PgsD x.1 Ps := by
  rcases Deep.open_slice Tryz.underlying23 hf with ⟨hcs, hx⟩ | ⟨x, l, c, m, n, D, Pl, hcs, _, hl, hm, hmm, hx, hcell⟩
  · simp at hcs
    subst hcs
    exact ⟨[], ⟨none, 0, rfl, by simp, fun k hk => absurd hk (by simp)⟩, .inl ⟨by rw [hx], rfl⟩⟩
  · simp at hcs
    subst hcs
    simp at hmm
    subst hmm
    have one : ∀ k, k < l → ∃ u', W.cell? ((x.add (k * 1)).add 0) = some u' ∧ ∃ L, InsLies W u' L ∧ InsD (D k) L := fun k hk => by
      obtain ⟨cs', h1, h2⟩ := hcell k (by omega)
      rw [cellsL] at h1
      obtain ⟨_, hlen, hc⟩ := World.cells?_some h1
      obtain ⟨u', rfl⟩ : ∃ u', cs' = [u'] := List.length_eq_one_iff.1 hlen
      obtain ⟨L, hL, hD⟩ := open_insl2 h2
      exact ⟨u', hc 0 (by omega), L, hL, hD⟩
    have key : ∀ k, k < l → ∃ L : List I5, (∃ g off pa pc, x = ⟨g, off, none⟩ ∧ W.cell? ⟨g, off + k, none⟩ = some (.slice pa L.length pc) ∧ InsLies W (.slice pa L.length pc) L) ∧ InsD (D k) L := fun k hk => by
      obtain ⟨u', hc, L, hL, hD⟩ := one k hk
      have hsp : x.spot = none := by
        obtain ⟨u0, hc0, _⟩ := one 0 (by omega)
        simp [Addr.add] at hc0
        exact cell_spot hc0
      obtain ⟨xb, xo, xs⟩ := x
      cases hsp
      obtain ⟨pa, pc, rfl⟩ := hL.form
      rw [addr_add, addr_add] at hc
      exact ⟨L, ⟨xb, xo, pa, pc, rfl, by simpa using hc, hL⟩, hD⟩
    obtain ⟨Ps, hPl, hP⟩ := choose_lists l key
    refine ⟨Ps, ⟨some x, _, by rw [hPl], by omega, fun k hk => ?_⟩, .inr ⟨_, _, congrArg Prod.fst hx, by simp [hPl], fun k hk => ⟨D k, ?_, (hP k hk).2⟩⟩⟩
    · obtain ⟨⟨g, off, pa, pc, rfl, q⟩, _⟩ := hP k hk
      exact ⟨g, off, pa, pc, rfl, q⟩
    · simp [show k < l by omega]
theorem choose_nats {P : Nat → Nat → Prop} : ∀ n, (∀ k, k < n → ∃ i, P k i) → ∃ L : List Nat, L.length = n ∧ ∀ k (hk : k < L.length), P k (L[k])
  | 0, _ => ⟨[], rfl, fun k hk => by simp at hk⟩
  | n + 1, h => by
    obtain ⟨L, hl, hL⟩ := choose_nats n (fun k hk => h k (by omega))
    obtain ⟨i, hi⟩ := h n (by omega)
    refine ⟨L ++ [i], by simp [hl], fun k hk => ?_⟩
    by_cases hkl : k < L.length
    · rw [List.getElem_append_left hkl]; exact hL k hkl
    · obtain rfl : k = L.length := by simp at hk; omega
      rw [List.getElem_append_right (Nat.le_refl _)]
      simp only [Nat.sub_self, List.getElem_cons_zero]
      rw [hl]; exact hi
/-- Numbers as they lie. -/
def NsLies (ki : IntKind) (W : World) (v : Value) (L : List Nat) : Prop := ∃ a cap, v = .slice a L.length cap ∧ L.length ≤ cap ∧ ∀ k (hk : k < L.length), ∃ g off, a = some ⟨g, off, none⟩ ∧ W.cell? ⟨g, off + k, none⟩ = some (.int ki (L[k] : Int))
def NsD (d : DataW H) (L : List Nat) : Prop := (d = .nil ∧ L = []) ∨ ∃ elems spare, d = .slice elems spare ∧ elems.length = L.length
set_option maxRecDepth 100000 in
theorem open_nums {t e : TypeId} {ki : IntKind} (ht : Tryz.prog.underlying t = some (.slice e)) (he : Tryz.prog.underlying e = some (.int ki)) (ce : Tryz.prog.cellsOf e = 1) (hk : ∀ a : Int, (Lit.int ki a).wf = true → 0 ≤ a) {u : Value} {fuel : Nat} {x : DataW H × List MemPlace} (hf : DataW.trod enc Tryz.prog W 0 (fun _ => true) true fuel t [u] = some x) : ∃ L : List Nat, NsLies ki W u L ∧ (∀ n ∈ L, (Lit.int ki (n : Int)).wf = true) ∧ NsD x.1 L := by
  rcases Deep.open_slice1 ht ce hf with ⟨hcs, hx⟩ | ⟨x, l, c, m, n, V, D, Pl, hcs, _, hl, hm, hmm, hx, hcell⟩
  · simp at hcs
    subst hcs
    exact ⟨[], ⟨none, 0, rfl, by simp, fun k hk => absurd hk (by simp)⟩, by simp, .inl ⟨by rw [hx], rfl⟩⟩
  · simp at hcs
    subst hcs
    simp at hmm
    subst hmm
    have key : ∀ k, k < l → ∃ z : Nat, (∃ g off, x = ⟨g, off, none⟩ ∧ W.cell? ⟨g, off + k, none⟩ = some (.int ki (z : Int))) ∧ (Lit.int ki (z : Int)).wf = true := fun k hkl => by
      obtain ⟨h1, h2⟩ := hcell k (by omega)
      obtain ⟨z, e0, _, w0⟩ := DataW.trod_int he h2
      simp at e0
      have z0 := hk z w0
      have hsp : x.spot = none := by
        have := (hcell 0 (by omega)).1
        simp [Addr.add] at this
        exact cell_spot this
      obtain ⟨xb, xo, xs⟩ := x
      cases hsp
      rw [addr_add] at h1
      refine ⟨z.toNat, ⟨xb, xo, rfl, ?_⟩, ?_⟩
      · rw [h1, e0, Int.toNat_of_nonneg z0]
      · rw [Int.toNat_of_nonneg z0]; exact w0
    obtain ⟨L, hLl, hL⟩ := choose_nats l key
    refine ⟨L, ⟨some x, _, by rw [hLl], by omega, fun k hkl => ?_⟩, fun n hn => ?_, .inr ⟨_, _, congrArg Prod.fst hx, by simp [hLl]⟩⟩
    · obtain ⟨⟨g, off, rfl, q⟩, _⟩ := hL k hkl
      exact ⟨g, off, rfl, q⟩
    · obtain ⟨k, hkl, rfl⟩ := List.getElem_of_mem hn
      exact (hL k hkl).2
set_option maxRecDepth 100000 in
theorem open_script {v : Value} {d : DataW H} {ps : List MemPlace} {base : Nat} (hok : Value.okWide Tryz.prog W .any base 26 v) (h : DataW.Trod enc Tryz.prog W 0 (fun _ => true) true 26 v d ps) :
    ∃ (c : Int) (vf vp vk : Value) (F K : List Nat) (Ps : List (List I5)), v = .agg #[.int .i64 c, vf, vp, vk] ∧ c < 9223372036854775808 ∧ NsLies .u64 W vf F ∧ NsLies .u32 W vk K ∧ PgsLies W vp Ps ∧ (∀ n ∈ F, n ≤ m64) ∧ (∀ n ∈ K, n ≤ m32) ∧ ∃ d0 d1 d2 d3, d = .agg [d0, d1, d2, d3] ∧ NsD d1 F ∧ PgsD d2 Ps ∧ NsD d3 K := by
  obtain ⟨cs, rfl, hs⟩ := okWide_struct Tryz.underlying26 hok
  obtain ⟨fuel, hf⟩ := h
  rw [cellsSc] at hs
  obtain ⟨xs, k, hk, hxy, hd, hxl, hfl⟩ := DataW.trod_struct Tryz.underlying26 hf
  have hcl : cs.toList.length = 4 := by simpa using hs
  obtain ⟨v0, v1, v2, v3, hcs⟩ : ∃ v0 v1 v2 v3, cs.toList = [v0, v1, v2, v3] := by
    match cs.toList, hcl with
    | [v0, v1, v2, v3], _ => exact ⟨v0, v1, v2, v3, rfl⟩
  have hce : (Value.agg cs).cells.toList = [v0, v1, v2, v3] := hcs
  rw [hce] at hfl
  match xs, hxl with
  | [y0, y1, y2, y3], _ =>
    have g0 := hfl 0 _ rfl
    have g1 := hfl 1 _ rfl
    have g2 := hfl 2 _ rfl
    have g3 := hfl 3 _ rfl
    simp [cellsN, cellsU6, cellsLL, cellsU3] at g0 g1 g2 g3
    obtain ⟨n0, e0, _, w0⟩ := DataW.trod_int Tryz.underlying3 g0
    simp at e0
    subst e0
    obtain ⟨F, hF, wF, dF⟩ := open_nums Tryz.underlying22 Tryz.underlying40 cellsU (fun a q => (wf_u64 q).1) g1
    obtain ⟨K, hK, wK, dK⟩ := open_nums Tryz.underlying24 Tryz.underlying41 cellsT3 (fun a q => (wf_u32 q).1) g3
    obtain ⟨Ps, hP, hD⟩ := open_pgs g2
    refine ⟨n0, v1, v2, v3, F, K, Ps, ?_, (wf_i64 w0).2, hF, hK, hP, fun n hn => ?_, fun n hn => ?_, _, _, _, _, congrArg Prod.fst hxy, dF, hD, dK⟩
    · rw [show cs = cs.toList.toArray by simp, hcs]
    · have := (wf_u64 (wF n hn)).2
      unfold m64
      omega
    · have := (wf_u32 (wK n hn)).2
      unfold m32
      omega
theorem nums_sized {t e : TypeId} {b : Nat} (ht : Tryz.prog.underlying t = some (.slice e)) (hb : Tryz.prog.bytesOf e = b) (h1 : 1 ≤ b) {d : DataW H} {L : List Nat} (hD : NsD d L) (hm : ∀ n ∈ d.weights Tryz.prog t, n ≤ 140737488351232) : L.length ≤ 140737488351232 := by
  rcases hD with ⟨rfl, rfl⟩ | ⟨elems, spare, rfl, hl⟩
  · simp
  · simp only [DataW.weights, ht, List.mem_cons] at hm
    have := hm _ (.inl rfl)
    rw [hb] at this
    have := Nat.le_mul_of_pos_right (elems.length + spare.length) h1
    omega
/-- The bounds that the row asks for. -/
theorem script_sized {ts : List TypeId} {ds : List (DataW H)} (h : (DataW.weightsEach Tryz.prog ts ds).all (· ≤ reachBytes) = true) {j : Nat} {d0 d1 d2 d3 : DataW H} {F K : List Nat} {Ps : List (List I5)} (ht : ts[j]? = some 26) (hd : ds[j]? = some (.agg [d0, d1, d2, d3])) (hF : NsD d1 F) (hD : PgsD d2 Ps) (hK : NsD d3 K) :
    F.length ≤ 140737488351232 ∧ K.length ≤ 140737488351232 ∧ Ps.length * 24 ≤ 140737488351232 ∧ ∀ k (hk : k < Ps.length), (Ps[k]).length * 40 ≤ 140737488351232 := by
  have hq : ∀ n, n ∈ (d1.weights Tryz.prog 22) ∨ n ∈ (d2.weights Tryz.prog 23) ∨ n ∈ (d3.weights Tryz.prog 24) → n ≤ 140737488351232 := fun n hn => by
    have := of_decide_eq_true (List.all_eq_true.1 h n (DataW.weights_mem_each ht hd n (by
      simp only [DataW.weights, Tryz.underlying26, List.map_cons, List.map_nil, DataW.weightsEach, List.mem_append]
      rcases hn with hn | hn | hn
      · exact .inr (.inl hn)
      · exact .inr (.inr (.inl hn))
      · exact .inr (.inr (.inr (.inl hn))))))
    simpa [reachBytes] using this
  refine ⟨nums_sized Tryz.underlying22 bytesU6 (by decide) hF (fun n hn => hq n (.inl hn)), nums_sized Tryz.underlying24 bytesU3 (by decide) hK (fun n hn => hq n (.inr (.inr hn))), ?_⟩
  have hm : ∀ n ∈ d2.weights Tryz.prog 23, n ≤ 140737488351232 := fun n hn => hq n (.inr (.inl hn))
  rcases hD with ⟨rfl, rfl⟩ | ⟨elems, spare, rfl, hl, he⟩
  · exact ⟨by simp, fun k hk => absurd hk (by simp)⟩
  · simp only [DataW.weights, Tryz.underlying23, List.mem_cons, List.mem_append] at hm
    refine ⟨?_, fun k hk => ?_⟩
    · have := hm _ (.inl rfl)
      rw [bytesSl] at this
      omega
    · obtain ⟨e, hee, hi⟩ := he k hk
      rcases hi with ⟨_, h0⟩ | ⟨e', s', rfl, hl'⟩
      · rw [h0]; simp
      · have := hm ((e'.length + s'.length) * Tryz.prog.bytesOf 45) (.inr (.inl (weightsAll_mem (List.mem_of_getElem? hee) _ (by simp [DataW.weights, Tryz.underlying42]))))
        rw [bytesI] at this
        omega
/-- A script that came in, whole. -/
theorem script_whole {c : Int} {vf vp vk : Value} {F K : List Nat} {Ps : List (List I5)} (hc : c < 9223372036854775808) (hF : NsLies .u64 W vf F) (hK : NsLies .u32 W vk K) (hP : PgsLies W vp Ps) (bF : ∀ n ∈ F, n ≤ m64) (bK : ∀ n ∈ K, n ≤ m32) (sF : F.length ≤ 140737488351232) (sK : K.length ≤ 140737488351232) (sP : Ps.length * 24 ≤ 140737488351232) (sE : ∀ k (hk : k < Ps.length), (Ps[k]).length * 40 ≤ 140737488351232) :
    ∃ x : Sc, Big x ∧ (c < 0 ∨ c = x.cells) ∧ ScAt W vf vp vk x := by
  obtain ⟨a, cap, rfl, hl, hp⟩ := hP
  refine ⟨⟨c.toNat, F, Ps, K⟩, ⟨by unfold m63; dsimp only; omega, bF, bK, fun p hm => ?_, by dsimp only; omega, by dsimp only; omega, by dsimp only; omega, fun p hm => ?_⟩, by dsimp only; omega, ⟨hF, ⟨a, cap, rfl, hl, fun k hk => ?_⟩, hK⟩⟩
  · obtain ⟨k, hk, rfl⟩ := List.getElem_of_mem hm
    obtain ⟨g, off, pa, pc, rfl, c0, hi⟩ := hp k hk
    exact hi.2
  · obtain ⟨k, hk, rfl⟩ := List.getElem_of_mem hm
    have q := sE k hk
    show (Ps[k]).length ≤ _
    omega
  · obtain ⟨g, off, pa, pc, rfl, c0, hi⟩ := hp k hk
    exact ⟨g, off, _, rfl, c0, hi.at (by have := sE k hk; omega)⟩
end
end Go.Proofs.YtppejcfghlpbjaaGreatDoor
