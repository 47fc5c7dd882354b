/-
  No statement of the seat is proved here. (Several texts in one: OqM0, OrL, EvU, EvZ, OqQ, Bulk.)
-/
import Derived.Test.YthmiainhaebjiaaGreatDoorM33OqL
import Derived.Test.YthmiainhaebjiaaGreatDoorM34OrK
import Derived.Test.YthmiainhaebjiaaGreatDoorM24OpU
import Derived.Test.YthmiainhaebjiaaGreatDoorCards
import Derived.Test.YthmiainhaebjiaaGreatDoorTie
import Derived.Test.YthmiainhaebjiaaGreatDoorM01EvC
import Derived.ProofKit
import Derived.OpenShut
import Derived.Deep.DeepHandedRow
import Derived.Shelf.Vars
import Derived.Deep.SlicePairs
import Derived.Test.YthmiainhaebjiaaGreatDoorM13OpG
import Derived.SizedLaws
import Derived.Test.YthmiainhaebjiaaGreatDoorRows

/- Attempts and their blocks; the writing commits (layer 16, pure). No statement of the seat is proved here. -/
namespace Go.Proofs.YthmiainhaebjiaaGreatDoor
open Go.RowKit Go.Shelf

theorem in_all {n : Nat} {L : List Ev} (hwf : ∀ e ∈ L, e.wf) (hm : idxF (missE n) L 0 = -1) : ∀ e ∈ L, 0 ≤ e.ad ∧ (e.kd = 2 ∨ e.kd = 3 → e.ad < (n : Int)) := fun e he => ⟨(hwf e he).2.2.1.1, fun hk => by
  have hno : missE n e = false := by
    rcases idxF_in (missE n) L 0 with ⟨_, h⟩ | ⟨j, h, _⟩
    · exact h e he
    · rw [hm] at h; omega
  unfold missE at hno
  rcases hk with hk | hk <;> · rw [hk] at hno; simpa using hno⟩
/-- An attempt and its block. -/
structure TyAt (n : Nat) (L : List Ev) (t : Ty) (p : Pt) (a b : Nat) : Prop where
  fi : t.fi = (a : Int)
  la : t.la = (b : Int)
  ab : a ≤ b
  bl : b < L.length
  rs : p.rs = (seg L a b).filterMap (rdE t.th)
  inr : ∀ x ∈ p.rs, 0 ≤ x.1 ∧ x.1 < (n : Int)
  rl : p.rs.length ≤ L.length
theorem wr_ex (L : List Ev) : ∃ W, WrOf (partsL L) W := by
  refine ⟨((partsL L).filter fun p => p.wr).mergeSort (fun p q => decide (p.la ≤ q.la)), List.mergeSort_perm _ _, ?_⟩
  refine wr_strict ?_ ?_
  · have h := distL_parts L
    unfold DistL at h ⊢
    have h2 : (((partsL L).filter fun p => p.wr).map (·.la)).Nodup := h.sublist ((List.filter_sublist).map _)
    exact ((List.mergeSort_perm _ _).map _).nodup_iff.2 h2
  · refine (List.pairwise_mergeSort (fun a b c h1 h2 => ?_) (fun a b => ?_) _).imp (fun h => by simpa using h)
    · simp at *; omega
    · simp; omega
end Go.Proofs.YthmiainhaebjiaaGreatDoor


/- The law OpaqueMeans at any cells and history (layer 16). No statement of the seat is proved here. -/
namespace Go.Proofs.YthmiainhaebjiaaGreatDoor
open Go.RowKit Go.Shelf

theorem wr_sub {l W : List Pt} (h : WrOf l W) {p : Pt} (hp : p ∈ W) : p ∈ l := (List.mem_filter.1 (h.perm.mem_iff.1 hp)).1
end Go.Proofs.YthmiainhaebjiaaGreatDoor


/- What the seat's rows list: the program's two tables, in the world in which a call begins, and a world that holds them. No statement of the seat is proved here. -/
namespace Go.Proofs.YthmiainhaebjiaaGreatDoor
open Go.ChangeShapes Go.WideShapes Go.ChangeAt Go.RowKit Go.Shelf

theorem own : ownKnob Tryz.prog.godebug = none := by kernel_rfl
theorem gSh : Tryz.prog.globalNamed "parley/events.shapes" = some 1 := by kernel_rfl
theorem gShT : (Tryz.prog.globals[1]?).map (·.type) = some 217 := by kernel_rfl
theorem gTu : Tryz.prog.globalNamed "parley/events.turns" = some 0 := by kernel_rfl
theorem gTuT : (Tryz.prog.globals[0]?).map (·.type) = some 209 := by kernel_rfl
theorem cellsU : Tryz.prog.cellsOf 26 = 1 := by kernel_rfl
theorem cellsStr : Tryz.prog.cellsOf 9 = 1 := by kernel_rfl
theorem cellsBl : Tryz.prog.cellsOf 4 = 1 := by kernel_rfl
theorem cellsSh : Tryz.prog.cellsOf 216 = 4 := by kernel_rfl
theorem cellsSt : Tryz.prog.cellsOf 184 = 1 := by kernel_rfl
theorem cells13 : Tryz.prog.cellsOf 208 = 13 := by kernel_rfl

theorem laid_tail {P : Program} {w : World} {x : String × DataW Unit} {r : List (String × DataW Unit)} {ps : List MemPlace} (h : DataW.LaidVars P w (x :: r) ps) : ∃ q, DataW.LaidVars P w r q := by
  obtain ⟨g, t, cs, fuel, p, q, _, _, _, _, h6, _⟩ := h
  exact ⟨q, h6⟩
section
variable {H : Type} {enc : TypeId × Value → H} {P : Program} {w : World} {base : Nat} {sp : Nat → Bool} {held : Bool}
/-- An element of an array, read by itself. -/
theorem arr_at {fuel n : Nat} {t e : TypeId} {cs : List Value} {ds : List (DataW H)} {p : List MemPlace} (ht : P.underlying t = some (.array n e)) (h : DataW.trod enc P w base sp held fuel t cs = some (.agg ds, p)) {i : Nat} {d : DataW H} (hi : ds[i]? = some d) :
    ∃ m q, DataW.trod enc P w base sp held m e ((cs.drop (i * P.cellsOf e)).take (P.cellsOf e)) = some (d, q) := by
  obtain ⟨xs, m, _, hx, _, hl, hf⟩ := DataW.trod_array ht h
  have hds := (Prod.mk.inj hx).1
  simp only [DataW.agg.injEq] at hds
  subst hds
  obtain ⟨y, hy, rfl⟩ := Option.map_eq_some_iff.1 (List.getElem?_map .. ▸ hi)
  have hin : i < n := by
    have := (List.getElem?_eq_some_iff.1 hy).1
    omega
  exact ⟨m, y.2, (hf i hin).trans hy⟩
/-- A field of a struct, read by itself. -/
theorem fld_at {fuel : Nat} {t : TypeId} {fs : Array Field} {cs : List Value} {ds : List (DataW H)} {p : List MemPlace} (ht : P.underlying t = some (.struct fs)) (h : DataW.trod enc P w base sp held fuel t cs = some (.agg ds, p)) {i : Nat} {f : Field} {d : DataW H} (hf0 : fs[i]? = some f) (hi : ds[i]? = some d) :
    ∃ m q, DataW.trod enc P w base sp held m f.type ((cs.drop f.offset).take (P.cellsOf f.type)) = some (d, q) := by
  obtain ⟨xs, m, _, hx, _, hl, hf⟩ := DataW.trod_struct ht h
  have hds := (Prod.mk.inj hx).1
  simp only [DataW.agg.injEq] at hds
  subst hds
  obtain ⟨y, hy, rfl⟩ := Option.map_eq_some_iff.1 (List.getElem?_map .. ▸ hi)
  exact ⟨m, y.2, (hf i f hf0).trans hy⟩
theorem one_of {cs : List Value} {o : Nat} {v : Value} (h : (cs.drop o).take 1 = [v]) : cs[o]? = some v := by
  have := congrArg (·[0]?) h
  simpa [List.getElem?_take, List.getElem?_drop] using this
theorem sub_of {cs : List Value} {o n k : Nat} {v : Value} (h : ((cs.drop o).take n)[k]? = some v) : cs[o + k]? = some v := by
  rw [List.getElem?_take] at h
  split at h
  · rwa [List.getElem?_drop] at h
  · cases h
end
def shD {H : Type} (i : Nat) : DataW H := .agg [.lit (.string (shL i)), .lit (.bool (adB i)), .lit (.bool (wdB i)), .lit (.bool (erB i))]
theorem sh_data {H : Type} : (Rows.laid_parley_events_shapes : DataW H) = .agg ((List.range 13).map shD) := by rfl
def tuD {H : Type} (s : Nat) : DataW H := .agg ((List.range 13).map fun k => .lit (.int .i64 (turnT s k)))
theorem tu_data {H : Type} : (Rows.laid_parley_events_turns : DataW H) = .agg ((List.range 5).map tuD) := by rfl
theorem sh_vars {W : World} {rest : List (String × DataW Unit)} {ps : List MemPlace} (h : DataW.LaidVars Tryz.prog W (("parley/events.shapes", Rows.laid_parley_events_shapes) :: rest) ps) : ∀ i, i < 13 → W.cell? ⟨1, i * 4, none⟩ = some (.string ⟨(shL i).toArray⟩) ∧ W.cell? ⟨1, i * 4 + 1, none⟩ = some (.bool (adB i)) ∧ W.cell? ⟨1, i * 4 + 2, none⟩ = some (.bool (wdB i)) ∧ W.cell? ⟨1, i * 4 + 3, none⟩ = some (.bool (erB i)) := by
  obtain ⟨g', t', cs, fuel, p, q, hg', ht', hvar, hd, _, _⟩ := h
  obtain rfl := Option.some.inj (gSh.symm.trans hg')
  obtain rfl := Option.some.inj (gShT.symm.trans ht')
  rw [sh_data] at hd
  intro i hi
  obtain ⟨m, r, hm⟩ := arr_at Tryz.underlying217 hd (i := i) (d := shD i) (by rw [List.getElem?_map, List.getElem?_range hi]; rfl)
  rw [cellsSh] at hm
  obtain ⟨m0, r0, h0⟩ := fld_at Tryz.underlying216 hm (i := 0) rfl rfl
  replace h0 := (show DataW.trod _ Tryz.prog W 0 _ false m0 9 ((((cs.toList.drop (i * 4)).take 4).drop 0).take (Tryz.prog.cellsOf 9)) = _ from h0)
  obtain ⟨m1, r1, h1⟩ := fld_at Tryz.underlying216 hm (i := 1) rfl rfl
  replace h1 := (show DataW.trod _ Tryz.prog W 0 _ false m1 4 ((((cs.toList.drop (i * 4)).take 4).drop 1).take (Tryz.prog.cellsOf 4)) = _ from h1)
  obtain ⟨m2, r2, h2⟩ := fld_at Tryz.underlying216 hm (i := 2) rfl rfl
  replace h2 := (show DataW.trod _ Tryz.prog W 0 _ false m2 4 ((((cs.toList.drop (i * 4)).take 4).drop 2).take (Tryz.prog.cellsOf 4)) = _ from h2)
  obtain ⟨m3, r3, h3⟩ := fld_at Tryz.underlying216 hm (i := 3) rfl rfl
  replace h3 := (show DataW.trod _ Tryz.prog W 0 _ false m3 4 ((((cs.toList.drop (i * 4)).take 4).drop 3).take (Tryz.prog.cellsOf 4)) = _ from h3)
  rw [cellsStr] at h0
  rw [cellsBl] at h1 h2 h3
  obtain ⟨z, e0, x0, _⟩ := DataW.trod_string Tryz.underlying9 h0
  obtain ⟨b1, e1, x1⟩ := DataW.trod_bool Tryz.underlying4 h1
  obtain ⟨b2, e2, x2⟩ := DataW.trod_bool Tryz.underlying4 h2
  obtain ⟨b3, e3, x3⟩ := DataW.trod_bool Tryz.underlying4 h3
  have q0 := sub_of (one_of e0)
  have q1 := sub_of (one_of e1)
  have q2 := sub_of (one_of e2)
  have q3 := sub_of (one_of e3)
  have hz : shL i = z.data.toList := by simpa using (Prod.mk.inj x0).1
  have hb1 : adB i = b1 := by simpa using (Prod.mk.inj x1).1
  have hb2 : wdB i = b2 := by simpa using (Prod.mk.inj x2).1
  have hb3 : erB i = b3 := by simpa using (Prod.mk.inj x3).1
  have hc : ∀ k : Nat, W.cell? ⟨1, k, none⟩ = cs.toList[k]? := fun k => by rw [World.var?_cell gSh hvar k]; simp
  refine ⟨?_, ?_, ?_, ?_⟩
  · rw [hc, hz]; simpa using q0
  · rw [hc, hb1]; exact q1
  · rw [hc, hb2]; exact q2
  · rw [hc, hb3]; exact q3
theorem tu_vars {W : World} {rest : List (String × DataW Unit)} {ps : List MemPlace} (h : DataW.LaidVars Tryz.prog W (("parley/events.turns", Rows.laid_parley_events_turns) :: rest) ps) : ∀ s k, s < 5 → k < 13 → W.cell? ⟨0, s * 13 + k, none⟩ = some (.int .i64 (turnT s k)) := by
  obtain ⟨g', t', cs, fuel, p, q, hg', ht', hvar, hd, _, _⟩ := h
  obtain rfl := Option.some.inj (gTu.symm.trans hg')
  obtain rfl := Option.some.inj (gTuT.symm.trans ht')
  rw [tu_data] at hd
  intro s k hs hk
  obtain ⟨m, r, hm⟩ := arr_at Tryz.underlying209 hd (i := s) (d := tuD s) (by rw [List.getElem?_map, List.getElem?_range hs]; rfl)
  rw [cells13] at hm
  obtain ⟨m0, r0, h0⟩ := arr_at Tryz.underlying208 hm (i := k) (d := .lit (.int .i64 (turnT s k))) (by rw [List.getElem?_map, List.getElem?_range hk]; rfl)
  rw [cellsSt] at h0
  obtain ⟨z, e0, x0, _⟩ := DataW.trod_int Tryz.underlying184 h0
  have q0 := sub_of (one_of e0)
  have hz : turnT s k = z := by simpa using (Prod.mk.inj x0).1
  rw [World.var?_cell gTu hvar, hz]
  simpa using q0
abbrev laidL : List (String × DataW Unit) := [("parley/events.shapes", Rows.laid_parley_events_shapes), ("parley/events.turns", Rows.laid_parley_events_turns)]
/-- What a row's list gives. -/
theorem gv_of {W : World} (h : laidMetH Tryz.prog laidL W) : Gv W := by
  have h' : laidMet Tryz.prog laidL W := h
  obtain ⟨ps, hv, _⟩ := h'
  have sh := sh_vars hv
  obtain ⟨q, hv⟩ := laid_tail hv
  have tu := tu_vars hv
  exact ⟨fun i hi => (sh i hi).1, fun i hi => (sh i hi).2.1, fun i hi => (sh i hi).2.2.1, fun i hi => (sh i hi).2.2.2, tu⟩
/-- All of the program's variables lie below. -/
theorem eight {W : World} (h : laidMetH Tryz.prog laidL W) : 2 ≤ W.heap.size := by
  have h' : laidMet Tryz.prog laidL W := h
  obtain ⟨ps, hv, _⟩ := h'
  obtain ⟨g', t', cs, fuel, p, q, hg', ht', hvar, hd, _, _⟩ := hv
  unfold World.var? at hvar
  rw [gSh, Option.bind_some] at hvar
  rcases Nat.lt_or_ge 1 W.heap.size with h' | h'
  · exact h'
  · rw [Array.getElem?_eq_none h'] at hvar; cases hvar
/-- The cells of a datum: numbers, truths and texts, and rows of these. -/
def litV : Lit → Value
  | .int k z => .int k z
  | .string l => .string ⟨l.toArray⟩
  | .bool b => .bool b
  | _ => undef
def flat1 : DataW Unit → List Value
  | .lit l => [litV l]
  | .agg ds => ds.map fun
    | .lit l => litV l
    | _ => undef
  | _ => []
def flat2 : DataW Unit → List Value
  | .agg ds => ds.flatMap flat1
  | _ => []
def layAt (cs : List Value) : Obj → Obj
  | .cells _ t frozen => .cells cs.toArray t frozen
  | o => o
/-- A world for the witness: the settled one, the variables holding what their initialisers lay. -/
noncomputable def laidWorld (os : Os) : World :=
  let w0 := World.holding Tryz.prog os ⟨#[], #[], []⟩
  { w0 with heap := (w0.heap.modify 1 (layAt (flat2 Rows.laid_parley_events_shapes))).modify 0 (layAt (flat2 Rows.laid_parley_events_turns)) }
end Go.Proofs.YthmiainhaebjiaaGreatDoor


/- How a history that comes in reads. No statement of the seat is proved here. -/
namespace Go.Proofs.YthmiainhaebjiaaGreatDoor
open Go.ChangeShapes Go.WideShapes Go.ChangeAt Go.RowKit Go.Shelf

theorem wf_i64 {a : Int} (h : (Lit.int .i64 a).wf = true) : -9223372036854775808 ≤ a ∧ a < 9223372036854775808 := by
  simp [Lit.wf, IntKind.min, IntKind.max, IntKind.signed, IntKind.bits] at h; omega
theorem wf_u64 {a : Int} (h : (Lit.int .u64 a).wf = true) : 0 ≤ a ∧ a < 18446744073709551616 := by
  simp [Lit.wf, IntKind.min, IntKind.max, IntKind.signed, IntKind.bits] at h; omega
theorem laidOut : laidOutB Tryz.prog = true := by kernel_rfl
theorem cellsE : Tryz.prog.cellsOf 60 = 6 := by kernel_rfl
theorem cellsK : Tryz.prog.cellsOf 52 = 1 := by kernel_rfl
theorem cellsEr : Tryz.prog.cellsOf 29 = 1 := by kernel_rfl
theorem cellsN : Tryz.prog.cellsOf 3 = 1 := by kernel_rfl
theorem bytesE : Tryz.prog.bytesOf 60 = 48 := by kernel_rfl

section
variable {H : Type} {enc : TypeId × Value → H} {W : World}
set_option maxRecDepth 100000 in
theorem open_ev6 {fuel : Nat} {cs : List Value} {x : DataW H × List MemPlace} (h : DataW.trod enc Tryz.prog W 0 (fun _ => true) true fuel 60 cs = some x) (hlen : cs.length = 6) :
    ∃ e : Ev, cs = e.cl ∧ e.wf := by
  obtain ⟨xs, k, hk, hxy, _, hxl, hf⟩ := DataW.trod_struct Tryz.underlying60 h
  match xs, hxl, cs, hlen with
  | [y0, y1, y2, y3, y4, y5], _, [v0, v1, v2, v3, v4, v5], _ =>
    have g0 := hf 0 _ rfl
    have g1 := hf 1 _ rfl
    have g2 := hf 2 _ rfl
    have g3 := hf 3 _ rfl
    have g4 := hf 4 _ rfl
    have g5 := hf 5 _ rfl
    simp [cellsN, cellsU, cellsK, cellsBl, cellsEr] at g0 g1 g2 g3 g4 g5
    obtain ⟨n0, e0, _, w0⟩ := DataW.trod_int Tryz.underlying3 g0
    obtain ⟨n1, e1, _, w1⟩ := DataW.trod_int Tryz.underlying52 g1
    obtain ⟨n2, e2, _, w2⟩ := DataW.trod_int Tryz.underlying26 g2
    obtain ⟨n3, e3, _, w3⟩ := DataW.trod_int Tryz.underlying26 g3
    obtain ⟨n4, e4, _⟩ := DataW.trod_bool Tryz.underlying4 g4
    obtain ⟨n5, e5, _, w5⟩ := DataW.trod_int Tryz.underlying29 g5
    simp at e0 e1 e2 e3 e4 e5
    subst e0 e1 e2 e3 e4 e5
    exact ⟨⟨n0, n1, n2, n3, n4, n5⟩, rfl, wf_i64 w0, wf_i64 w1, wf_u64 w2, wf_u64 w3, wf_i64 w5⟩
theorem cell_spot {w : World} {a : Addr} {v : Value} (h : w.cell? a = some v) : a.spot = none := by
  unfold World.cell? at h
  split at h
  · cases hs : a.spot with
    | none => rfl
    | some _ => simp [hs] at h
  · simp at h
theorem choose_list {P : Nat → Ev → Prop} : ∀ n, (∀ k, k < n → ∃ i, P k i) → ∃ L : List Ev, L.length = n ∧ ∀ k (hk : k < L.length), P k (L[k])
  | 0, _ => ⟨[], rfl, fun k hk => by simp at hk⟩
  | n + 1, h => by
    obtain ⟨L, hl, hL⟩ := choose_list n (fun k hk => h k (by omega))
    obtain ⟨i, hi⟩ := h n (by omega)
    refine ⟨L ++ [i], by simp [hl], fun k hk => ?_⟩
    by_cases hkl : k < L.length
    · rw [List.getElem_append_left hkl]; exact hL k hkl
    · obtain rfl : k = L.length := by simp at hk; omega
      rw [List.getElem_append_right (Nat.le_refl _)]
      simp only [Nat.sub_self, List.getElem_cons_zero]
      rw [hl]; exact hi
set_option maxRecDepth 100000 in
theorem open_evl {v : Value} {d : DataW H} {ps : List MemPlace} {base : Nat} (hok : Value.okWide Tryz.prog W .any base 23 v) (h : DataW.Trod enc Tryz.prog W 0 (fun _ => true) true 23 v d ps) :
    ∃ L : List Ev, (ElsAt Ev.cl 6 W v L ∧ ∀ e ∈ L, e.wf) ∧ ((d = .nil ∧ L = []) ∨ ∃ elems spare, d = .slice elems spare ∧ elems.length = L.length) := by
  obtain ⟨a, len, cap, rfl⟩ := okWide_slice Tryz.underlying23 hok
  obtain ⟨fuel, hf⟩ := h
  rcases Deep.open_slice Tryz.underlying23 hf with ⟨hcs, hx⟩ | ⟨x, l, c, m, n, D, Pl, hcs, _, hl, hm, hmm, hx, hcell⟩
  · simp [Value.cells] at hcs
    obtain ⟨rfl, rfl, rfl⟩ := hcs
    exact ⟨[], ⟨⟨none, 0, rfl, Nat.le_refl _, fun k hk => absurd hk (by simp)⟩, by simp⟩, .inl ⟨(Prod.mk.inj hx).1, rfl⟩⟩
  · simp [Value.cells] at hcs
    obtain ⟨rfl, rfl, rfl⟩ := hcs
    simp at hmm
    subst hmm
    have hd := (Prod.mk.inj hx).1
    have key : ∀ k, k < len → ∃ e : Ev, e.wf ∧ ∃ g off, x = ⟨g, off, none⟩ ∧ ∀ f y, e.cl[f]? = some y → W.cell? ⟨g, off + k * 6 + f, none⟩ = some y := fun k hk => by
      obtain ⟨cs', h1, h2⟩ := hcell k (by omega)
      rw [cellsE] at h1
      obtain ⟨_, hlen, hc⟩ := World.cells?_some h1
      obtain ⟨s, rfl, hwf⟩ := open_ev6 h2 hlen
      have hsp : x.spot = none := by
        obtain ⟨cs0, h10, h20⟩ := hcell 0 (by omega)
        rw [cellsE] at h10
        obtain ⟨_, hlen0, hc0⟩ := World.cells?_some h10
        obtain ⟨s0, rfl, _⟩ := open_ev6 h20 hlen0
        have := hc0 0 (by omega)
        simp [Addr.add] at this
        exact cell_spot this
      obtain ⟨xb, xo, xs⟩ := x
      cases hsp
      refine ⟨s, hwf, xb, xo, rfl, fun f y hy => ?_⟩
      have hf6 : f < 6 := (List.getElem?_eq_some_iff.1 hy).1
      have e := (congrArg W.cell? (show (⟨xb, xo + k * 6 + f, none⟩ : Addr) = ((⟨xb, xo, none⟩ : Addr).add (k * 6)).add f by rw [addr_add, addr_add])).trans (hc f hf6)
      rw [e]
      obtain ⟨_, hy2⟩ := List.getElem?_eq_some_iff.1 hy
      first | rw [hy2] | rw [← hy]
    obtain ⟨L, hLl, hL⟩ := choose_list len key
    refine ⟨L, ⟨⟨some x, _, by rw [hLl], by omega, fun k hk => ?_⟩, ?_⟩, .inr ⟨_, _, hd, by simp [hLl]⟩⟩
    · obtain ⟨_, g, off, rfl, q⟩ := hL k hk
      exact ⟨g, off, rfl, q⟩
    · intro i hi
      obtain ⟨k, hk, rfl⟩ := List.getElem_of_mem hi
      exact (hL k hk).1
end
end Go.Proofs.YthmiainhaebjiaaGreatDoor


/- How words that come in read (layer 16). No statement of the seat is proved here. -/
namespace Go.Proofs.YthmiainhaebjiaaGreatDoor
open Go.ChangeShapes Go.WideShapes Go.ChangeAt Go.RowKit Go.Shelf

theorem bytesU : Tryz.prog.bytesOf 26 = 8 := by kernel_rfl
set_option maxRecDepth 100000 in
/-- A slice of words that came in. -/
theorem open_wds {H : Type} {enc : TypeId × Value → H} {W : World} {v : Value} {d : DataW H} {ps : List MemPlace} {base : Nat} (hok : Value.okWide Tryz.prog W .any base 22 v) (h : DataW.Trod enc Tryz.prog W 0 (fun _ => true) true 22 v d ps) :
    ∃ ws : List Int, WsAt W v ws ∧ ((d = .nil ∧ ws = []) ∨ ∃ elems spare, d = .slice elems spare ∧ elems.length = ws.length) := by
  obtain ⟨a, len, cap, rfl⟩ := okWide_slice Tryz.underlying22 hok
  obtain ⟨fuel, hf⟩ := h
  rcases open_ints Tryz.underlying22 Tryz.underlying26 cellsU hf with ⟨hcs, hx⟩ | ⟨x, l, c, zs, hcs, _, hl, hm, hz, hx, hcell, hwz⟩
  · simp [Value.cells] at hcs
    obtain ⟨rfl, rfl, rfl⟩ := hcs
    exact ⟨[], ⟨none, 0, rfl, Nat.le_refl _, fun k hk => absurd hk (by simp)⟩, .inl ⟨(Prod.mk.inj hx).1, rfl⟩⟩
  · simp [Value.cells] at hcs
    obtain ⟨rfl, rfl, rfl⟩ := hcs
    simp at hz
    have hlen : (zs.take len).length = len := by simp; omega
    refine ⟨zs.take len, ?_, .inr ⟨_, _, (Prod.mk.inj hx).1, by simp [lits]⟩⟩
    refine ⟨some x, cap, by rw [hlen], by omega, fun i hi => ?_⟩
    have hi' : i < len := by omega
    have hc := hcell i (by omega)
    have hsp : x.spot = none := by
      have := hcell 0 (by omega)
      simp [Addr.add] at this
      exact cell_spot this
    obtain ⟨xb, xo, xs⟩ := x
    cases hsp
    rw [addr_add] at hc
    refine ⟨xb, xo, rfl, fun f y hy => ?_⟩
    have hf0 : f = 0 := by
      have := (List.getElem?_eq_some_iff.1 hy).1
      simp at this
      omega
    subst hf0
    simp only [List.getElem?_cons_zero, Option.some.injEq] at hy
    rw [Nat.mul_one, Nat.add_zero, hc, ← hy, List.getElem_take, List.getD_eq_getElem?_getD, List.getElem?_eq_getElem (by omega)]
    rfl
end Go.Proofs.YthmiainhaebjiaaGreatDoor


/-
  A slice among arguments of small bulk is short. No statement of the seat is proved here.
-/
namespace Go.Proofs.YthmiainhaebjiaaGreatDoor.bulks
open Go.Proofs.YthmiainhaebjiaaGreatDoor.Rows

theorem all_parts {H : Type} : ∀ l : List (DataW H), l.length ≤ uptoBulkAll l ∧ ∀ d, d ∈ l → uptoBulk d ≤ uptoBulkAll l
  | [] => ⟨Nat.zero_le _, fun _ h => nomatch h⟩
  | x :: r => by
    have hr := all_parts r
    have hx : 0 < uptoBulk x := by
      rcases x with (l | _ | _ | _ | _ | _ | _ | _)
      · cases l <;> simp [uptoBulk]
      all_goals simp [uptoBulk]
    refine ⟨by simp only [uptoBulkAll, List.length_cons]; omega, fun d hd => ?_⟩
    simp only [uptoBulkAll]
    rcases List.mem_cons.1 hd with rfl | hd
    · omega
    · have := hr.2 d hd
      omega
/-- The length of a slice that is handed in. -/
theorem slice_len {H : Type} {l : List (DataW H)} (hk : uptoSmall H l = true) {e s : List (DataW H)} (hm : .slice e s ∈ l) : e.length ≤ 1048576 := by
  have h1 := (all_parts l).2 _ hm
  have h2 := (all_parts e).1
  simp only [uptoSmall, decide_eq_true_eq] at hk
  simp only [uptoBulk] at h1
  omega
end Go.Proofs.YthmiainhaebjiaaGreatDoor.bulks
