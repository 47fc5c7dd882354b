
/- What comes in, opened (layer 25). No statement of the seat is proved here. -/
import Derived.Test.YtiacennkjjfifaaRows
import Derived.Test.YtiacennkjjfifaaTkW
import Derived.ProofKit
import Derived.OpenShut
import Derived.SizedLaws
import Derived.Deep.Grids
namespace Go.Proofs.Ytiacennkjjfifaa
open Go.ChangeShapes Go.WideShapes Go.ChangeAt Go.RowKit

/-- A step of the script. -/
structure St where
  kd : Int
  ro : Int
  at_ : Int
  x : Int
  y : Int
def St.Ok (s : St) : Prop := isW s.ro ∧ isW s.at_ ∧ isW s.x ∧ isW s.y
def St.l (s : St) : List Value := [.int .i64 s.kd, .int .u64 s.ro, .int .u64 s.at_, .int .u64 s.x, .int .u64 s.y]
/-- A row of steps, wherever it lies. -/
def StepsAt (w : World) (a : Option Addr) (n : Nat) : Prop := ∀ k, k < n → ∃ g off, a = some ⟨g, off, none⟩ ∧ ∃ s : St, s.Ok ∧ ∀ j v, s.l[j]? = some v → w.cell? ⟨g, off + k * 5 + j, none⟩ = some v
theorem laidOut : laidOutB Try.prog = true := by kernel_rfl
theorem ownK : ownKnob Try.prog.godebug = none := by kernel_rfl
theorem cellsWord : Try.prog.cellsOf 32 = 1 := by kernel_rfl
theorem bytesWord : Try.prog.bytesOf 32 = 8 := by kernel_rfl
theorem cellsInt : Try.prog.cellsOf 3 = 1 := by kernel_rfl
theorem cellsStep : Try.prog.cellsOf 34 = 5 := by kernel_rfl
theorem bytesStep : Try.prog.bytesOf 34 = 40 := by kernel_rfl
theorem wf_u64 {n : Int} (h : (Lit.int .u64 n).wf = true) : isW n := by
  have h : 0 ≤ n ∧ n ≤ 18446744073709551615 := by simpa [Lit.wf, IntKind.min, IntKind.max, IntKind.signed, IntKind.bits] using h
  exact ⟨h.1, by omega⟩
theorem cell_spot {w : World} {a : Addr} {v : Value} (h : w.cell? a = some v) : a.spot = none := by
  unfold World.cell? at h
  split at h
  · cases hs : a.spot with
    | none => rfl
    | some _ => simp [hs] at h
  · simp at h

section
variable {H : Type} {enc : TypeId × Value → H} {W : World}
set_option maxRecDepth 100000 in
/-- A slice of words that came in. -/
theorem open_words {v : Value} {d : DataW H} {ps : List MemPlace} {base : Nat} (hok : Value.okWide Try.prog W .any base 22 v) (h : DataW.Trod enc Try.prog W 0 (fun _ => true) true 22 v d ps) (hwt : ∀ N ∈ d.weights Try.prog 22, N ≤ reachBytes) :
    ∃ ws, Lies W v ws ∧ (∀ x ∈ ws, isW x) ∧ ws.length * 8 ≤ 140737488351232 := by
  obtain ⟨a, len, cap, rfl⟩ := okWide_slice Try.underlying22 hok
  obtain ⟨fuel, hf⟩ := h
  rcases open_ints Try.underlying22 Try.underlying32 cellsWord hf with ⟨hcs, hx⟩ | ⟨x, l, c, zs, hcs, _, hl, hm, hz, hx, hcell, hwz⟩
  · simp [Value.cells] at hcs
    obtain ⟨rfl, rfl, rfl⟩ := hcs
    exact ⟨[], ⟨none, 0, rfl, fun i h => absurd h (by simp)⟩, fun x hx => by simp at hx, by simp⟩
  · simp [Value.cells] at hcs
    obtain ⟨rfl, rfl, rfl⟩ := hcs
    simp at hz
    have hlen : (zs.take len).length = len := by simp; omega
    have hb : len * 8 ≤ 140737488351232 := by
      rw [(Prod.mk.inj hx).1] at hwt
      have := hwt _ (by
        simp only [DataW.weights, Try.underlying22]
        exact List.mem_cons_self)
      rw [bytesWord] at this
      simp only [reachBytes, lits, List.length_map, List.length_take, List.length_drop] at this
      omega
    refine ⟨zs.take len, ⟨some x, cap, by rw [hlen], fun i hi => ?_⟩, fun n hn => wf_u64 (hwz n (List.mem_of_mem_take hn)), by rw [hlen]; exact hb⟩
    have hi' : i < len := by simp at hi; omega
    obtain ⟨b, o, s⟩ := x
    have hc := hcell i (by omega)
    have hs : s = none := by
      have := cell_spot (hcell 0 (by omega))
      simpa [Addr.add] using this
    subst hs
    rw [addr_add] at hc
    refine ⟨b, o, rfl, ?_⟩
    rw [hc]
    simp [oat, List.getElem?_take_of_lt hi', List.getD_eq_getElem?_getD]

set_option maxRecDepth 100000 in
/-- One step. -/
theorem open_step5 {fuel : Nat} {cs : List Value} {d : DataW H} {ps : List MemPlace} (h : DataW.trod enc Try.prog W 0 (fun _ => true) true fuel 34 cs = some (d, ps)) (hlen : cs.length = 5) :
    ∃ s : St, cs = s.l ∧ s.Ok := by
  obtain ⟨xs, k, hk, hxy, _, hxl, hf⟩ := DataW.trod_struct Try.underlying34 h
  match xs, hxl, cs, hlen with
  | [y0, y1, y2, y3, y4], _, [v0, v1, v2, v3, v4], _ =>
    have g0 := hf 0 _ rfl
    have g1 := hf 1 _ rfl
    have g2 := hf 2 _ rfl
    have g3 := hf 3 _ rfl
    have g4 := hf 4 _ rfl
    simp [cellsInt, cellsWord] at g0 g1 g2 g3 g4
    obtain ⟨n0, e0, _, _⟩ := DataW.trod_int Try.underlying3 g0
    obtain ⟨n1, e1, _, b1⟩ := DataW.trod_int Try.underlying32 g1
    obtain ⟨n2, e2, _, b2⟩ := DataW.trod_int Try.underlying32 g2
    obtain ⟨n3, e3, _, b3⟩ := DataW.trod_int Try.underlying32 g3
    obtain ⟨n4, e4, _, b4⟩ := DataW.trod_int Try.underlying32 g4
    simp at e0 e1 e2 e3 e4
    subst e0 e1 e2 e3 e4
    exact ⟨⟨n0, n1, n2, n3, n4⟩, rfl, wf_u64 b1, wf_u64 b2, wf_u64 b3, wf_u64 b4⟩
set_option maxRecDepth 100000 in
theorem open_numU {v : Value} {d : DataW H} {ps : List MemPlace} {base : Nat} (hok : Value.okWide Try.prog W .any base 32 v) (h : DataW.Trod enc Try.prog W 0 (fun _ => true) true 32 v d ps) : ∃ x, v = .int .u64 x ∧ isW x := by
  obtain ⟨x, rfl, _, _, hw⟩ := open_int Try.underlying32 hok h
  exact ⟨x, rfl, wf_u64 hw⟩
set_option maxRecDepth 100000 in
theorem open_numI {v : Value} {d : DataW H} {ps : List MemPlace} {base : Nat} (hok : Value.okWide Try.prog W .any base 3 v) (h : DataW.Trod enc Try.prog W 0 (fun _ => true) true 3 v d ps) : ∃ x : Int, v = .int .i64 x ∧ -9223372036854775808 ≤ x ∧ x < 9223372036854775808 := by
  obtain ⟨x, rfl, _, _, hw⟩ := open_int Try.underlying3 hok h
  have hw : -9223372036854775808 ≤ x ∧ x ≤ 9223372036854775807 := by simpa [Lit.wf, IntKind.min, IntKind.max, IntKind.signed, IntKind.bits] using hw
  exact ⟨x, rfl, hw.1, by omega⟩
set_option maxRecDepth 100000 in
/-- The script. -/
theorem open_steps {v : Value} {d : DataW H} {ps : List MemPlace} {base : Nat} (hok : Value.okWide Try.prog W .any base 23 v) (h : DataW.Trod enc Try.prog W 0 (fun _ => true) true 23 v d ps) (hwt : ∀ N ∈ d.weights Try.prog 23, N ≤ reachBytes) :
    ∃ a n c, v = .slice a n c ∧ StepsAt W a n ∧ n * 40 ≤ 140737488351232 := by
  obtain ⟨a, len, cap, rfl⟩ := okWide_slice Try.underlying23 hok
  obtain ⟨fuel, hf⟩ := h
  rcases Deep.open_slice Try.underlying23 hf with ⟨hcs, hx⟩ | ⟨x, l, c, m, n, D, Pl, hcs, _, hl, hm, hmm, hx, hcell⟩
  · simp [Value.cells] at hcs
    obtain ⟨rfl, rfl, rfl⟩ := hcs
    exact ⟨none, 0, 0, rfl, fun k hk => absurd hk (by simp), by omega⟩
  · simp [Value.cells] at hcs
    obtain ⟨rfl, rfl, rfl⟩ := hcs
    simp at hmm
    subst hmm
    have hd := (Prod.mk.inj hx).1
    have hb : len * 40 ≤ 140737488351232 := by
      have := hwt ((len + (m - len)) * Try.prog.bytesOf 34) (by
        rw [hd]
        simp [DataW.weights, Try.underlying23])
      rw [bytesStep] at this
      simp only [reachBytes] at this
      omega
    have each : ∀ i, i < len → ∃ st : St, st.Ok ∧ W.cells? 0 (x.add (i * 5)) 5 = some st.l := fun i hi => by
      obtain ⟨cs', h1, h2⟩ := hcell i (by omega)
      rw [cellsStep] at h1
      obtain ⟨_, hlen, _⟩ := World.cells?_some h1
      obtain ⟨st, rfl, ho⟩ := open_step5 h2 hlen
      exact ⟨st, ho, h1⟩
    refine ⟨some x, len, _, rfl, fun k hk => ?_, hb⟩
    obtain ⟨st, ho, h1⟩ := each k hk
    obtain ⟨_, _, hc⟩ := World.cells?_some h1
    have hsp : x.spot = none := by
      obtain ⟨_, _, h10⟩ := each 0 (by omega)
      obtain ⟨_, _, hc0⟩ := World.cells?_some h10
      have := hc0 0 (by omega)
      simp [Addr.add, St.l] at this
      exact cell_spot this
    obtain ⟨xb, xo, xs⟩ := x
    cases hsp
    have e := fun (j : Nat) (hj : j < 5) => (congrArg W.cell? (show (⟨xb, xo + k * 5 + j, none⟩ : Addr) = ((⟨xb, xo, none⟩ : Addr).add (k * 5)).add j by rw [addr_add, addr_add])).trans (hc j hj)
    refine ⟨xb, xo, rfl, st, ho, fun j v hj => ?_⟩
    have hjl : j < 5 := by have := (List.getElem?_eq_some_iff.1 hj).1; simpa [St.l] using this
    rw [e j hjl]
    exact hj
end

end Go.Proofs.Ytiacennkjjfifaa
