
/- What comes in, opened (layer 25). No statement of the seat is proved here. -/
import Derived.Test.YtiacennkjjfifabRows
import Derived.Test.YtiacennkjjfifabTkW
import Derived.ProofKit
import Derived.OpenShut
import Derived.SizedLaws
import Derived.Deep.Grids
namespace Go.Proofs.Ytiacennkjjfifab
open Go.ChangeShapes Go.WideShapes Go.ChangeAt Go.RowKit

/-- A step of the script. -/
structure St where
  kd : Int
  ro : Int
  at_ : Int
  x : Int
  y : Int
def St.Ok (s : St) : Prop := isW s.ro ∧ isW s.at_ ∧ isW s.x ∧ isW s.y
def St.l (s : St) : List Value := [.int .i64 s.kd, .int .u64 s.ro, .int .u64 s.at_, .int .u64 s.x, .int .u64 s.y]
/-- A row of steps, wherever it lies. -/
def StepsAt (w : World) (a : Option Addr) (n : Nat) : Prop := ∀ k, k < n → ∃ g off, a = some ⟨g, off, none⟩ ∧ ∃ s : St, s.Ok ∧ ∀ j v, s.l[j]? = some v → w.cell? ⟨g, off + k * 5 + j, none⟩ = some v
theorem laidOut : laidOutB Try.prog = true := by kernel_rfl
theorem ownK : ownKnob Try.prog.godebug = none := by kernel_rfl
theorem cellsWord : Try.prog.cellsOf 22 = 1 := by kernel_rfl
theorem bytesWord : Try.prog.bytesOf 22 = 8 := by kernel_rfl
theorem cellsInt : Try.prog.cellsOf 3 = 1 := by kernel_rfl
theorem wf_u64 {n : Int} (h : (Lit.int .u64 n).wf = true) : isW n := by
  have h : 0 ≤ n ∧ n ≤ 18446744073709551615 := by simpa [Lit.wf, IntKind.min, IntKind.max, IntKind.signed, IntKind.bits] using h
  exact ⟨h.1, by omega⟩
theorem cell_spot {w : World} {a : Addr} {v : Value} (h : w.cell? a = some v) : a.spot = none := by
  unfold World.cell? at h
  split at h
  · cases hs : a.spot with
    | none => rfl
    | some _ => simp [hs] at h
  · simp at h

section
variable {H : Type} {enc : TypeId × Value → H} {W : World}
set_option maxRecDepth 100000 in
/-- A slice of words that came in. -/
theorem open_words {v : Value} {d : DataW H} {ps : List MemPlace} {base : Nat} (hok : Value.okWide Try.prog W .any base 34 v) (h : DataW.Trod enc Try.prog W 0 (fun _ => true) true 34 v d ps) (hwt : ∀ N ∈ d.weights Try.prog 34, N ≤ reachBytes) :
    ∃ ws, Lies W v ws ∧ (∀ x ∈ ws, isW x) ∧ ws.length * 8 ≤ 140737488351232 := by
  obtain ⟨a, len, cap, rfl⟩ := okWide_slice Try.underlying34 hok
  obtain ⟨fuel, hf⟩ := h
  rcases open_ints Try.underlying34 Try.underlying22 cellsWord hf with ⟨hcs, hx⟩ | ⟨x, l, c, zs, hcs, _, hl, hm, hz, hx, hcell, hwz⟩
  · simp [Value.cells] at hcs
    obtain ⟨rfl, rfl, rfl⟩ := hcs
    exact ⟨[], ⟨none, 0, rfl, fun i h => absurd h (by simp)⟩, fun x hx => by simp at hx, by simp⟩
  · simp [Value.cells] at hcs
    obtain ⟨rfl, rfl, rfl⟩ := hcs
    simp at hz
    have hlen : (zs.take len).length = len := by simp; omega
    have hb : len * 8 ≤ 140737488351232 := by
      rw [(Prod.mk.inj hx).1] at hwt
      have := hwt _ (by
        simp only [DataW.weights, Try.underlying34]
        exact List.mem_cons_self)
      rw [bytesWord] at this
      simp only [reachBytes, lits, List.length_map, List.length_take, List.length_drop] at this
      omega
    refine ⟨zs.take len, ⟨some x, cap, by rw [hlen], fun i hi => ?_⟩, fun n hn => wf_u64 (hwz n (List.mem_of_mem_take hn)), by rw [hlen]; exact hb⟩
    have hi' : i < len := by simp at hi; omega
    obtain ⟨b, o, s⟩ := x
    have hc := hcell i (by omega)
    have hs : s = none := by
      have := cell_spot (hcell 0 (by omega))
      simpa [Addr.add] using this
    subst hs
    rw [addr_add] at hc
    refine ⟨b, o, rfl, ?_⟩
    rw [hc]
    simp [oat, List.getElem?_take_of_lt hi', List.getD_eq_getElem?_getD]

set_option maxRecDepth 100000 in
theorem open_numU {v : Value} {d : DataW H} {ps : List MemPlace} {base : Nat} (hok : Value.okWide Try.prog W .any base 22 v) (h : DataW.Trod enc Try.prog W 0 (fun _ => true) true 22 v d ps) : ∃ x, v = .int .u64 x ∧ isW x := by
  obtain ⟨x, rfl, _, _, hw⟩ := open_int Try.underlying22 hok h
  exact ⟨x, rfl, wf_u64 hw⟩
set_option maxRecDepth 100000 in
theorem open_numI {v : Value} {d : DataW H} {ps : List MemPlace} {base : Nat} (hok : Value.okWide Try.prog W .any base 3 v) (h : DataW.Trod enc Try.prog W 0 (fun _ => true) true 3 v d ps) : ∃ x : Int, v = .int .i64 x ∧ -9223372036854775808 ≤ x ∧ x < 9223372036854775808 := by
  obtain ⟨x, rfl, _, _, hw⟩ := open_int Try.underlying3 hok h
  have hw : -9223372036854775808 ≤ x ∧ x ≤ 9223372036854775807 := by simpa [Lit.wf, IntKind.min, IntKind.max, IntKind.signed, IntKind.bits] using hw
  exact ⟨x, rfl, hw.1, by omega⟩
end

end Go.Proofs.Ytiacennkjjfifab
