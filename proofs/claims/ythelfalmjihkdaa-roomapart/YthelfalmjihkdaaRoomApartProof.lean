
/-
  The law RoomApart returns true for every two words and every slice of pieces, and leaves all that was there as it was: no condition.
-/
import Derived.Test.YthelfalmjihkdaaRows
import Derived.Test.YthelfalmjihkdaaRaF
import Derived.ProofKit
import Derived.OpenShut
import Derived.SizedLaws
import Derived.Deep.Grids
namespace Go.Proofs.Ythelfalmjihkdaa
open Go.ChangeShapes Go.WideShapes Go.ChangeAt Go.RowKit

theorem laidOut : laidOutB Try.prog = true := by kernel_rfl
theorem own : ownKnob Try.prog.godebug = none := by kernel_rfl
theorem cellsWord : Try.prog.cellsOf 31 = 1 := by kernel_rfl
theorem cellsInt : Try.prog.cellsOf 3 = 1 := by kernel_rfl
theorem cellsPiece : Try.prog.cellsOf 45 = 2 := by kernel_rfl
theorem bytesPiece : Try.prog.bytesOf 45 = 16 := by kernel_rfl
theorem wf_u64 {n : Int} (h : (Lit.int .u64 n).wf = true) : isW n := by
  have h : 0 ≤ n ∧ n ≤ 18446744073709551615 := by simpa [Lit.wf, IntKind.min, IntKind.max, IntKind.signed, IntKind.bits] using h
  exact ⟨h.1, by omega⟩
theorem cell_spot {w : World} {a : Addr} {v : Value} (h : w.cell? a = some v) : a.spot = none := by
  unfold World.cell? at h
  split at h
  · cases hs : a.spot with
    | none => rfl
    | some _ => simp [hs] at h
  · simp at h

section
variable {H : Type} {enc : TypeId × Value → H} {W : World}
set_option maxRecDepth 100000 in
/-- One piece. -/
theorem open_piece {fuel : Nat} {cs : List Value} {d : DataW H} {ps : List MemPlace} (h : DataW.trod enc Try.prog W 0 (fun _ => true) true fuel 45 cs = some (d, ps)) (hlen : cs.length = 2) :
    ∃ x y, cs = [.int .u64 x, .int .i64 y] ∧ isW x := by
  obtain ⟨xs, k, hk, hxy, _, hxl, hf⟩ := DataW.trod_struct Try.underlying45 h
  match xs, hxl, cs, hlen with
  | [y0, y1], _, [v0, v1], _ =>
    have g0 := hf 0 _ rfl
    have g1 := hf 1 _ rfl
    simp [cellsInt, cellsWord] at g0 g1
    obtain ⟨n0, e0, _, b0⟩ := DataW.trod_int Try.underlying31 g0
    obtain ⟨n1, e1, _, _⟩ := DataW.trod_int Try.underlying3 g1
    simp at e0 e1
    subst e0 e1
    exact ⟨n0, n1, rfl, wf_u64 b0⟩

set_option maxRecDepth 100000 in
/-- The script. -/
theorem open_pieces {v : Value} {d : DataW H} {ps : List MemPlace} {base : Nat} (hok : Value.okWide Try.prog W .any base 37 v) (h : DataW.Trod enc Try.prog W 0 (fun _ => true) true 37 v d ps) (hwt : ∀ N ∈ d.weights Try.prog 37, N ≤ reachBytes) :
    ∃ a n c, v = .slice a n c ∧ PsAt W a n ∧ n * 16 ≤ 140737488351232 := by
  obtain ⟨a, len, cap, rfl⟩ := okWide_slice Try.underlying37 hok
  obtain ⟨fuel, hf⟩ := h
  rcases Deep.open_slice Try.underlying37 hf with ⟨hcs, hx⟩ | ⟨x, l, c, m, n, D, Pl, hcs, _, hl, hm, hmm, hx, hcell⟩
  · simp [Value.cells] at hcs
    obtain ⟨rfl, rfl, rfl⟩ := hcs
    exact ⟨none, 0, 0, rfl, fun k hk => absurd hk (by simp), by omega⟩
  · simp [Value.cells] at hcs
    obtain ⟨rfl, rfl, rfl⟩ := hcs
    simp at hmm
    subst hmm
    have hd := (Prod.mk.inj hx).1
    have hb : len * 16 ≤ 140737488351232 := by
      have := hwt ((len + (m - len)) * Try.prog.bytesOf 45) (by
        rw [hd]
        simp [DataW.weights, Try.underlying37])
      rw [bytesPiece] at this
      simp only [reachBytes] at this
      omega
    have each : ∀ i, i < len → ∃ a b, isW a ∧ W.cells? 0 (x.add (i * 2)) 2 = some [.int .u64 a, .int .i64 b] := fun i hi => by
      obtain ⟨cs', h1, h2⟩ := hcell i (by omega)
      rw [cellsPiece] at h1
      obtain ⟨_, hlen, _⟩ := World.cells?_some h1
      obtain ⟨a, b, rfl, ho⟩ := open_piece h2 hlen
      exact ⟨a, b, ho, h1⟩
    refine ⟨some x, len, _, rfl, fun k hk => ?_, hb⟩
    obtain ⟨a, b, ho, h1⟩ := each k hk
    obtain ⟨_, _, hc⟩ := World.cells?_some h1
    have hsp : x.spot = none := by
      obtain ⟨_, _, _, h10⟩ := each 0 (by omega)
      obtain ⟨_, _, hc0⟩ := World.cells?_some h10
      have := hc0 0 (by omega)
      simp [Addr.add] at this
      exact cell_spot this
    obtain ⟨xb, xo, xs⟩ := x
    cases hsp
    have e := fun (j : Nat) (hj : j < 2) => (congrArg W.cell? (show (⟨xb, xo + k * 2 + j, none⟩ : Addr) = ((⟨xb, xo, none⟩ : Addr).add (k * 2)).add j by rw [addr_add, addr_add])).trans (hc j hj)
    exact ⟨xb, xo, rfl, a, b, ho, e 0 (by omega), e 1 (by omega)⟩
end

set_option maxRecDepth 100000 in
theorem apart_lifted (os : Os) (started : os.Started) (H : Type) (enc : TypeId × Value → H) :
    ReturnsInHanded {} Try.checked os 4 .any (Rows.roomApartSpec.pre6 enc Try.prog Try.f4 Rows.roomApartRow.domain false) (Rows.roomApartSpec.post enc Try.prog Try.f4 false true false false) := by
  refine returnsInHanded_of_change_sized (C := Try.checked) own started (by kernel_rfl) Try.func4
    (ChangeSpec.witness6 (enc := enc) (C := Try.checked) false ⟨#[], #[.int .u64 0, .int .u64 0, .slice none 0 0], []⟩ 8 (by kernel_rfl) (by kernel_rfl) (by kernel_rfl) (by kernel_rfl)) ?_
  intro W base args ds gs before hval0 hW hcnd hsz0 _
  have hval : ∀ (j : Nat) t v, Try.f4.params[j]? = some t → args[j]? = some v → Value.okWide Try.prog W .any base t v := hval0
  have hsz : (DataW.weightsEach Try.prog (Try.f4.params.toList ++ Rows.roomApartSpec.plain.varTypes Try.prog) (ds ++ gs)).all (· ≤ reachBytes) = true := hsz0
  have hW' := hW
  obtain ⟨p, q, hA0, hV, rfl, hfz, hnd⟩ := hW
  have hA : DataW.TrodAll enc Try.prog W 0 (fun _ => true) true Try.f4.params.toList args.toList ds p := hA0
  rw [Try.params4] at hA hval hsz
  obtain ⟨v0, vs0, d0, ds0, p0, q0, hargs, rfl, rfl, h0, r0⟩ := trodAll_cons hA
  obtain ⟨v1, vs1, d1, ds1, p1, q1, rfl, rfl, rfl, h1, r1⟩ := trodAll_cons r0
  obtain ⟨v2, vs2, d2, ds2, p2, q2, rfl, rfl, rfl, h2, r2⟩ := trodAll_cons r1
  obtain ⟨rfl, rfl, rfl⟩ := trodAll_nil r2
  obtain rfl : args = #[v0, v1, v2] := by cases args; simp_all
  obtain ⟨rfl, rfl⟩ := trodVars_none hV
  have lt0 : ∀ x ∈ p0, x.block < W.heap.size := by obtain ⟨m, hm⟩ := h0; exact DataW.trod_lt m _ _ _ hm
  have lt1 : ∀ x ∈ p1, x.block < W.heap.size := by obtain ⟨m, hm⟩ := h1; exact DataW.trod_lt m _ _ _ hm
  have lt2 : ∀ x ∈ p2, x.block < W.heap.size := by obtain ⟨m, hm⟩ := h2; exact DataW.trod_lt m _ _ _ hm
  have hwt2 : ∀ N ∈ d2.weights Try.prog 37, N ≤ reachBytes := fun N hN => by
    have := List.all_eq_true.1 hsz _ (DataW.weights_mem_each (j := 2) (t := 37) (d := d2) rfl rfl N hN)
    simpa using this
  have ho0 := open_int Try.underlying31 (hval 0 31 v0 rfl rfl) h0
  obtain ⟨x0, rfl, _, _, w0⟩ := ho0
  have ho1 := open_int Try.underlying31 (hval 1 31 v1 rfl rfl) h1
  obtain ⟨x1, rfl, _, _, w1⟩ := ho1
  obtain ⟨a, n, c, rfl, ho, hnb⟩ := open_pieces (hval 2 37 v2 rfl rfl) h2 hwt2
  clear hA0 hval0
  refine (apart_walk x0 x1 (wf_u64 w0) (wf_u64 w1) a n c W ho hnb).mono fun e W' ⟨he, hk⟩ => ?_
  have bel : Below W.heap.size W W' := hk.below _ (Nat.le_refl _) (fun _ f => f.elim)
  subst he
  exact ⟨_, rfl, _, _, _, [], _, [], hW', trodAll_mk1 (shut_bool Try.underlying4 _),
    trodAll_cons_mk (Below.trod laidOut (by kernel_rfl) (of_decide_eq_true (by kernel_rfl)) h0 bel lt0) (trodAll_cons_mk (Below.trod laidOut (by kernel_rfl) (of_decide_eq_true (by kernel_rfl)) h1 bel lt1) (trodAll_cons_mk (Below.trod laidOut (by kernel_rfl) (of_decide_eq_true (by kernel_rfl)) h2 bel lt2) trodAll_mk0)),
    rfl, bel.frame _, fun h => by cases h⟩

theorem roomApart_holds : Rows.RoomApartSaid :=
  OpenClaim.holds_of_wide 4 Try.f4 rfl rfl rfl rfl rfl rfl rfl ⟨rfl, rfl, rfl, rfl, rfl⟩ rfl rfl rfl rfl rfl (by kernel_rfl) Try.func4 (by kernel_rfl)
    (of_decide_eq_true (by kernel_rfl)) (by unfold Func.isWrapper; first | (rw [if_pos (by decide +kernel)]; kernel_rfl) | (rw [if_neg (by decide +kernel)]; exact ⟨rfl, rfl⟩))
    (fun os started H enc _ => apart_lifted os started H enc)

end Go.Proofs.Ythelfalmjihkdaa
