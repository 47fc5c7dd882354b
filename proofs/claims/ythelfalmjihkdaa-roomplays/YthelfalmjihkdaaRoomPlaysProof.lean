
/-
  The law RoomPlays returns true for every slice of words and every slice of calls, and leaves all that was there as it was: no condition.
-/
import Derived.Test.YthelfalmjihkdaaRows
import Derived.Test.YthelfalmjihkdaaRmP
import Derived.ProofKit
import Derived.OpenShut
import Derived.SizedLaws
import Derived.Deep.Grids
namespace Go.Proofs.Ythelfalmjihkdaa
open Go.ChangeShapes Go.WideShapes Go.ChangeAt Go.RowKit

theorem laidOut : laidOutB Try.prog = true := by kernel_rfl
theorem own : ownKnob Try.prog.godebug = none := by kernel_rfl
theorem cellsWord : Try.prog.cellsOf 31 = 1 := by kernel_rfl
theorem bytesWord : Try.prog.bytesOf 31 = 8 := by kernel_rfl
theorem cellsInt : Try.prog.cellsOf 3 = 1 := by kernel_rfl
theorem cellsOp : Try.prog.cellsOf 33 = 4 := by kernel_rfl
theorem bytesOp : Try.prog.bytesOf 33 = 32 := by kernel_rfl
theorem wf_u64 {n : Int} (h : (Lit.int .u64 n).wf = true) : isW n := by
  have h : 0 ≤ n ∧ n ≤ 18446744073709551615 := by simpa [Lit.wf, IntKind.min, IntKind.max, IntKind.signed, IntKind.bits] using h
  exact ⟨h.1, by omega⟩
theorem cell_spot {w : World} {a : Addr} {v : Value} (h : w.cell? a = some v) : a.spot = none := by
  unfold World.cell? at h
  split at h
  · cases hs : a.spot with
    | none => rfl
    | some _ => simp [hs] at h
  · simp at h

section
variable {H : Type} {enc : TypeId × Value → H} {W : World}
/-- A slice of words that came in. -/
theorem open_words {v : Value} {d : DataW H} {ps : List MemPlace} {base : Nat} (hok : Value.okWide Try.prog W .any base 22 v) (h : DataW.Trod enc Try.prog W 0 (fun _ => true) true 22 v d ps) (hwt : ∀ N ∈ d.weights Try.prog 22, N ≤ reachBytes) :
    ∃ ws, Lies W v ws ∧ (∀ x ∈ ws, isW x) ∧ ws.length * 8 ≤ 140737488351232 := by
  obtain ⟨a, len, cap, rfl⟩ := okWide_slice Try.underlying22 hok
  obtain ⟨fuel, hf⟩ := h
  rcases open_ints Try.underlying22 Try.underlying31 cellsWord hf with ⟨hcs, hx⟩ | ⟨x, l, c, zs, hcs, _, hl, hm, hz, hx, hcell, hwz⟩
  · simp [Value.cells] at hcs
    obtain ⟨rfl, rfl, rfl⟩ := hcs
    exact ⟨[], ⟨none, 0, rfl, fun i h => absurd h (by simp)⟩, fun x hx => by simp at hx, by simp⟩
  · simp [Value.cells] at hcs
    obtain ⟨rfl, rfl, rfl⟩ := hcs
    simp at hz
    have hlen : (zs.take len).length = len := by simp; omega
    have hb : len * 8 ≤ 140737488351232 := by
      rw [(Prod.mk.inj hx).1] at hwt
      have := hwt _ (by
        simp only [DataW.weights, Try.underlying22]
        exact List.mem_cons_self)
      rw [bytesWord] at this
      simp only [reachBytes, lits, List.length_map, List.length_take, List.length_drop] at this
      omega
    refine ⟨zs.take len, ⟨some x, cap, by rw [hlen], fun i hi => ?_⟩, fun n hn => wf_u64 (hwz n (List.mem_of_mem_take hn)), by rw [hlen]; exact hb⟩
    have hi' : i < len := by simp at hi; omega
    obtain ⟨b, o, s⟩ := x
    have hc := hcell i (by omega)
    have hs : s = none := by
      have := cell_spot (hcell 0 (by omega))
      simpa [Addr.add] using this
    subst hs
    rw [addr_add] at hc
    refine ⟨b, o, rfl, ?_⟩
    rw [hc]
    simp [oat, List.getElem?_take_of_lt hi', List.getD_eq_getElem?_getD]

set_option maxRecDepth 100000 in
/-- One call. -/
theorem open_op {fuel : Nat} {cs : List Value} {d : DataW H} {ps : List MemPlace} (h : DataW.trod enc Try.prog W 0 (fun _ => true) true fuel 33 cs = some (d, ps)) (hlen : cs.length = 4) :
    ∃ kd x y z, cs = [.int .i64 kd, .int .u64 x, .int .u64 y, .int .u64 z] ∧ isW x ∧ isW y ∧ isW z := by
  obtain ⟨xs, k, hk, hxy, _, hxl, hf⟩ := DataW.trod_struct Try.underlying33 h
  match xs, hxl, cs, hlen with
  | [y0, y1, y2, y3], _, [v0, v1, v2, v3], _ =>
    have g0 := hf 0 _ rfl
    have g1 := hf 1 _ rfl
    have g2 := hf 2 _ rfl
    have g3 := hf 3 _ rfl
    simp [cellsInt, cellsWord] at g0 g1 g2 g3
    obtain ⟨n0, e0, _, _⟩ := DataW.trod_int Try.underlying3 g0
    obtain ⟨n1, e1, _, b1⟩ := DataW.trod_int Try.underlying31 g1
    obtain ⟨n2, e2, _, b2⟩ := DataW.trod_int Try.underlying31 g2
    obtain ⟨n3, e3, _, b3⟩ := DataW.trod_int Try.underlying31 g3
    simp at e0 e1 e2 e3
    subst e0 e1 e2 e3
    exact ⟨n0, n1, n2, n3, rfl, wf_u64 b1, wf_u64 b2, wf_u64 b3⟩

set_option maxRecDepth 100000 in
/-- The script. -/
theorem open_ops {v : Value} {d : DataW H} {ps : List MemPlace} {base : Nat} (hok : Value.okWide Try.prog W .any base 23 v) (h : DataW.Trod enc Try.prog W 0 (fun _ => true) true 23 v d ps) (hwt : ∀ N ∈ d.weights Try.prog 23, N ≤ reachBytes) :
    ∃ a n c, v = .slice a n c ∧ OpsAt W a n ∧ n * 32 ≤ 140737488351232 := by
  obtain ⟨a, len, cap, rfl⟩ := okWide_slice Try.underlying23 hok
  obtain ⟨fuel, hf⟩ := h
  rcases Deep.open_slice Try.underlying23 hf with ⟨hcs, hx⟩ | ⟨x, l, c, m, n, D, Pl, hcs, _, hl, hm, hmm, hx, hcell⟩
  · simp [Value.cells] at hcs
    obtain ⟨rfl, rfl, rfl⟩ := hcs
    exact ⟨none, 0, 0, rfl, fun k hk => absurd hk (by simp), by omega⟩
  · simp [Value.cells] at hcs
    obtain ⟨rfl, rfl, rfl⟩ := hcs
    simp at hmm
    subst hmm
    have hd := (Prod.mk.inj hx).1
    have hb : len * 32 ≤ 140737488351232 := by
      have := hwt ((len + (m - len)) * Try.prog.bytesOf 33) (by
        rw [hd]
        simp [DataW.weights, Try.underlying23])
      rw [bytesOp] at this
      simp only [reachBytes] at this
      omega
    have each : ∀ i, i < len → ∃ kd a b c, (isW a ∧ isW b ∧ isW c) ∧ W.cells? 0 (x.add (i * 4)) 4 = some [.int .i64 kd, .int .u64 a, .int .u64 b, .int .u64 c] := fun i hi => by
      obtain ⟨cs', h1, h2⟩ := hcell i (by omega)
      rw [cellsOp] at h1
      obtain ⟨_, hlen, _⟩ := World.cells?_some h1
      obtain ⟨kd, a, b, c, rfl, ho⟩ := open_op h2 hlen
      exact ⟨kd, a, b, c, ho, h1⟩
    refine ⟨some x, len, _, rfl, fun k hk => ?_, hb⟩
    obtain ⟨kd, a, b, c, ho, h1⟩ := each k hk
    obtain ⟨_, _, hc⟩ := World.cells?_some h1
    have hsp : x.spot = none := by
      obtain ⟨_, _, _, _, _, h10⟩ := each 0 (by omega)
      obtain ⟨_, _, hc0⟩ := World.cells?_some h10
      have := hc0 0 (by omega)
      simp [Addr.add] at this
      exact cell_spot this
    obtain ⟨xb, xo, xs⟩ := x
    cases hsp
    have e := fun (j : Nat) (hj : j < 4) => (congrArg W.cell? (show (⟨xb, xo + k * 4 + j, none⟩ : Addr) = ((⟨xb, xo, none⟩ : Addr).add (k * 4)).add j by rw [addr_add, addr_add])).trans (hc j hj)
    exact ⟨xb, xo, rfl, kd, a, b, c, ho.1, ho.2.1, ho.2.2, e 0 (by omega), e 1 (by omega), e 2 (by omega), e 3 (by omega)⟩
end

set_option maxRecDepth 100000 in
theorem plays_lifted (os : Os) (started : os.Started) (H : Type) (enc : TypeId × Value → H) :
    ReturnsInHanded {} Try.checked os 3 .any (Rows.roomPlaysSpec.pre6 enc Try.prog Try.f3 Rows.roomPlaysRow.domain false) (Rows.roomPlaysSpec.post enc Try.prog Try.f3 false true false false) := by
  refine returnsInHanded_of_change_sized (C := Try.checked) own started (by kernel_rfl) Try.func3
    (ChangeSpec.witness6 (enc := enc) (C := Try.checked) false ⟨#[], #[.slice none 0 0, .slice none 0 0], []⟩ 8 (by kernel_rfl) (by kernel_rfl) (by kernel_rfl) (by kernel_rfl)) ?_
  intro W base args ds gs before hval0 hW hcnd hsz0 _
  have hval : ∀ (j : Nat) t v, Try.f3.params[j]? = some t → args[j]? = some v → Value.okWide Try.prog W .any base t v := hval0
  have hsz : (DataW.weightsEach Try.prog (Try.f3.params.toList ++ Rows.roomPlaysSpec.plain.varTypes Try.prog) (ds ++ gs)).all (· ≤ reachBytes) = true := hsz0
  have hW' := hW
  obtain ⟨p, q, hA0, hV, rfl, hfz, hnd⟩ := hW
  have hA : DataW.TrodAll enc Try.prog W 0 (fun _ => true) true Try.f3.params.toList args.toList ds p := hA0
  rw [Try.params3] at hA hval hsz
  obtain ⟨v0, vs0, d0, ds0, p0, q0, hargs, rfl, rfl, h0, r0⟩ := trodAll_cons hA
  obtain ⟨v1, vs1, d1, ds1, p1, q1, rfl, rfl, rfl, h1, r1⟩ := trodAll_cons r0
  obtain ⟨rfl, rfl, rfl⟩ := trodAll_nil r1
  obtain rfl : args = #[v0, v1] := by cases args; simp_all
  obtain ⟨rfl, rfl⟩ := trodVars_none hV
  have lt0 : ∀ x ∈ p0, x.block < W.heap.size := by obtain ⟨m, hm⟩ := h0; exact DataW.trod_lt m _ _ _ hm
  have lt1 : ∀ x ∈ p1, x.block < W.heap.size := by obtain ⟨m, hm⟩ := h1; exact DataW.trod_lt m _ _ _ hm
  have hwt0 : ∀ N ∈ d0.weights Try.prog 22, N ≤ reachBytes := fun N hN => by
    have := List.all_eq_true.1 hsz _ (DataW.weights_mem_each (j := 0) (t := 22) (d := d0) rfl rfl N hN)
    simpa using this
  have hwt1 : ∀ N ∈ d1.weights Try.prog 23, N ≤ reachBytes := fun N hN => by
    have := List.all_eq_true.1 hsz _ (DataW.weights_mem_each (j := 1) (t := 23) (d := d1) rfl rfl N hN)
    simpa using this
  obtain ⟨ws, hl, hw, hwb⟩ := open_words (hval 0 22 v0 rfl rfl) h0 hwt0
  obtain ⟨a, n, c, rfl, ho, hnb⟩ := open_ops (hval 1 23 v1 rfl rfl) h1 hwt1
  clear hA0 hval0
  refine (plays_walk v0 ws hw a n c W hl hwb ho hnb).mono fun e W' ⟨he, hk⟩ => ?_
  have bel : Below W.heap.size W W' := hk.below _ (Nat.le_refl _) (fun _ f => f.elim)
  subst he
  exact ⟨_, rfl, _, _, _, [], _, [], hW', trodAll_mk1 (shut_bool Try.underlying4 _),
    trodAll_cons_mk (Below.trod laidOut (by kernel_rfl) (of_decide_eq_true (by kernel_rfl)) h0 bel lt0) (trodAll_cons_mk (Below.trod laidOut (by kernel_rfl) (of_decide_eq_true (by kernel_rfl)) h1 bel lt1) trodAll_mk0),
    rfl, bel.frame _, fun h => by cases h⟩

theorem roomPlays_holds : Rows.RoomPlaysSaid :=
  OpenClaim.holds_of_wide 3 Try.f3 rfl rfl rfl rfl rfl rfl rfl ⟨rfl, rfl, rfl, rfl, rfl⟩ rfl rfl rfl rfl rfl (by kernel_rfl) Try.func3 (by kernel_rfl)
    (of_decide_eq_true (by kernel_rfl)) (by unfold Func.isWrapper; first | (rw [if_pos (by decide +kernel)]; kernel_rfl) | (rw [if_neg (by decide +kernel)]; exact ⟨rfl, rfl⟩))
    (fun os started H enc _ => plays_lifted os started H enc)

end Go.Proofs.Ythelfalmjihkdaa
