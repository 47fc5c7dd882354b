/-
  How the script of the law CellsPlays reads: a slice of steps. No statement of the seat is proved here.
-/
import Derived.Test.YtmffkcbdgpaieaaOpen
import Derived.Test.YtmffkcbdgpaieaaPlayL
namespace Go.Proofs.Ytmffkcbdgpaieaa
open Go.ChangeShapes Go.WideShapes Go.ChangeAt Go.RowKit

theorem cells40 : Try.prog.cellsOf 40 = 9 := by kernel_rfl
theorem cells22 : Try.prog.cellsOf 22 = 1 := by kernel_rfl
theorem cells3 : Try.prog.cellsOf 3 = 1 := by kernel_rfl
theorem bytes40 : Try.prog.bytesOf 40 = 88 := by kernel_rfl

section
variable {H : Type} {enc : TypeId × Value → H} {W : World}

theorem open_words_cells {fuel : Nat} {v : Value} {x : DataW H × List MemPlace} (hf : DataW.trod enc Try.prog W 0 (fun _ => true) true fuel 22 [v] = some x) :
    ∃ sp l c ws, v = .slice sp l c ∧ ws.length = l ∧ Reads W sp ws ∧ (sp = none → c = 0) ∧ Wf ws ∧ ((x.1 = .nil ∧ l = 0) ∨ ∃ elems spare, x.1 = .slice elems spare ∧ elems.length = l) := by
  rcases open_ints Try.underlying22 Try.underlying36 cells36 hf with ⟨hcs, hx⟩ | ⟨a, l, c, zs, hcs, _, hl, hm, hz, hx, hcell, hwz⟩
  · simp at hcs
    subst hcs
    exact ⟨none, 0, 0, [], rfl, rfl, Reads.nil _ _, fun _ => rfl, fun x hx => by simp at hx, .inl ⟨by rw [hx], rfl⟩⟩
  · simp at hcs
    subst hcs
    simp at hz
    refine ⟨some a, l, c, zs.take l, rfl, by simp; omega, fun i hi => ⟨a, rfl, ?_⟩, fun e => (by cases e), fun n hn => wf_u64 (hwz n (List.mem_of_mem_take hn)), .inr ⟨_, _, by rw [hx], by simp [lits]; omega⟩⟩
    have hi' : i < l := by simp at hi; omega
    rw [hcell i (by omega), List.getElem?_take_of_lt hi', List.getD_eq_getElem?_getD]

theorem weights_mem_all {P : Program} {e : TypeId} : ∀ {ds : List (DataW H)} {d : DataW H}, d ∈ ds → ∀ n ∈ d.weights P e, n ∈ DataW.weightsAll P e ds
  | d0 :: ds, d, hd, n, hn => by
    simp only [DataW.weightsAll, List.mem_append]
    rcases List.mem_cons.1 hd with rfl | hd
    · exact .inl hn
    · exact .inr (weights_mem_all hd n hn)
  | [], d, hd, _, _ => by simp at hd

/-- One step. -/
theorem open_step {fuel : Nat} {cs : List Value} {d : DataW H} {ps : List MemPlace} (h : DataW.trod enc Try.prog W 0 (fun _ => true) true fuel 40 cs = some (d, ps)) (hlen : cs.length = 9) (hwt : ∀ N ∈ d.weights Try.prog 40, N ≤ reachBytes) :
    ∃ s : StepD, cs = [.int .i64 s.kd, .int .i64 s.who, .int .i64 s.to, .int .i64 s.lv, .int .u64 s.ad, .int .u64 s.wd, .int .u64 s.od, .int .u64 s.bh, .slice s.sp s.l s.sc] ∧ s.Good W := by
  obtain ⟨xs, k, hk, hxy, _, hxl, hf⟩ := DataW.trod_struct Try.underlying40 h
  match xs, hxl, cs, hlen with
  | [y0, y1, y2, y3, y4, y5, y6, y7, y8], _, [v0, v1, v2, v3, v4, v5, v6, v7, v8], _ =>
    have g0 := hf 0 _ rfl
    have g1 := hf 1 _ rfl
    have g2 := hf 2 _ rfl
    have g3 := hf 3 _ rfl
    have g4 := hf 4 _ rfl
    have g5 := hf 5 _ rfl
    have g6 := hf 6 _ rfl
    have g7 := hf 7 _ rfl
    have g8 := hf 8 _ rfl
    simp [cells3, cells36, cells22] at g0 g1 g2 g3 g4 g5 g6 g7 g8
    obtain ⟨n0, e0, _, _⟩ := DataW.trod_int Try.underlying3 g0
    obtain ⟨n1, e1, _, _⟩ := DataW.trod_int Try.underlying3 g1
    obtain ⟨n2, e2, _, _⟩ := DataW.trod_int Try.underlying3 g2
    obtain ⟨n3, e3, _, _⟩ := DataW.trod_int Try.underlying3 g3
    obtain ⟨n4, e4, _, b4⟩ := DataW.trod_int Try.underlying36 g4
    obtain ⟨n5, e5, _, b5⟩ := DataW.trod_int Try.underlying36 g5
    obtain ⟨n6, e6, _, b6⟩ := DataW.trod_int Try.underlying36 g6
    obtain ⟨n7, e7, _, b7⟩ := DataW.trod_int Try.underlying36 g7
    obtain ⟨sp, l, c, us, e8, hn, hr, h0, hwf, hd⟩ := open_words_cells g8
    simp at e0 e1 e2 e3 e4 e5 e6 e7
    subst e0 e1 e2 e3 e4 e5 e6 e7 e8
    have w4 := wf_u64 b4
    have w5 := wf_u64 b5
    refine ⟨⟨n0, n1, n2, n3, n4, n5, n6, n7, sp, l, c, us⟩, rfl, w4.1, w4.2, w5.1, w5.2, hn, hr, h0, ?_, hwf⟩
    show l * 8 ≤ 140737488351232
    rcases hd with ⟨_, rfl⟩ | ⟨elems, spare, he, hl⟩
    · omega
    · simp only [Prod.mk.injEq] at hxy
      have hN : (elems.length + spare.length) * Try.prog.bytesOf 36 ∈ d.weights Try.prog 40 := by
        rw [hxy.1]
        simp only [DataW.weights, Try.underlying40]
        refine DataW.weights_mem_each (j := 8) (t := 22) (d := .slice elems spare) rfl (by simp [he]) _ ?_
        simp [DataW.weights, Try.underlying22]
      have := hwt _ hN
      rw [bytes36] at this
      simp only [reachBytes] at this
      omega

/-- The script. -/
theorem open_steps {v : Value} {d : DataW H} {ps : List MemPlace} {base : Nat} (hok : Value.okWide Try.prog W .any base 23 v) (h : DataW.Trod enc Try.prog W 0 (fun _ => true) true 23 v d ps) (hwt : ∀ N ∈ d.weights Try.prog 23, N ≤ reachBytes) :
    ∃ sq m c ss, v = .slice sq m c ∧ ss.length = m ∧ Steps W sq ss ∧ m * 88 ≤ 140737488351232 := by
  obtain ⟨a, len, cap, rfl⟩ := okWide_slice Try.underlying23 hok
  obtain ⟨fuel, hf⟩ := h
  rcases Deep.open_slice Try.underlying23 hf with ⟨hcs, hx⟩ | ⟨x, l, c, m, n, D, Pl, hcs, _, hl, hm, hmm, hx, hcell⟩
  · simp [Value.cells] at hcs
    obtain ⟨rfl, rfl, rfl⟩ := hcs
    exact ⟨none, 0, 0, [], rfl, rfl, ⟨fun s hs => by simp at hs, fun i s hs => by simp at hs⟩, by omega⟩
  · simp [Value.cells] at hcs
    obtain ⟨rfl, rfl, rfl⟩ := hcs
    simp at hmm
    subst hmm
    have hd := (Prod.mk.inj hx).1
    have hb : len * 88 ≤ 140737488351232 := by
      have := hwt ((len + (m - len)) * Try.prog.bytesOf 40) (by
        rw [hd]
        simp [DataW.weights, Try.underlying23])
      rw [bytes40] at this
      simp only [reachBytes] at this
      omega
    have each : ∀ i, i < len → ∃ s : StepD, s.Good W ∧ W.cells? 0 (x.add (i * 9)) 9 = some [.int .i64 s.kd, .int .i64 s.who, .int .i64 s.to, .int .i64 s.lv, .int .u64 s.ad, .int .u64 s.wd, .int .u64 s.od, .int .u64 s.bh, .slice s.sp s.l s.sc] := fun i hi => by
      obtain ⟨cs', h1, h2⟩ := hcell i (by omega)
      rw [cells40] at h1
      obtain ⟨_, hlen, _⟩ := World.cells?_some h1
      obtain ⟨s, rfl, hs⟩ := open_step h2 hlen (fun N hN => hwt N (by
        rw [hd]
        simp only [DataW.weights, Try.underlying23, List.mem_cons, List.mem_append]
        exact .inr (.inl (weights_mem_all (List.mem_map.2 ⟨i, List.mem_range.2 hi, rfl⟩) N hN))))
      exact ⟨s, hs, h1⟩
    have hin : Inhabited StepD := ⟨⟨0, 0, 0, 0, 0, 0, 0, 0, none, 0, 0, []⟩⟩
    obtain ⟨q, hq⟩ := Deep.choose_lt each
    refine ⟨some x, len, _, (List.range len).map q, rfl, by simp, ⟨fun s hs => ?_, fun i s hs => ?_⟩, hb⟩
    · obtain ⟨i, hi, rfl⟩ := List.mem_map.1 hs
      exact (hq i (List.mem_range.1 hi)).1
    · have hi : i < len := by
        have := (List.getElem?_eq_some_iff.1 hs).1
        simpa using this
      have hs' : q i = s := by
        rw [List.getElem?_map, List.getElem?_range hi] at hs
        simpa using hs
      subst hs'
      obtain ⟨_, _, hc⟩ := World.cells?_some (hq i hi).2
      have hsp : x.spot = none := by
        obtain ⟨_, _, hc0⟩ := World.cells?_some (hq 0 (by omega)).2
        have := hc0 0 (by omega)
        simp [Addr.add] at this
        exact cell_spot this
      obtain ⟨xb, xo, xs⟩ := x
      cases hsp
      refine ⟨xb, xo, rfl, ?_⟩
      have e := fun (j : Nat) (hj : j < 9) => (congrArg W.cell? (show (⟨xb, xo + i * 9 + j, none⟩ : Addr) = ((⟨xb, xo, none⟩ : Addr).add (i * 9)).add j by rw [addr_add, addr_add])).trans (hc j hj)
      exact ⟨e 0 (by omega), e 1 (by omega), e 2 (by omega), e 3 (by omega), e 4 (by omega), e 5 (by omega), e 6 (by omega), e 7 (by omega), e 8 (by omega)⟩
end

end Go.Proofs.Ytmffkcbdgpaieaa
