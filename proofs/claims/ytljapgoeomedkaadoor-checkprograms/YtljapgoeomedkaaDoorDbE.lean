
/- The law CheckScripts. No statement of the seat is proved here. -/
import Derived.Test.YtljapgoeomedkaaDoorDbD
namespace Go.Proofs.YtljapgoeomedkaaDoor
open Go.RowKit Go.Shelf

theorem wp_held_end {P : Program} {ops : Array Oper} {Q : Exit → Act → World → Prop} {id : Nat} {a : Act} {w : World} {S : World → Prop} (N : Nat) (hN : ops.size = N) (hm : P.follows .mixedOrders = true)
    (h : wpAnyH P .any ops (atEnd (Q .normal)) S N (Array.replicate N false) a w.drew) : (Code.region id ops true).wp P Q a w := by
  subst hN
  exact Code.wp_mono (fun e a w h => by cases e <;> first | exact h | exact h.elim) (wp_region_held hm h)
theorem cell_keeps2 {w w' : World} (k : Keeps (fun _ => False) w w') {g o : Nat} {v : Value} (h : w.cell? ⟨g, o, none⟩ = some v) : w'.cell? ⟨g, o, none⟩ = some v := by
  rw [← h]
  simp [World.cell?, k.block g (World.block_lt_of_cell? _ _ h) (fun f => f)]
theorem info_sl : (Tryd.prog.info? 22).map (fun i => (i.zero, i.size, i.bytes)) = some (some (.slice none 0 0), 1, 24) := by kernel_rfl
/-- Copies so far, in a row of the call's own. -/
def copV (Ps : List (List I5)) (G : Nat → Nat × Nat) (k : Nat) : List Value := (List.range k).map fun j => .slice (some ⟨(G j).1, 0, none⟩) (pAt Ps j).length (G j).2
structure Cop (w : World) (base : Nat) (v : Value) (Ps : List (List I5)) (G : Nat → Nat × Nat) (k : Nat) : Prop where
  own : w.ownsRow base 22 1 v k (copV Ps G k)
  base : base ≤ w.heap.size
  each : ∀ j, j < k → InsB w (G j).1 (pAt Ps j ++ [i7]) ∧ (pAt Ps j).length + 1 ≤ (G j).2 ∧ v.ownBlock ≠ some (G j).1
theorem Cop.nil (w : World) (Ps : List (List I5)) (G : Nat → Nat × Nat) : Cop w w.heap.size (.slice none 0 0) Ps G 0 := ⟨⟨rfl, .inl ⟨rfl, rfl⟩⟩, Nat.le_refl _, fun j hj => by omega⟩
theorem Cop.keeps {w w' : World} {base : Nat} {v : Value} {Ps : List (List I5)} {G : Nat → Nat × Nat} {k : Nat} (h : Cop w base v Ps G k) (kk : Keeps (fun _ => False) w w') : Cop w' base v Ps G k :=
  ⟨own_keeps h.own kk (fun _ _ f => f), Nat.le_trans h.base kk.size, fun j hj => ⟨(h.each j hj).1.keeps kk (fun f => f), (h.each j hj).2⟩⟩
theorem Cop.form {w : World} {base : Nat} {v : Value} {Ps : List (List I5)} {G : Nat → Nat × Nat} {k : Nat} (h : Cop w base v Ps G k) : ∃ b c, v = .slice b k c := by
  rcases h.own.2 with ⟨rfl, h2⟩ | ⟨g, cap, cur, rfl, _⟩
  · exact ⟨none, 0, by rw [h2]⟩
  · exact ⟨_, cap, rfl⟩
theorem Cop.push {w : World} {base : Nat} {v : Value} {Ps : List (List I5)} {G : Nat → Nat × Nat} {k : Nat} (h : Cop w base v Ps G k) {g cap : Nat} (hB : InsB w g (pAt Ps k ++ [i7])) (hc : (pAt Ps k).length + 1 ≤ cap) (hg : v.ownBlock ≠ some g) (hb : (k + 1) * 24 ≤ 140737488355328) :
    ∃ v' w', (Builtin.append_ #[60, 60] 60 #[v, .slice (some ⟨w.heap.size, 0, none⟩) 1 1]).run Tryd.prog (w.alloc (.cells #[.slice (some ⟨g, 0, none⟩) (pAt Ps k).length cap] 22)) = .ok v' w' ∧ Cop w' base v' Ps (fun j => if j = k then (g, cap) else G j) (k + 1) ∧ Grew w w' v v' := by
  have k0 := (Keeps.refl (fun _ => False) w).alloc (.cells #[.slice (some ⟨g, 0, none⟩) (pAt Ps k).length cap] 22)
  have h0 := h.keeps k0
  obtain ⟨v', w', h1, h2, h3, h4⟩ := own_push (P := Tryd.prog) (w.alloc (.cells #[.slice (some ⟨g, 0, none⟩) (pAt Ps k).length cap] 22)) base 60 60 22 _ 1 24 Tryd.underlying60 info_sl rfl (by decide) v k _ h0.own ⟨w.heap.size, 0, none⟩ 1 1 [.slice (some ⟨g, 0, none⟩) (pAt Ps k).length cap] rfl (fun j u hj => by
    match j with
    | 0 => simp at hj; subst hj; rw [addr_add, cell_of_block (heap_alloc_new _ _)]; rfl
    | j + 1 => simp at hj) (by simp [Value.oneCell']) hb (by decide) h0.base
  have hG : Grew w w' v v' := Grew.ahead k0 ⟨(Keeps.refl _ _).grown h3 fun k hk => .inr hk, h4⟩
  have hne : ∀ q, q < w.heap.size → v.ownBlock ≠ some q → v'.ownBlock ≠ some q := fun q hq hv e => by
    rcases hG.own with ho | ho
    · exact hv (ho ▸ e)
    · have := ho q e; omega
  refine ⟨v', w', h1, ⟨?_, Nat.le_trans h.base hG.keeps.size, fun j hj => ?_⟩, hG⟩
  · have e : copV Ps (fun j => if j = k then (g, cap) else G j) (k + 1) = copV Ps G k ++ [.slice (some ⟨g, 0, none⟩) (pAt Ps k).length cap] := by
      have e1 : (List.range k).map (fun j => (Value.slice (some ⟨(if j = k then (g, cap) else G j).1, 0, none⟩) (pAt Ps j).length (if j = k then (g, cap) else G j).2)) = copV Ps G k := List.map_congr_left fun j hj => by
        have : j ≠ k := by have := List.mem_range.1 hj; omega
        simp only [if_neg this]
      have e2 : copV Ps (fun j => if j = k then (g, cap) else G j) (k + 1) = (List.range (k + 1)).map (fun j => (Value.slice (some ⟨(if j = k then (g, cap) else G j).1, 0, none⟩) (pAt Ps j).length (if j = k then (g, cap) else G j).2)) := rfl
      rw [e2, List.range_succ, List.map_append, e1]
      simp
    rw [e]; exact h2
  · by_cases hjk : j = k
    · subst hjk
      simp only [if_true]
      exact ⟨hB.keeps hG.keeps hg, hc, hne _ hB.lt hg⟩
    · simp only [if_neg hjk]
      obtain ⟨q1, q2, q3⟩ := h.each j (by omega)
      exact ⟨q1.keeps hG.keeps q3, q2, hne _ q1.lt q3⟩
theorem Cop.at {w : World} {base : Nat} {b : Option Addr} {c : Nat} {Ps : List (List I5)} {G : Nat → Nat × Nat} {k : Nat} (h : Cop w base (.slice b k c) Ps G k) (j : Nat) (hj : j < k) : ∃ g, b = some ⟨g, 0, none⟩ ∧ w.cell? ⟨g, j, none⟩ = some (.slice (some ⟨(G j).1, 0, none⟩) (pAt Ps j).length (G j).2) := by
  rcases h.own.2 with ⟨_, h2⟩ | ⟨g, cap, cur, hv, h1, h2, h3, h4, h5, h6⟩
  · omega
  · cases hv
    refine ⟨g, rfl, ?_⟩
    rw [cell_of_block h2]
    have e : (cur.toList.take (k * 1))[j]? = (copV Ps G k)[j]? := by rw [h6]
    rw [List.getElem?_take_of_lt (by omega)] at e
    simpa [copV, hj] using e
theorem Cop.pgs {w : World} {base : Nat} {v : Value} {Ps : List (List I5)} {G : Nat → Nat × Nat} (h : Cop w base v Ps G Ps.length) (hwf : ∀ p ∈ Ps, (∀ i ∈ p, i.wf) ∧ (p.length + 1) * 40 ≤ 140737488355328) : Pgs w v Ps := by
  obtain ⟨b, c, rfl⟩ := h.form
  refine ⟨b, c, rfl, fun j hj => ?_⟩
  obtain ⟨g, rfl, c0⟩ := h.at j hj
  obtain ⟨q1, q2, _⟩ := h.each j hj
  have e : pAt Ps j = Ps[j]'hj := by simp [pAt, hj]
  rw [e] at c0 q1
  obtain ⟨f1, f2⟩ := hwf _ (List.getElem_mem hj)
  have IB := (q1.take (Ps[j]).length).insAt (G j).2 (by simpa using f1) (by simp; omega)
  rw [List.take_left] at IB
  exact ⟨g, 0, _, _, rfl, by rw [Nat.zero_add]; exact c0, IB⟩

set_option maxRecDepth 100000 in
set_option maxHeartbeats 20000000 in
theorem scripts_law (c : Int) (a1 : Option Addr) (n1 c1 : Nat) (ap : Option Addr) (cp : Nat) (a3 : Option Addr) (n3 c3 : Nat) (Ps : List (List I5)) (hn : Ps.length * 24 ≤ 140737488351232) (hwf : ∀ p ∈ Ps, (∀ i ∈ p, i.wf) ∧ (p.length + 1) * 40 ≤ 140737488355328) (w : World) (h : Pgs w (.slice ap Ps.length cp) Ps) (hG : Gb w) :
    Calls Tryd.prog 5 #[.agg (scrA c a1 n1 c1 ap Ps.length cp a3 n3 c3)] w fun e w' => e = .returned (.bool true) ∧ Keeps (fun _ => False) w w' := by
  have S0 := heap_alloc_new w (.cells (scrA c a1 n1 c1 ap Ps.length cp a3 n3 c3) 63)
  have KA := (Keeps.refl (fun _ => False) w).alloc (.cells (scrA c a1 n1 c1 ap Ps.length cp a3 n3 c3) 63)
  have HI : Hid (∀ X, Keeps (fun _ => False) w X → Pgs X (.slice ap Ps.length cp) Ps ∧ Gb X) := fun X k => ⟨h.keeps k, hG.keeps k⟩
  have HW : Hid (∀ p ∈ Ps, (∀ i ∈ p, i.wf) ∧ (p.length + 1) * 40 ≤ 140737488355328) := hwf
  have hmx : Tryd.prog.follows Departure.mixedOrders = true := by kernel_rfl
  have C0 := Cop.nil (w.alloc (.cells (scrA c a1 n1 c1 ap Ps.length cp a3 n3 c3) 63)) Ps (fun _ => (0, 0))
  rw [show (w.alloc (.cells (scrA c a1 n1 c1 ap Ps.length cp a3 n3 c3) 63)).heap.size = w.heap.size + 1 by simp] at C0
  unfold scrA at S0 KA C0 ⊢
  clear h hG hwf
  go_enter Tryd.func5, Tryd.ntmps5
  go_wp2_with fail
  go_loopw [3, 4] (fun v m wr => ∃ (k : Nat) (G : Nat → Nat × Nat), m = .int .i64 k ∧ k ≤ Ps.length ∧ Hid (Keeps (fun _ => False) w wr ∧ wr.heap[w.heap.size]? = some (.cells #[.int .i64 c, .slice a1 n1 c1, .slice ap Ps.length cp, .slice a3 n3 c3] 63 (0, 0)) ∧ Cop wr (w.heap.size + 1) v Ps G k)) (fun _ m _ => Ps.length - (intOf m).toNat)
  case atStart => exact ⟨0, fun _ => (0, 0), rfl, Nat.zero_le _, ⟨KA, S0, C0⟩⟩
  case round =>
    clear KA S0 C0
    obtain ⟨k, G, rfl, hk, hh⟩ := hrel
    obtain ⟨hK, hS, hC⟩ := hh.out
    have s2 : wr.cell? ⟨w.heap.size, 2, none⟩ = some (.slice ap Ps.length cp) := by rw [cell_of_block hS]; rfl
    obtain ⟨vb, vc, rfl⟩ := hC.form
    by_cases hlt : k < Ps.length
    · have hki : (k : Int) < Ps.length := by omega
      obtain ⟨⟨av', cap', hv, hc⟩, -⟩ := HI.out wr hK
      cases hv
      obtain ⟨pg, po, pa, pc, rfl, c0, hins⟩ := hc k hlt
      have h5 : Ps[k]'hlt = pAt Ps k := by simp [pAt, hlt]
      have hw5 := (HW.out _ (List.getElem_mem hlt)).2
      rw [h5] at c0 hins hw5
      have LA := lent_any _ _ wr hins hw5
      generalize hln : (pAt Ps k).length = ln at *
      have HX : Hid (Keeps (fun _ => False) w wr ∧ wr.heap[w.heap.size]? = some (.cells #[.int .i64 c, .slice a1 n1 c1, .slice (some ⟨pg, po, none⟩) Ps.length cp, .slice a3 n3 c3] 63 (0, 0)) ∧ Cop wr (w.heap.size + 1) (.slice vb k vc) Ps G k) := ⟨hK, hS, hC⟩
      clear hc h5 hins hh hK hS hC hw5
      go_wp2_with fail
      refine LA.mono ?_
      rintro e w1 ⟨⟨g, cg, rfl, hB, hcg, hg⟩, k1⟩
      obtain ⟨hK, hS, hC⟩ := HX.out
      have hne : (Value.slice vb k vc).ownBlock ≠ some g := fun e => by have := (own_block hC.own e).1; omega
      obtain ⟨v', w2, r1, C2, G2⟩ := (hC.keeps k1).push hB (by rw [hln]; exact hcg) hne (by omega)
      rw [hln] at r1
      have HR : Hid (_ = _) := r1
      have hSl := lt_of_block hS
      have b1 := (k1.block _ hSl (fun f => f)).trans hS
      have hnS : (Value.slice vb k vc).ownBlock ≠ some w.heap.size := fun e => by have := (own_block hC.own e).2; omega
      have b2 := (G2.keeps.block _ (lt_of_block b1) hnS).trans b1
      have K2 : Keeps (fun _ => False) w w2 := by
        have K1 := hK.trans k1
        exact ⟨G2.keeps.os.trans K1.os, G2.keeps.tape.trans K1.tape, G2.keeps.output.trans K1.output, Nat.le_trans K1.size G2.keeps.size, fun q hq hs => (G2.keeps.block q (Nat.lt_of_lt_of_le hq K1.size) fun e => by
          have := (own_block hC.own e).2; omega).trans (K1.block q hq hs)⟩
      clear LA HX hK hS hC hB r1 G2 b1 hne hnS hSl c0 s2 k1
      go_wp2_with (at_builtin; refine wpList_append_run rfl _ _ 60 rfl rfl rfl HR.out ?_)
      go_roundw
      · exact ⟨k + 1, _, by simp, by omega, ⟨K2, b2, C2⟩⟩
      · simp [intOf]; omega
    · have hki : ¬ (k : Int) < Ps.length := by omega
      obtain rfl : k = Ps.length := by omega
      have s0 : wr.cell? ⟨w.heap.size, 0, none⟩ = some (.int .i64 c) := by rw [cell_of_block hS]; rfl
      have s1 : wr.cell? ⟨w.heap.size, 1, none⟩ = some (.slice a1 n1 c1) := by rw [cell_of_block hS]; rfl
      have s3 : wr.cell? ⟨w.heap.size, 3, none⟩ = some (.slice a3 n3 c3) := by rw [cell_of_block hS]; rfl
      have kq := (Keeps.refl (fun _ => False) wr).alloc (.cells #[.int .i64 c, .slice a1 n1 c1, .slice vb Ps.length vc, .slice a3 n3 c3] 63)
      have Q0 := heap_alloc_new wr (.cells #[.int .i64 c, .slice a1 n1 c1, .slice vb Ps.length vc, .slice a3 n3 c3] 63)
      have HC : Hid (∀ X, Keeps (fun _ => False) wr X → Cop X (w.heap.size + 1) (.slice vb Ps.length vc) Ps G Ps.length ∧ Pgs X (.slice vb Ps.length vc) Ps ∧ Pgs X (.slice ap Ps.length cp) Ps ∧ Gb X ∧ X.heap[w.heap.size]? = some (.cells #[.int .i64 c, .slice a1 n1 c1, .slice ap Ps.length cp, .slice a3 n3 c3] 63 (0, 0))) := fun X kX => ⟨hC.keeps kX, (hC.keeps kX).pgs HW.out, (HI.out X (hK.trans kX)).1, (HI.out X (hK.trans kX)).2, (kX.block _ (lt_of_block hS) (fun f => f)).trans hS⟩
      have ls := lt_of_block hS
      have AL := all_any _ Ps (by omega) _ (HC.out _ kq).2.1 (HC.out _ kq).2.2.2.1
      clear hh hS hC
      generalize hav : allV Ps = av at *
      obtain ⟨an, ax, ay⟩ := av
      dsimp only at AL
      unfold wrV at AL
      go_wp2_with fail
      refine AL.mono ?_
      rintro e w2 ⟨rfl, k2⟩
      have K2 := (kq.trans k2).alloc (.cells #[.int .i64 ax, .int .i64 ay] 40)
      have K2q := k2.alloc (.cells #[.int .i64 ax, .int .i64 ay] 40)
      obtain ⟨W2, hW2⟩ : ∃ W, W = w2.alloc (.cells #[.int .i64 ax, .int .i64 ay] 40) := ⟨_, rfl⟩
      have RA := rall_any _ Ps (by omega) W2 (by rw [hW2]; exact (HC.out _ K2).2.2.1)
      rw [hav] at RA
      dsimp only at RA
      unfold wrV at RA
      have t2 : w2.cell? ⟨w.heap.size, 2, none⟩ = some (.slice ap Ps.length cp) := by rw [cell_of_block (HC.out _ (kq.trans k2)).2.2.2.2]; rfl
      have lw2 : w.heap.size < w2.heap.size := by have := k2.size; simp at this; omega
      rw [hW2] at RA
      clear AL s0 s1 s2 s3
      go_wp2_with fail
      refine RA.mono ?_
      rintro e w3 ⟨rfl, k3⟩
      have K3 := K2.trans k3
      have bP := (k3.block _ (by simp) (fun f => f)).trans (heap_alloc_new w2 (.cells #[.int .i64 ax, .int .i64 ay] 40))
      have p0 : w3.cell? ⟨w2.heap.size, 0, none⟩ = some (.int .i64 ax) := by rw [cell_of_block bP]; rfl
      have p1 : w3.cell? ⟨w2.heap.size, 1, none⟩ = some (.int .i64 ay) := by rw [cell_of_block bP]; rfl
      have lp := lt_of_block bP
      have HQ : Hid (∀ X, Keeps (fun _ => False) w3 X → X.heap[wr.heap.size]? = some (.cells #[.int .i64 c, .slice a1 n1 c1, .slice vb Ps.length vc, .slice a3 n3 c3] 63 (0, 0))) := fun X kX => ((K2q.trans k3).trans kX).block _ (lt_of_block Q0) (fun f => f) |>.trans Q0
      have bQ := HQ.out w3 (Keeps.refl _ _)
      have q0 : w3.cell? ⟨wr.heap.size, 0, none⟩ = some (.int .i64 c) := by rw [cell_of_block bQ]; rfl
      have q1 : w3.cell? ⟨wr.heap.size, 1, none⟩ = some (.slice a1 n1 c1) := by rw [cell_of_block bQ]; rfl
      have q2 : w3.cell? ⟨wr.heap.size, 2, none⟩ = some (.slice vb Ps.length vc) := by rw [cell_of_block bQ]; rfl
      have q3 : w3.cell? ⟨wr.heap.size, 3, none⟩ = some (.slice a3 n3 c3) := by rw [cell_of_block bQ]; rfl
      have lq := lt_of_block bQ
      obtain ⟨wd, hwd⟩ : ∃ W, W = (w3.alloc (.cells #[.int .i64 ax, .int .i64 ay] 40)).drew := ⟨_, rfl⟩
      have kd3 : Keeps (fun _ => False) w3 wd := by rw [hwd]; exact ((Keeps.refl _ _).alloc _).drew
      have KD : Keeps (fun _ => False) wr wd := K3.trans kd3
      have b9 : wd.heap[w3.heap.size]? = some (.cells #[.int .i64 ax, .int .i64 ay] 40 (0, 0)) := by rw [hwd]; exact heap_alloc_new _ _
      have HS : Hid (∀ X, Keeps (fun _ => False) wd X → (fun X : World => X.cell? ⟨w2.heap.size, 0, none⟩ = some (.int .i64 ax) ∧ X.cell? ⟨w2.heap.size, 1, none⟩ = some (.int .i64 ay) ∧ X.cell? ⟨w3.heap.size, 0, none⟩ = some (.int .i64 ax) ∧ X.cell? ⟨w3.heap.size, 1, none⟩ = some (.int .i64 ay) ∧ X.cell? ⟨wr.heap.size, 0, none⟩ = some (.int .i64 c) ∧ X.cell? ⟨wr.heap.size, 1, none⟩ = some (.slice a1 n1 c1) ∧ X.cell? ⟨wr.heap.size, 2, none⟩ = some (.slice vb Ps.length vc) ∧ X.cell? ⟨wr.heap.size, 3, none⟩ = some (.slice a3 n3 c3) ∧ X.cell? ⟨w.heap.size, 0, none⟩ = some (.int .i64 c) ∧ X.cell? ⟨w.heap.size, 1, none⟩ = some (.slice a1 n1 c1) ∧ X.cell? ⟨w.heap.size, 2, none⟩ = some (.slice ap Ps.length cp) ∧ X.cell? ⟨w.heap.size, 3, none⟩ = some (.slice a3 n3 c3)) X) := fun X kX => by
        have kx3 := kd3.trans kX
        have bp := (kx3.block _ (lt_of_block bP) (fun f => f)).trans bP
        have b9' := (kX.block _ (lt_of_block b9) (fun f => f)).trans b9
        have bq := HQ.out X kx3
        have bs := (HC.out X (KD.trans kX)).2.2.2.2
        refine ⟨?_, ?_, ?_, ?_, ?_, ?_, ?_, ?_, ?_, ?_, ?_, ?_⟩
        · rw [cell_of_block bp]; rfl
        · rw [cell_of_block bp]; rfl
        · rw [cell_of_block b9']; rfl
        · rw [cell_of_block b9']; rfl
        · rw [cell_of_block bq]; rfl
        · rw [cell_of_block bq]; rfl
        · rw [cell_of_block bq]; rfl
        · rw [cell_of_block bq]; rfl
        · rw [cell_of_block bs]; rfl
        · rw [cell_of_block bs]; rfl
        · rw [cell_of_block bs]; rfl
        · rw [cell_of_block bs]; rfl
      have S0 := HS.out wd (Keeps.refl _ _)
      have SC := script_any c a1 n1 c1 vb vc a3 n3 c3 Ps (by omega) _ (HC.out _ KD).2.1 (HC.out _ KD).2.2.2.1
      unfold scrA wrV at SC
      generalize hs1 : (scrV c n1 n3 Ps).1 = sv1 at *
      generalize hs2 : (scrV c n1 n3 Ps).2 = sv2 at *
      clear RA bP bQ K2 k2 hW2 K2q Q0 kq k3 t2 lw2 hav p0 p1 q0 q1 q2 q3 lp lq
      go_wp2_with fail
      refine wp_held_end (S := (fun X : World => X.cell? ⟨w2.heap.size, 0, none⟩ = some (.int .i64 ax) ∧ X.cell? ⟨w2.heap.size, 1, none⟩ = some (.int .i64 ay) ∧ X.cell? ⟨w3.heap.size, 0, none⟩ = some (.int .i64 ax) ∧ X.cell? ⟨w3.heap.size, 1, none⟩ = some (.int .i64 ay) ∧ X.cell? ⟨wr.heap.size, 0, none⟩ = some (.int .i64 c) ∧ X.cell? ⟨wr.heap.size, 1, none⟩ = some (.slice a1 n1 c1) ∧ X.cell? ⟨wr.heap.size, 2, none⟩ = some (.slice vb Ps.length vc) ∧ X.cell? ⟨wr.heap.size, 3, none⟩ = some (.slice a3 n3 c3) ∧ X.cell? ⟨w.heap.size, 0, none⟩ = some (.int .i64 c) ∧ X.cell? ⟨w.heap.size, 1, none⟩ = some (.slice a1 n1 c1) ∧ X.cell? ⟨w.heap.size, 2, none⟩ = some (.slice ap Ps.length cp) ∧ X.cell? ⟨w.heap.size, 3, none⟩ = some (.slice a3 n3 c3))) 15 rfl hmx ?_
      rw [← hwd]
      simp only [Array.replicate_succ, Array.replicate_zero, List.push_toArray, List.nil_append, List.cons_append]
      refine held_take (i := 0) (v := .int .i64 an) 41 rfl rfl (by kernel_rfl) (by kernel_rfl) (by kernel_rfl) rfl (fun w' hw' => by obtain ⟨z0, z1, z2, z3, z4, z5, z6, z7, z8, z9, z10, z11⟩ := hw'; go_simp) S0 ?_
      simp only [Act.put, List.setIfInBounds_toArray, List.set_cons_zero, List.set_cons_succ]
      refine held_take (i := 1) (v := .int .i64 an) 42 rfl rfl (by kernel_rfl) (by kernel_rfl) (by kernel_rfl) rfl (fun w' hw' => by obtain ⟨z0, z1, z2, z3, z4, z5, z6, z7, z8, z9, z10, z11⟩ := hw'; go_simp) S0 ?_
      simp only [Act.put, List.setIfInBounds_toArray, List.set_cons_zero, List.set_cons_succ]
      refine held_take (i := 2) (v := .bool false) 43 rfl rfl (by kernel_rfl) (by kernel_rfl) (by kernel_rfl) rfl (fun w' hw' => by obtain ⟨z0, z1, z2, z3, z4, z5, z6, z7, z8, z9, z10, z11⟩ := hw'; go_simp) S0 ?_
      simp only [Act.put, List.setIfInBounds_toArray, List.set_cons_zero, List.set_cons_succ]
      refine held_take (i := 3) (v := .bool false) 44 rfl rfl (by kernel_rfl) (by kernel_rfl) (by kernel_rfl) rfl (fun w' hw' => by obtain ⟨z0, z1, z2, z3, z4, z5, z6, z7, z8, z9, z10, z11⟩ := hw'; go_simp) S0 ?_
      simp only [Act.put, List.setIfInBounds_toArray, List.set_cons_zero, List.set_cons_succ]
      refine held_take (i := 4) (v := .agg #[.int .i64 ax, .int .i64 ay]) 45 rfl rfl (by kernel_rfl) (by kernel_rfl) (by kernel_rfl) rfl (fun w' hw' => by obtain ⟨z0, z1, z2, z3, z4, z5, z6, z7, z8, z9, z10, z11⟩ := hw'; go_simp) S0 ?_
      simp only [Act.put, List.setIfInBounds_toArray, List.set_cons_zero, List.set_cons_succ]
      refine held_take (i := 5) (v := .agg #[.int .i64 ax, .int .i64 ay]) 46 rfl rfl (by kernel_rfl) (by kernel_rfl) (by kernel_rfl) rfl (fun w' hw' => by obtain ⟨z0, z1, z2, z3, z4, z5, z6, z7, z8, z9, z10, z11⟩ := hw'; go_simp) S0 ?_
      simp only [Act.put, List.setIfInBounds_toArray, List.set_cons_zero, List.set_cons_succ]
      refine held_take (i := 6) (v := .bool false) 47 rfl rfl (by kernel_rfl) (by kernel_rfl) (by kernel_rfl) rfl (fun w' hw' => by obtain ⟨z0, z1, z2, z3, z4, z5, z6, z7, z8, z9, z10, z11⟩ := hw'; go_simp) S0 ?_
      simp only [Act.put, List.setIfInBounds_toArray, List.set_cons_zero, List.set_cons_succ]
      refine held_take (i := 7) (v := .bool false) 48 rfl rfl (by kernel_rfl) (by kernel_rfl) (by kernel_rfl) rfl (fun w' hw' => by obtain ⟨z0, z1, z2, z3, z4, z5, z6, z7, z8, z9, z10, z11⟩ := hw'; go_simp) S0 ?_
      simp only [Act.put, List.setIfInBounds_toArray, List.set_cons_zero, List.set_cons_succ]
      refine held_take (i := 8) (v := .bool false) 49 rfl rfl (by kernel_rfl) (by kernel_rfl) (by kernel_rfl) rfl (fun w' hw' => by obtain ⟨z0, z1, z2, z3, z4, z5, z6, z7, z8, z9, z10, z11⟩ := hw'; go_simp) S0 ?_
      simp only [Act.put, List.setIfInBounds_toArray, List.set_cons_zero, List.set_cons_succ]
      refine held_take (i := 9) (v := .agg #[.int .i64 c, .slice a1 n1 c1, .slice vb Ps.length vc, .slice a3 n3 c3]) 50 rfl rfl (by kernel_rfl) (by kernel_rfl) (by kernel_rfl) rfl (fun w' hw' => by obtain ⟨z0, z1, z2, z3, z4, z5, z6, z7, z8, z9, z10, z11⟩ := hw'; go_simp) S0 ?_
      simp only [Act.put, List.setIfInBounds_toArray, List.set_cons_zero, List.set_cons_succ]
      refine held_take (i := 11) (v := .agg #[.int .i64 c, .slice a1 n1 c1, .slice ap Ps.length cp, .slice a3 n3 c3]) 52 rfl rfl (by kernel_rfl) (by kernel_rfl) (by kernel_rfl) rfl (fun w' hw' => by obtain ⟨z0, z1, z2, z3, z4, z5, z6, z7, z8, z9, z10, z11⟩ := hw'; go_simp) S0 ?_
      simp only [Act.put, List.setIfInBounds_toArray, List.set_cons_zero, List.set_cons_succ]
      refine held_call (i := 10) 51 (by kernel_rfl) rfl rfl rfl (by go_simp) (SC.mono ?_)
      rintro e V1 ⟨rfl, kv1⟩
      have S1 := HS.out V1 kv1
      refine ⟨_, rfl, S1, ?_⟩
      simp only [Act.put, List.setIfInBounds_toArray, List.set_cons_zero, List.set_cons_succ]
      have RS := rscript_any c a1 n1 c1 ap cp a3 n3 c3 Ps (by omega) V1 (HC.out _ (KD.trans kv1)).2.2.1
      unfold scrA wrV at RS
      rw [hs1, hs2] at RS
      refine held_call (i := 12) 53 (by kernel_rfl) rfl rfl rfl (by go_simp) (RS.mono ?_)
      rintro e V2 ⟨rfl, kv2⟩
      have S2 := HS.out V2 (kv1.trans kv2)
      refine ⟨_, rfl, S2, ?_⟩
      simp only [Act.put, List.setIfInBounds_toArray, List.set_cons_zero, List.set_cons_succ]
      refine held_val (i := 13) (v := .bool false) (w' := V2) (some 54) (by kernel_rfl) rfl rfl rfl (by go_simp) S2 ?_
      simp only [Act.put, List.setIfInBounds_toArray, List.set_cons_zero, List.set_cons_succ]
      refine held_val (i := 14) (v := .bool false) (w' := V2) (some 55) (by kernel_rfl) rfl rfl rfl (by go_simp) S2 ?_
      simp only [Act.put, List.setIfInBounds_toArray, List.set_cons_zero, List.set_cons_succ]
      refine held_end (by kernel_rfl) ?_ _
      have K5 := (KD.trans kv1).trans kv2
      clear SC RS S0 S1 S2 HS K3 KD kd3 b9 hwd kv1 kv2 hs1 hs2 HQ
      go_wp2_with fail
      obtain ⟨Wr, hWr⟩ : ∃ W, W = wr := ⟨_, rfl⟩
      rw [← hWr] at K5 HC hK
      clear hWr ls
      go_loopw [10] (fun m wq => ∃ k : Nat, m = .int .i64 k ∧ k ≤ Ps.length ∧ Hid (Keeps (fun _ => False) Wr wq)) (fun m _ => Ps.length - (intOf m).toNat)
      case atStart => exact ⟨0, rfl, Nat.zero_le _, K5⟩
      case round =>
        obtain ⟨k, rfl, hkk, hq⟩ := hrel
        by_cases hkl : k < Ps.length
        · have hkli : (k : Int) < Ps.length := by omega
          obtain ⟨C1, C2, C3, C4, C5⟩ := HC.out _ hq.out
          obtain ⟨cgb, rfl, e1⟩ := C1.at k hkl
          obtain ⟨av', cap', hv, hc⟩ := C3
          cases hv
          obtain ⟨pg, po, pa, pc, rfl, e3, hins⟩ := hc k hkl
          have h5 : Ps[k]'hkl = pAt Ps k := by simp [pAt, hkl]
          have hw5 := (HW.out _ (List.getElem_mem hkl)).2
          rw [h5] at e3 hins hw5
          obtain ⟨y1, y2, -⟩ := C1.each k hkl
          have e2 : wr.cell? ⟨w.heap.size, 2, none⟩ = some (.slice (some ⟨pg, po, none⟩) Ps.length cp) := by rw [cell_of_block C5]; rfl
          have LF := left_any _ (pAt Ps k) (G k).1 (G k).2 wr.drew (hins.keeps ((Keeps.refl (fun _ => False) wr).drewN 1)) (y1.keeps ((Keeps.refl (fun _ => False) wr).drewN 1) (fun f => f)) y2 hw5
          have S0 : (fun X : World => X.cell? ⟨cgb, k, none⟩ = some (.slice (some ⟨(G k).1, 0, none⟩) (pAt Ps k).length (G k).2) ∧ X.cell? ⟨w.heap.size, 2, none⟩ = some (.slice (some ⟨pg, po, none⟩) Ps.length cp) ∧ X.cell? ⟨pg, po + k, none⟩ = some (.slice pa (pAt Ps k).length pc)) wr.drew := ⟨e1, e2, e3⟩
          have HS : Hid (∀ X, Keeps (fun _ => False) wr.drew X → (fun X : World => X.cell? ⟨cgb, k, none⟩ = some (.slice (some ⟨(G k).1, 0, none⟩) (pAt Ps k).length (G k).2) ∧ X.cell? ⟨w.heap.size, 2, none⟩ = some (.slice (some ⟨pg, po, none⟩) Ps.length cp) ∧ X.cell? ⟨pg, po + k, none⟩ = some (.slice pa (pAt Ps k).length pc)) X) := fun X kX => ⟨cell_keeps2 kX e1, cell_keeps2 kX e2, cell_keeps2 kX e3⟩
          have KQ : Keeps (fun _ => False) Wr wr.drew := hq.out.drewN 1
          generalize hln : (pAt Ps k).length = ln at *
          clear hc h5 hins C1 C2 C4 C5 y1 e1 e2 e3 hw5 y2
          go_wp2_with fail
          refine wp_held_end (S := (fun X : World => X.cell? ⟨cgb, k, none⟩ = some (.slice (some ⟨(G k).1, 0, none⟩) ln (G k).2) ∧ X.cell? ⟨w.heap.size, 2, none⟩ = some (.slice (some ⟨pg, po, none⟩) Ps.length cp) ∧ X.cell? ⟨pg, po + k, none⟩ = some (.slice pa ln pc))) 11 rfl hmx ?_
          generalize wr.drew = wd at *
          simp only [Array.replicate_succ, Array.replicate_zero, List.push_toArray, List.nil_append, List.cons_append]
          refine held_take (i := 0) (v := .slice (some ⟨cgb, 0, none⟩) Ps.length vc) 62 rfl rfl (by kernel_rfl) (by kernel_rfl) (by kernel_rfl) rfl (fun w' hw' => by obtain ⟨z0, z1, z2⟩ := hw'; go_simp) S0 ?_
          simp only [Act.put, List.setIfInBounds_toArray, List.set_cons_zero, List.set_cons_succ]
          refine held_take (i := 1) (v := .int .i64 (k : Int)) 63 rfl rfl (by kernel_rfl) (by kernel_rfl) (by kernel_rfl) rfl (fun w' hw' => by obtain ⟨z0, z1, z2⟩ := hw'; go_simp) S0 ?_
          simp only [Act.put, List.setIfInBounds_toArray, List.set_cons_zero, List.set_cons_succ]
          refine held_take (i := 2) (v := .pointer (some ⟨cgb, k, none⟩)) 64 rfl rfl (by kernel_rfl) (by kernel_rfl) (by kernel_rfl) rfl (fun w' hw' => by obtain ⟨z0, z1, z2⟩ := hw'; go_simp) S0 ?_
          simp only [Act.put, List.setIfInBounds_toArray, List.set_cons_zero, List.set_cons_succ]
          refine held_take (i := 3) (v := .slice (some ⟨(G k).1, 0, none⟩) ln (G k).2) 65 rfl rfl (by kernel_rfl) (by kernel_rfl) (by kernel_rfl) rfl (fun w' hw' => by obtain ⟨z0, z1, z2⟩ := hw'; go_simp) S0 ?_
          simp only [Act.put, List.setIfInBounds_toArray, List.set_cons_zero, List.set_cons_succ]
          refine held_take (i := 4) (v := .pointer (some ⟨w.heap.size, 2, none⟩)) 66 rfl rfl (by kernel_rfl) (by kernel_rfl) (by kernel_rfl) rfl (fun w' hw' => by obtain ⟨z0, z1, z2⟩ := hw'; go_simp) S0 ?_
          simp only [Act.put, List.setIfInBounds_toArray, List.set_cons_zero, List.set_cons_succ]
          refine held_take (i := 5) (v := .slice (some ⟨pg, po, none⟩) Ps.length cp) 67 rfl rfl (by kernel_rfl) (by kernel_rfl) (by kernel_rfl) rfl (fun w' hw' => by obtain ⟨z0, z1, z2⟩ := hw'; go_simp) S0 ?_
          simp only [Act.put, List.setIfInBounds_toArray, List.set_cons_zero, List.set_cons_succ]
          refine held_take (i := 6) (v := .int .i64 (k : Int)) 68 rfl rfl (by kernel_rfl) (by kernel_rfl) (by kernel_rfl) rfl (fun w' hw' => by obtain ⟨z0, z1, z2⟩ := hw'; go_simp) S0 ?_
          simp only [Act.put, List.setIfInBounds_toArray, List.set_cons_zero, List.set_cons_succ]
          refine held_take (i := 7) (v := .pointer (some ⟨pg, po + k, none⟩)) 69 rfl rfl (by kernel_rfl) (by kernel_rfl) (by kernel_rfl) rfl (fun w' hw' => by obtain ⟨z0, z1, z2⟩ := hw'; go_simp) S0 ?_
          simp only [Act.put, List.setIfInBounds_toArray, List.set_cons_zero, List.set_cons_succ]
          refine held_take (i := 8) (v := .slice pa ln pc) 70 rfl rfl (by kernel_rfl) (by kernel_rfl) (by kernel_rfl) rfl (fun w' hw' => by obtain ⟨z0, z1, z2⟩ := hw'; go_simp) S0 ?_
          simp only [Act.put, List.setIfInBounds_toArray, List.set_cons_zero, List.set_cons_succ]
          refine held_call (i := 9) 71 (by kernel_rfl) rfl rfl rfl (by go_simp) (LF.mono ?_)
          rintro e V1 ⟨rfl, kv1⟩
          have S1 := HS.out V1 kv1
          refine ⟨_, rfl, S1, ?_⟩
          simp only [Act.put, List.setIfInBounds_toArray, List.set_cons_zero, List.set_cons_succ]
          refine held_val (i := 10) (v := .bool false) (w' := V1) (some 72) (by kernel_rfl) rfl rfl rfl (by go_simp) S1 ?_
          simp only [Act.put, List.setIfInBounds_toArray, List.set_cons_zero, List.set_cons_succ]
          refine held_end (by kernel_rfl) ?_ _
          have KV := KQ.trans kv1
          clear LF HS S0 S1 KQ kv1
          go_wp2_with fail
          go_roundw
          · exact ⟨k + 1, by simp, by omega, KV⟩
          · simp [intOf]; omega
        · have hkli : ¬ (k : Int) < Ps.length := by omega
          obtain rfl : k = Ps.length := by omega
          have KN := known_any _ (HC.out _ hq.out).2.2.2.1
          go_wp2_with fail
          refine KN.mono ?_
          rintro e w6 ⟨rfl, k6⟩
          go_wp2_with fail
          go_ret
          exact ⟨rfl, (hK.trans hq.out).trans k6⟩
end Go.Proofs.YtljapgoeomedkaaDoor
