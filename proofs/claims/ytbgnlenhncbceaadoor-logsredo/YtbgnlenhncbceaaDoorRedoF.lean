
/-
  Back on a redo log. No statement of the seat is proved here.
-/
import Derived.Test.YtbgnlenhncbceaaDoorRedoE
import Derived.Test.YtbgnlenhncbceaaDoorLoopM
namespace Go.Proofs.YtbgnlenhncbceaaDoor
open Go.RowKit Go.Shelf
attribute [local go_sem] Oper.semAt_some

section
variable {w w' : World} {r most bt p : Nat} {es : List (Int × Int)} {pu : List Pt} {v1 v2 : Value} {K : List (Option Int)} {vf : Int → Value} {Ot : Nat → Prop}
theorem RedoAt.cells (h : RedoAt w r most es pu v1 v2 bt p K vf Ot) {q : Nat} (hq : ROwn r v1 v2 Ot q) : ∃ c t fr, w.heap[q]? = some (.cells c t fr) := by
  rcases hq with rfl | hq | hq | hq
  · exact ⟨_, _, _, h.box⟩
  · obtain ⟨c, hc⟩ := h.ents.kind hq
    exact ⟨_, _, _, hc⟩
  · obtain ⟨c, hc⟩ := h.puts.kind hq
    exact ⟨_, _, _, hc⟩
  · obtain ⟨c, t, hc, _⟩ := h.kinds q hq
    exact ⟨_, _, _, hc⟩
/-- What is no cells may be turned. -/
theorem RedoAt.grown (h : RedoAt w r most es pu v1 v2 bt p K vf Ot) {row : Option Nat} (hg : w.grownBy w' row) (hr : ∀ r, row = some r → ∃ o : Obj, w.heap[r]? = some o ∧ o.isCells = false) : RedoAt w' r most es pu v1 v2 bt p K vf Ot :=
  h.kept (keeps_grown hg) (fun q hq e => by
    obtain ⟨o, h1, h2⟩ := hr q e
    obtain ⟨c, t, fr, h3⟩ := h.cells hq
    rw [h3] at h1
    cases h1
    cases h2)
/-- The Puts are cut. -/
theorem RedoAt.unput (h : RedoAt w r most es pu v1 v2 bt p K vf Ot) {a : Option Addr} {c m : Nat} (hv : v2 = .slice a pu.length c) (hm : m ≤ pu.length) :
    RedoAt (w.setCell ⟨r, 3, none⟩ (.slice a m c)) r most es (pu.take m) v1 (.slice a m c) bt p K vf Ot ∧ (∀ q, ROwn r v1 (.slice a m c) Ot q → ROwn r v1 v2 Ot q) ∧ Keeps (ROwn r v1 v2 Ot) w (w.setCell ⟨r, 3, none⟩ (.slice a m c)) := by
  have hn := h.ner
  have hob : (Value.slice a m c).ownBlock = v2.ownBlock := by rw [hv]; cases a <;> rfl
  have hle : m ≤ c := by
    obtain ⟨_, c', q1, q2, _⟩ := h.puts.form
    rw [hv] at q1
    injection q1 with _ _ q3
    subst q3
    omega
  have hcut := h.puts.cut (m := m) (c := c) hm a c hv ⟨hle, Nat.le_refl _⟩
  rw [putV_take] at hcut
  have hlen : (pu.take m).length = m := by rw [List.length_take]; omega
  have k2 : Keeps (fun k => k = r) w (w.setCell ⟨r, 3, none⟩ (.slice a m c)) := (Keeps.refl (fun k => k = r) w).setCell (p := ⟨r, 3, none⟩) (.inr rfl) _
  refine ⟨⟨block_set h.box 3 _, h.ents.kept k2 (fun q hq => (h.ne1 hq).1), by rw [hlen]; exact hcut.kept k2 (fun q hq => (h.ne2 (hob ▸ hq)).1), h.tab.kept k2 (fun q hq e => hn.2.2 (e ▸ hq)), h.place, h.fit, h.most20, by have := h.many; omega, fun q hq => ?_, h.pos⟩, ?_, ?_⟩
  · obtain ⟨cc, t, h1, h2⟩ := h.kinds q hq
    exact ⟨cc, t, k2.old h1 (fun e => hn.2.2 (e ▸ hq)), h2⟩
  · rintro q (rfl | hq | hq | hq)
    · exact .inl rfl
    · exact .inr (.inl hq)
    · exact .inr (.inr (.inl (hob ▸ hq)))
    · exact .inr (.inr (.inr hq))
  · exact (Keeps.refl (ROwn r v1 v2 Ot) w).setCell (p := ⟨r, 3, none⟩) (.inr (.inl rfl)) _
end

/-- s[m:] of the Puts. -/
theorem run_from (W : World) (a : Option Addr) (n c m : Nat) (hm : m ≤ n) : (Instr.slice 55 (.slice a n c) (some (.int .i64 m)) none none).run Tryd.prog W = .ok (.slice (if c = m then a else a.map (·.add (m * 3))) (n - m) (c - m)) W := by
  obtain ⟨i0, hi, hz0, hz1, hzb⟩ := info_parts info_put
  have h1 : (m : Int) ≤ (n : Int) := by omega
  simp [Instr.slice, run_underlying Tryd.underlying55, Instr.sliceBounds, run_sliceBound, sizeOf, typeInfo, hi, hz1, h1]

/-- s[:m] of the Puts. -/
theorem run_upto (W : World) (a : Option Addr) (n c m : Nat) (hm : m ≤ c) : (Instr.slice 55 (.slice a n c) none (some (.int .i64 m)) none).run Tryd.prog W = .ok (.slice a m c) W := by
  obtain ⟨i0, hi, hz0, hz1, hzb⟩ := info_parts info_put
  have h1 : (m : Int) ≤ (c : Int) := by omega
  have h2 : a.map (·.add 0) = a := by
    cases a with
    | none => rfl
    | some x => simp [Addr.add]
  simp [Instr.slice, run_underlying Tryd.underlying55, Instr.sliceBounds, run_sliceBound, sizeOf, typeInfo, hi, h1, h2]
theorem backward_any (a : Option Addr) (n c : Nat) (w : World) : Calls Tryd.prog 55 #[.slice a n c] w fun e w' => e = .returned (.func (.func 66) #[] #[.pointer (some ⟨w.heap.size, 0, none⟩)]) ∧ w' = w.alloc (.cells #[.slice a n c] 55) := by
  go_enter Tryd.func55, Tryd.ntmps55
  go_wp2
  go_ret
  exact ⟨rfl, rfl⟩

/-- The Puts from a mark on, as the walk back has them. -/
theorem RedoAt.back_at {w : World} {r most bt p : Nat} {es : List (Int × Int)} {pu : List Pt} {v1 v2 : Value} {K : List (Option Int)} {vf : Int → Value} {Ot : Nat → Prop} (h : RedoAt w r most es pu v1 v2 bt p K vf Ot) {a : Option Addr} {c m : Nat} (hv : v2 = .slice a pu.length c) (hm : m ≤ pu.length) {W : World} (hk : Keeps (fun _ => False) w W)
    {bx c' : Nat} (hb : W.heap[bx]? = some (.cells #[.slice (if c = m then a else a.map (·.add (m * 3))) (pu.length - m) c'] 55 (0, 0))) :
    BackAt W bx (if c = m then a else a.map (·.add (m * 3))) (pu.length - m) c' (fun i => pu[m + i]?.getD ⟨false, 0, 0⟩) := by
  refine ⟨hb, fun i hi => ?_⟩
  have hle : pu.length ≤ c := by
    obtain ⟨_, c', q1, q2, _⟩ := h.puts.form
    rw [hv] at q1
    injection q1 with _ _ q3
    subst q3
    omega
  rcases h.puts.2 with ⟨q1, q2⟩ | ⟨g, cap, cur, q1, q2, q3, q4, q5, q6⟩
  · omega
  · rw [hv] at q1
    injection q1 with q1 _ q7
    subst q1 q7
    have hmi : m + i < pu.length := by omega
    have hget := putV_get pu (m + i) (pu[m + i]?.getD ⟨false, 0, 0⟩) (by rw [List.getElem?_eq_getElem hmi]; rfl)
    have hcur : ∀ j u, (putV pu)[j]? = some u → cur[j]? = some u := fun j u hj => by
      rw [← q6, List.getElem?_take] at hj
      split at hj
      · simpa using hj
      · cases hj
    rw [if_neg (by omega)]
    refine ⟨g, m * 3, cur, (0, 0), by simp [addr_add], hk.old q2 (fun f => f), ?_, ?_, ?_⟩
    · rw [show m * 3 + i * 3 = (m + i) * 3 by omega]
      exact hcur _ _ hget.1
    · rw [show m * 3 + i * 3 = (m + i) * 3 by omega]
      exact hcur _ _ hget.2.1
    · rw [show m * 3 + i * 3 = (m + i) * 3 by omega]
      exact hcur _ _ hget.2.2

set_option maxRecDepth 100000 in
set_option maxHeartbeats 1000000 in
theorem redo_back_ok (r most bt p : Nat) (L : List (Int × Int)) (v1 v2 : Value) (K : List (Option Int)) (vf : Int → Value) (Ot : Nat → Prop) (m : Nat) (w : World) (h : RedoAt w r most (redoE L) (redoU L) v1 v2 bt p K vf Ot) (hw : Tz w) (h0 : ∀ q, ROwn r v1 v2 Ot q → 0 < q) (hm : m ≤ L.length) :
    Calls Tryd.prog 34 #[.pointer (some ⟨r, 0, none⟩), .int .i64 m] w fun e w' => e = .returned (.int .i64 0) ∧ ∃ v1' v2' K' Ot', RedoAt w' r most (redoE (L.take m)) (redoU (L.take m)) v1' v2' bt p K' vf Ot' ∧ (∀ q, ROwn r v1' v2' Ot' q → ROwn r v1 v2 Ot q) ∧ Keeps (ROwn r v1 v2 Ot) w w' := by
  obtain ⟨a, c, hv2, hc1, hc2⟩ := h.puts.form
  have hUl := redoU_length L
  have hmany := h.many
  have hk1 : Keeps (fun _ => False) w (w.alloc (.cells #[.pointer (some ⟨r, 0, none⟩)] 50)) := (Keeps.refl _ w).alloc _
  have hA := h.kept hk1 (fun _ _ f => f)
  have hx := alloc_block w (.cells #[.pointer (some ⟨r, 0, none⟩)] 50)
  have x1 : (w.alloc (.cells #[.pointer (some ⟨r, 0, none⟩)] 50)).cell? ⟨w.heap.size, 0, none⟩ = some (.pointer (some ⟨r, 0, none⟩)) := cell_of_block hx 0
  have ht := redo_there r bt _ hA.c2
  have c3 := hA.c3
  rw [hv2] at c3
  have hsl := run_from (w.alloc (.cells #[.pointer (some ⟨r, 0, none⟩)] 50)) a (redoU L).length c m (by omega)
  have hz1 : (w.alloc (.cells #[.pointer (some ⟨r, 0, none⟩)] 50)).heap.size = w.heap.size + 1 := by simp
  have hbk := fun (W : World) (hk : Keeps (fun _ => False) w W) (bx c' : Nat) hb => h.back_at (c' := c') hv2 (show m ≤ (redoU L).length by omega) hk (bx := bx) hb
  have hHA : ∃ a2, (if c = m then a else a.map (·.add (m * 3))) = a2 := ⟨_, rfl⟩
  obtain ⟨a2, hHA⟩ := hHA
  rw [hHA] at hsl hbk
  have HA : Hid ((if c = m then a else a.map (·.add (m * 3))) = a2) := hHA
  rw [hUl] at hsl c3 hbk hmany hc1
  have hml : (m : Int) ≤ (L.length : Int) := by omega
  have hm0 : (0 : Int) ≤ (m : Int) := by omega
  have hHN : ∃ N, L.length - m = N := ⟨_, rfl⟩
  obtain ⟨N, hHN⟩ := hHN
  rw [hHN] at hsl hbk
  have HN : Hid (L.length - m = N) := hHN
  have hNb : N ≤ 4398046511104 := by omega
  clear hHA hHN
  generalize c - m = cm at hsl hbk
  have hmx : Tryd.prog.follows .mixedOrders = true := by kernel_rfl
  refine (callsIn_wide (n := 3)).1 ?_
  refine callsIn_of_wp_marks Tryd.func34 rfl trivial ?_ rfl
  simp only [Tryd.ntmps34, List.size_toArray, List.length_cons, List.length_nil, Nat.reduceAdd, Nat.reduceSub, Array.replicate_succ, Array.replicate_zero, List.push_toArray, List.append_toArray, List.nil_append, List.cons_append]
  gi_wp2_with fail
  generalize w.alloc (.cells #[.pointer (some ⟨r, 0, none⟩)] 50) = W1 at *
  refine ⟨trivial, (callsIn_wide.2 ht).mono ?_⟩
  rintro e w' ⟨rfl, hw'⟩
  replace hw' := hw'.symm
  subst hw'
  gi_wp2_with fail
  refine ⟨trivial, (callsIn_wide.2 (backward_any _ _ _ _)).mono ?_⟩
  rintro e w' ⟨rfl, rfl⟩
  have hk2 : Keeps (fun _ => False) w (W1.alloc (.cells #[.slice a2 N cm] 55)) := hk1.alloc _
  have hxb := alloc_block W1 (.cells #[.slice a2 N cm] 55)
  have hxr := alloc_old hx (.cells #[.slice a2 N cm] 55)
  have hz2 : (W1.alloc (.cells #[.slice a2 N cm] 55)).heap.size = w.heap.size + 2 := by simp; omega
  rw [hz1] at hxb ⊢
  generalize W1.alloc (.cells #[.slice a2 N cm] 55) = W2 at *
  have hB := hbk W2 hk2 (w.heap.size + 1) cm hxb
  have hA2 := h.kept hk2 (fun _ _ f => f)
  have hlt : ∀ q, ROwn r v1 v2 Ot q → q < w.heap.size := fun q hq => h.lt hq
  have ha2 : ∀ k off, a2 = some ⟨k, off, none⟩ → v2.ownBlock = some k := fun k off e => by
    rw [← HA.out] at e
    rw [hv2]
    split at e
    · subst e
      rfl
    · obtain ⟨x, q1, q2⟩ := Option.map_eq_some_iff.1 e
      have : x.block = k := by
        have h1 := congrArg Addr.block q2
        have h2 : (x.add (m * 3)).block = x.block := by
          unfold Addr.add
          split <;> rfl
        rw [← h2]
        exact h1
      rw [q1]
      exact congrArg some this
  have hLm : ∀ k, k < N → ∃ b x, L[L.length - k - 1]? = some (b, x) := fun k hk => by
    have := HN.out
    have hlt : L.length - k - 1 < L.length := by omega
    exact ⟨(L[L.length - k - 1]).1, (L[L.length - k - 1]).2, by rw [List.getElem?_eq_getElem hlt]⟩
  clear ht c3 hsl x1 hx hA hk1 hbk
  gi_wp2_with fail
  refine' range_new rfl (by omega) (gf := 66) (lb := #[.pointer (some ⟨w.heap.size + 1, 0, none⟩)]) rfl trivial (enters_of Tryd.func66 (by kernel_rfl) rfl)
    (backward_next (3 - 1) (by omega) (w.heap.size + 1) N cm a2 _ hNb W2 hB) (Below.refl _ _)
    (fun h k => h.trans k) (fun W o => KeptOn.keeps ((Keeps.refl (fun _ => False) W).alloc o) (fun _ _ f => f)) (fun W r r' hl => KeptOn.putObj W _ _ _ hl rfl) (fun _ => rfl)
    (fun pre X => (∃ v1' K' Ot', RedoAt X r most (redoE (L.take (L.length - pre.length))) (redoU L) v1' v2 bt p K' vf Ot' ∧ ∀ q, ROwn r v1' v2 Ot' q → ROwn r v1 v2 Ot q) ∧ Boxed X w.heap.size 50 (.pointer (some ⟨r, 0, none⟩)) ∧ Keeps (ROwn r v1 v2 Ot) w X)
    (fun _ _ _ => False)
    (OwnFrom.and (Go.Own.from (fun s A B row hs hg hr => by obtain ⟨q1, q2, q3, q4, q5⟩ := hs; exact ⟨q1, q2, q3, q4.grown hg hr, q5⟩) _) (OwnFrom.and (Go.Own.from (fun s A B row hs hg hr => block_kept hs hg hr) _) (ownFrom_keeps (by omega))))
    (fun _ _ _ _ _ hs _ _ => hs)
    ⟨⟨v1, K, Ot, by simpa using hA2, fun q hq => hq⟩, hxr, hk2.mono (fun _ _ f => f.elim)⟩ (fun x => .cells #[.bool x.2.came, .int .i64 x.2.place, .int .u64 x.2.word] 89) _ ?assign ?body ?done ?stop
  case assign =>
    intro l x W K b hb hK
    dsimp only [ptV]
    gi_wp2
    exact hK
  case stop =>
    rintro c pre X _ h _
    exact h.elim
  case done =>
    rintro ys X hys ⟨⟨v1', K', Ot', hR, hO⟩, hbx, hk⟩ hD
    have hNe := HN.out
    rw [hys, show L.length - N = m by omega] at hR
    have hUm : m ≤ (redoU L).length := by omega
    obtain ⟨hU, hUo, hUk⟩ := hR.unput hv2 hUm
    rw [redoU_take] at hU
    have xr := hbx.cell
    have c3 := hR.c3
    rw [hv2, hUl] at c3
    have f3 := hR.fr 3
    have hmc : m ≤ c := by omega
    have hup := fun W => run_upto W a L.length c m hmc
    have hDr : W2.heap.size ≠ r := fun e => by
      rw [e, hR.box] at hD
      cases hD
    have hD1 : (X.setCell ⟨r, 3, none⟩ (.slice a m c)).drew.heap[W2.heap.size]? = some (.deferred (some [])) := (Below.heap_setCell X ⟨r, 3, none⟩ _ _ hDr).trans hD
    have hrw : r ≠ w.heap.size := fun e => by have := hlt r (.inl rfl); omega
    have hS1 : (X.setCell ⟨r, 3, none⟩ (.slice a m c)).drew.cell? ⟨w.heap.size, 0, none⟩ = some (.pointer (some ⟨r, 0, none⟩)) := (World.cell?_setCell_far X ⟨r, 3, none⟩ ⟨w.heap.size, 0, none⟩ _ hrw).trans xr
    have hS0 : X.drew.cell? ⟨w.heap.size, 0, none⟩ = some (.pointer (some ⟨r, 0, none⟩)) := xr
    have hlk : Like (X.setCell ⟨r, 3, none⟩ (.slice a m c)).drew (X.setCell ⟨r, 3, none⟩ (.slice a m c)) := ⟨rfl, rfl, rfl, rfl⟩
    have hgb := grownBy_putObj' (X.setCell ⟨r, 3, none⟩ (.slice a m c)).drew W2.heap.size (.deferred none)
    have hU2 := (hU.like hlk).grown hgb (fun r e => by cases e; exact ⟨_, hD1, rfl⟩)
    have hUk2 : Keeps (ROwn r v1 v2 Ot) w ((X.setCell ⟨r, 3, none⟩ (.slice a m c)).drew.putObj W2.heap.size (.deferred none)) := (hk.step (hlk.keeps hUk) (fun q _ e => hO q e)).step (keeps_grown hgb) (fun q hq e => by injection e with e; omega)
    have hend : Hid (∃ v1' v2' K' Ot', RedoAt ((X.setCell ⟨r, 3, none⟩ (.slice a m c)).drew.putObj W2.heap.size (.deferred none)) r most (redoE (L.take m)) (redoU (L.take m)) v1' v2' bt p K' vf Ot' ∧ (∀ q, ROwn r v1' v2' Ot' q → ROwn r v1 v2 Ot q) ∧ Keeps (ROwn r v1 v2 Ot) w ((X.setCell ⟨r, 3, none⟩ (.slice a m c)).drew.putObj W2.heap.size (.deferred none))) :=
      ⟨_, _, _, _, hU2, fun q hq => hO q (hUo q hq), hUk2⟩
    clear hR hU hUk hU2 hUk2 hgb hlk hk hbx hB hA2 hk2 hLm hys hO h
    gi_wp2
    refine wpIn_wide.2 ?_
    refine wp_held_end (S := fun W => W.cell? ⟨w.heap.size, 0, none⟩ = some (.pointer (some ⟨r, 0, none⟩))) 10 rfl hmx ?_
    refine held_take (i := 0) (v := .pointer (some ⟨r, 0, none⟩)) 33 rfl rfl (by kernel_rfl) (by kernel_rfl) (by kernel_rfl) rfl (fun w' hw' => by go_simp) hS0 ?_
    simp only [Act.put, List.setIfInBounds_toArray, List.set_cons_zero, List.set_cons_succ]
    refine held_take (i := 1) (v := .pointer (some ⟨r, 0, none⟩)) 34 rfl rfl (by kernel_rfl) (by kernel_rfl) (by kernel_rfl) rfl (fun w' hw' => by go_simp) hS0 ?_
    simp only [Act.put, List.setIfInBounds_toArray, List.set_cons_zero, List.set_cons_succ]
    refine held_take (i := 2) (v := .pointer (some ⟨r, 0, none⟩)) 35 rfl rfl (by kernel_rfl) (by kernel_rfl) (by kernel_rfl) rfl (fun w' hw' => by go_simp) hS0 ?_
    simp only [Act.put, List.setIfInBounds_toArray, List.set_cons_zero, List.set_cons_succ]
    refine held_take (i := 3) (v := .pointer (some ⟨r, 3, none⟩)) 36 rfl rfl (by kernel_rfl) (by kernel_rfl) (by kernel_rfl) rfl (fun w' hw' => by go_simp) hS0 ?_
    simp only [Act.put, List.setIfInBounds_toArray, List.set_cons_zero, List.set_cons_succ]
    refine held_take (i := 5) (v := .int .i64 m) 38 rfl rfl (by kernel_rfl) (by kernel_rfl) (by kernel_rfl) rfl (fun w' hw' => by go_simp) hS0 ?_
    simp only [Act.put, List.setIfInBounds_toArray, List.set_cons_zero, List.set_cons_succ]
    refine held_val (i := 4) (v := .slice a L.length c) (w' := X.drew) (some 37) (by kernel_rfl) rfl rfl rfl (by go_simp) hS0 ?_
    simp only [Act.put, List.setIfInBounds_toArray, List.set_cons_zero, List.set_cons_succ]
    refine held_take (i := 6) (v := .slice a m c) 39 rfl rfl (by kernel_rfl) (by kernel_rfl) (by kernel_rfl) rfl (fun w' hw' => by go_simp) hS0 ?_
    simp only [Act.put, List.setIfInBounds_toArray, List.set_cons_zero, List.set_cons_succ]
    refine held_take (i := 7) (v := .pointer (some ⟨r, 0, none⟩)) 40 rfl rfl (by kernel_rfl) (by kernel_rfl) (by kernel_rfl) rfl (fun w' hw' => by go_simp) hS0 ?_
    simp only [Act.put, List.setIfInBounds_toArray, List.set_cons_zero, List.set_cons_succ]
    refine held_take (i := 8) (v := .pointer (some ⟨r, 3, none⟩)) 41 rfl rfl (by kernel_rfl) (by kernel_rfl) (by kernel_rfl) rfl (fun w' hw' => by go_simp) hS0 ?_
    simp only [Act.put, List.setIfInBounds_toArray, List.set_cons_zero, List.set_cons_succ]
    refine held_none (i := 9) (w' := (X.setCell ⟨r, 3, none⟩ (.slice a m c)).drew) (by kernel_rfl) rfl rfl rfl (by go_simp) hS1 ?_
    refine held_end (by kernel_rfl) ?_ _
    gi_wp2
    refine ⟨by simp, .inl ⟨_, _, rfl, run_takeDeferred hD1, ?_⟩⟩
    exact ⟨_, by simp [results, Tryd.f34, go_sem], rfl, hend.out⟩
  case body =>
    rintro l pre x X ⟨⟨v1', K', Ot', hR, hO⟩, hbx, hk⟩ hlen hnx b hb hb1 hb2
    obtain ⟨c1, y1, hLi⟩ := hLm pre.length hlen
    have hNe := HN.out
    obtain ⟨i, hi⟩ : ∃ i, L.length - pre.length - 1 = i := ⟨_, rfl⟩
    rw [hi] at hLi
    have hil : L.length - pre.length = i + 1 := by omega
    have hx2 : x.2 = ptOf (redoE (L.take i)) c1 := by
      rw [hnx]
      show (redoU L)[m + (N - 1 - pre.length)]?.getD _ = _
      rw [show m + (N - 1 - pre.length) = i by omega, redoU_at hLi]
      rfl
    rw [hil, take_succ_at hLi, redoE_snoc] at hR
    have hXz : Tz X := hw.keeps hk (fun e => by have := h0 0 e; omega)
    have htb := takeBack_any r most bt p _ _ v1' v2 K' vf Ot' c1 y1 X hR hXz
    rw [← hx2] at htb
    have e0 : X.cell? ⟨b, 0, none⟩ = some (.bool x.2.came) := cell_of_block hb 0
    have e1 : X.cell? ⟨b, 1, none⟩ = some (.int .i64 x.2.place) := cell_of_block hb 1
    have e2 : X.cell? ⟨b, 2, none⟩ = some (.int .u64 x.2.word) := cell_of_block hb 2
    have xr := hbx.cell
    dsimp only [ptV] at htb
    have HI : Hid (L.length - (pre.length + 1) = i) := by unfold Hid; omega
    clear hnx hx2 hi hil hNe hLi
    gi_wp2
    refine ⟨trivial, (CallsIn.inRound l (callsIn_wide.2 htb)).mono ?_⟩
    rintro e w5 ⟨⟨u, rfl⟩, v1'', K'', Ot'', hR5, hO5, hk5⟩
    have hfin : Hid (KeepsFrom W2.heap.size X w5 ∧ KeptOn (BackOn (w.heap.size + 1) a2) X w5 ∧ ((∃ v1' K' Ot', RedoAt w5 r most (redoE (L.take (L.length - (pre ++ [x]).length))) (redoU L) v1' v2 bt p K' vf Ot' ∧ ∀ q, ROwn r v1' v2 Ot' q → ROwn r v1 v2 Ot q) ∧ Boxed w5 w.heap.size 50 (.pointer (some ⟨r, 0, none⟩)) ∧ Keeps (ROwn r v1 v2 Ot) w w5)) := by
      refine ⟨⟨hk5.size, fun k o _ hk1 ho => hk5.old hk1 (fun e => ?_)⟩, ⟨hk5.size, fun k cc t fr hS hc => hk5.old hc (fun e => ?_)⟩, ⟨v1'', K'', Ot'', ?_, fun q hq => hO q (hO5 q hq)⟩, hk5.old hbx (fun e => ?_), hk.step hk5 (fun q _ e => hO q e.own)⟩
      · obtain ⟨cc, t, fr, h1⟩ := hR.cells (e.own (v2 := v2))
        rw [h1] at hk1
        cases hk1
        cases ho
      · rcases hS with rfl | ⟨off, hS⟩
        · have := hlt _ (hO _ (e.own (v2 := v2)))
          omega
        · have h2 := ha2 k off hS
          have h3 := hR.ne2 h2
          rcases e with e | e | e
          · exact h3.1 e
          · exact h3.2.1 e
          · exact h3.2.2 e
      · rw [List.length_append, List.length_singleton, HI.out]
        exact hR5
      · have := hlt _ (hO _ (e.own (v2 := v2)))
        omega
    clear hR hXz htb e0 e1 e2 xr hR5 hO5 hk5 hk hbx
    gi_wp2
    exact hfin.out
end Go.Proofs.YtbgnlenhncbceaaDoor
