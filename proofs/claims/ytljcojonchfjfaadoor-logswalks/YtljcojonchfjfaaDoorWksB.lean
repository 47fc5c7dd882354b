
/-
  The walk of LogsWalks over inputs that lie in memory. The statement itself is not proved here.
-/
import Derived.Test.YtljcojonchfjfaaDoorCutA
namespace Go.Proofs.YtljcojonchfjfaaDoor
open Go.RowKit Go.Shelf
attribute [local go_sem] Oper.semAt_some

theorem calls_with {f : Nat} {args : Array Value} {W0 : World} {P : World → Prop} {u : Value} (S : World → Prop) (h : Calls Tryd.prog f args W0 fun e w4 => e = .returned u ∧ P w4) (hS : ∀ W, P W → S W) : Calls Tryd.prog f args W0 fun e w4 => e = .returned u ∧ S w4 ∧ Hid (P w4) :=
  h.mono fun _ w4 ⟨h1, h2⟩ => ⟨h1, hS w4 h2, h2⟩

theorem far_set {W : World} {b c : Nat} {v u : Value} (hb : W.cell? ⟨b, 0, none⟩ = some v) (hc : W.cell? ⟨c, 0, none⟩ = some u) (hn : u ≠ v) (x : Value) : (W.setCell ⟨c, 0, none⟩ x).cell? ⟨b, 0, none⟩ = some v :=
  (World.cell?_setCell_far W ⟨c, 0, none⟩ ⟨b, 0, none⟩ x (fun e => by
    have e' : c = b := e
    rw [e', hb] at hc
    exact hn (Option.some.inj hc).symm)).trans hb

set_option maxRecDepth 100000 in
set_option maxHeartbeats 4000000 in
theorem walks_walk (va vb : Value) (ps qs : List (Int × Int)) (w : World) (hw : Tz w) (ha : Pairs w va ps) (hb : Pairs w vb qs) (hal : ps.length ≤ 35184372088832) (hbl : qs.length ≤ 35184372088832) :
    Calls Tryd.prog 5 #[va, vb] w fun e w' => e = .returned (.bool true) ∧ Keeps (fun _ => False) w w' := by
  have hp := hw.pos
  obtain ⟨a1, ca, rfl, hca⟩ := id ha
  obtain ⟨b1, cb, rfl, hcb⟩ := id hb
  clear hca hcb
  have hk1 : Keeps (fun _ => False) w (((w.alloc (.cells #[.slice a1 ps.length ca] 29)).alloc (.cells #[.slice b1 qs.length cb] 29)).alloc (.cells #[.bool false] 4)) := (((Keeps.refl _ w).alloc _).alloc _).alloc _
  have e0 := alloc_old (alloc_old (alloc_block w (.cells #[.slice a1 ps.length ca] 29)) (.cells #[.slice b1 qs.length cb] 29)) (.cells #[.bool false] 4)
  have e1 := alloc_old (alloc_block (w.alloc (.cells #[.slice a1 ps.length ca] 29)) (.cells #[.slice b1 qs.length cb] 29)) (.cells #[.bool false] 4)
  have e2 := alloc_block ((w.alloc (.cells #[.slice a1 ps.length ca] 29)).alloc (.cells #[.slice b1 qs.length cb] 29)) (.cells #[.bool false] 4)
  simp only [World.size_alloc] at e1 e2
  refine (callsIn_wide (n := 6)).1 ?_
  refine callsIn_of_wp_marks Tryd.func5 rfl trivial ?_ rfl
  simp only [Tryd.ntmps5, List.size_toArray, List.length_cons, List.length_nil, Nat.reduceAdd, Nat.reduceSub, Array.replicate_succ, Array.replicate_zero, List.push_toArray, List.append_toArray, List.nil_append, List.cons_append]
  gi_wp2_with fail
  generalize ((w.alloc (.cells #[.slice a1 ps.length ca] 29)).alloc (.cells #[.slice b1 qs.length cb] 29)).alloc (.cells #[.bool false] 4) = w1 at *
  refine ⟨trivial, (callsIn_wide.2 (rlog_new 1000000 (by decide) w1)).mono ?_⟩
  rintro e w2 ⟨r, rfl, ⟨Or, hR, hOr⟩, hk2⟩
  have hs1 := hk1.size
  have hs2 := hk2.size
  have hk3 : Keeps (fun _ => False) w2 (w2.alloc (.cells #[.pointer (some ⟨r, 0, none⟩)] 23)) := (Keeps.refl _ w2).alloc _
  have e5 := alloc_block w2 (.cells #[.pointer (some ⟨r, 0, none⟩)] 23)
  have hz3 : (w2.alloc (.cells #[.pointer (some ⟨r, 0, none⟩)] 23)).heap.size = w2.heap.size + 1 := by simp
  gi_wp2_with fail
  generalize w2.alloc (.cells #[.pointer (some ⟨r, 0, none⟩)] 23) = w3 at *
  refine ⟨trivial, (callsIn_wide.2 (log_new 1000000 (by decide) w3 (by omega))).mono ?_⟩
  rintro e w4 ⟨q, rfl, ⟨Ow, hL, hOw⟩, hk4⟩
  have hs4 := hk4.size
  have hk5 : Keeps (fun _ => False) w4 (w4.alloc (.cells #[.pointer (some ⟨q, 0, none⟩)] 50)) := (Keeps.refl _ w4).alloc _
  have e7 := alloc_block w4 (.cells #[.pointer (some ⟨q, 0, none⟩)] 50)
  have hz5 : (w4.alloc (.cells #[.pointer (some ⟨q, 0, none⟩)] 50)).heap.size = w4.heap.size + 1 := by simp
  have hbl4 := lt_of_block e2
  have k15 := ((hk2.trans hk3).trans hk4).trans hk5
  have x2 := cell_of_block (k15.old e0 (fun f => f)) 0
  have x3 := cell_of_block (k15.old e1 (fun f => f)) 0
  have x4 := cell_of_block (k15.old e2 (fun f => f)) 0
  have y4 := frozen_of_block (k15.old e2 (fun f => f)) 0
  have x5 := cell_of_block ((hk4.trans hk5).old e5 (fun f => f)) 0
  have x7 := cell_of_block e7 0
  simp only [List.getElem?_toArray, List.getElem?_cons_zero] at x2 x3 x4 x5 x7
  have hkp5 := hk1.trans k15
  by_cases hla : ps.length ≤ 1000
  · by_cases hlb : qs.length ≤ 1000
    · have hk6 : Keeps (fun _ => False) (w4.alloc (.cells #[.pointer (some ⟨q, 0, none⟩)] 50)) ((w4.alloc (.cells #[.pointer (some ⟨q, 0, none⟩)] 50)).alloc (.cells #[.int .i64 1000000, .slice none 0 0] 36)) := (Keeps.refl _ _).alloc _
      have e9 := alloc_block (w4.alloc (.cells #[.pointer (some ⟨q, 0, none⟩)] 50)) (.cells #[.int .i64 1000000, .slice none 0 0] 36)
      rw [hz5] at e9
      have k36 := (hk4.trans hk5).trans hk6
      have k16 := k15.trans hk6
      have hWk : Wk w ((w4.alloc (.cells #[.pointer (some ⟨q, 0, none⟩)] 50)).alloc (.cells #[.int .i64 1000000, .slice none 0 0] 36)) [(w.heap.size, Obj.cells #[.slice a1 ps.length ca] 29 (0, 0)), (w.heap.size + 1, Obj.cells #[.slice b1 qs.length cb] 29 (0, 0)), (w2.heap.size, Obj.cells #[.pointer (some ⟨r, 0, none⟩)] 23 (0, 0)), (w4.heap.size, Obj.cells #[.pointer (some ⟨q, 0, none⟩)] 50 (0, 0)), (w.heap.size + 1 + 1, Obj.cells #[.bool false] 4 (0, 0))] r [] q [] (w4.heap.size + 1) [] Or Ow (fun k => k = w4.heap.size + 1) := by
        refine ⟨?_, ?_, ?_, (hR.kept hk3 (fun _ _ f => f)).kept k36 (fun _ _ f => f), (hL.kept hk5 (fun _ _ f => f)).kept hk6 (fun _ _ f => f), ⟨_, ⟨e9, row_nil _ _ _⟩, fun k => by simp [Value.ownBlock]⟩, fun k hk => Nat.le_trans hs1 (hOr k hk), fun k hk => by have := hOw k hk; omega, fun k hk => by omega, ?_, fun k hk e => by have := hR.lt hk; have := hOw k e; omega, fun k hk e => by have := hR.lt hk; omega, fun k hk e => by have := hL.lt hk; omega, hkp5.trans hk6⟩
        · intro b o hb
          simp at hb
          rcases hb with ⟨rfl, rfl⟩ | ⟨rfl, rfl⟩ | ⟨rfl, rfl⟩ | ⟨rfl, rfl⟩ | ⟨rfl, rfl⟩
          · exact k16.old e0 (fun f => f)
          · exact k16.old e1 (fun f => f)
          · exact k36.old e5 (fun f => f)
          · exact hk6.old e7 (fun f => f)
          · exact k16.old e2 (fun f => f)
        · intro b o hb
          simp at hb
          rcases hb with ⟨rfl, rfl⟩ | ⟨rfl, rfl⟩ | ⟨rfl, rfl⟩ | ⟨rfl, rfl⟩ | ⟨rfl, rfl⟩ <;> rfl
        · intro b o hb
          simp at hb
          rcases hb with ⟨rfl, rfl⟩ | ⟨rfl, rfl⟩ | ⟨rfl, rfl⟩ | ⟨rfl, rfl⟩ | ⟨rfl, rfl⟩ <;> omega
        · intro b o hb
          have l0 := lt_of_block e0
          have l1 := lt_of_block e1
          simp at hb
          rcases hb with ⟨rfl, rfl⟩ | ⟨rfl, rfl⟩ | ⟨rfl, rfl⟩ | ⟨rfl, rfl⟩ | ⟨rfl, rfl⟩
          · exact ⟨fun e => by have := hOr _ e; omega, fun e => by have := hOw _ e; omega, by omega⟩
          · exact ⟨fun e => by have := hOr _ e; omega, fun e => by have := hOw _ e; omega, by omega⟩
          · exact ⟨fun e => by have := hR.lt e; omega, fun e => by have := hOw _ e; omega, by omega⟩
          · exact ⟨fun e => by have := hR.lt e; omega, fun e => by have := hL.lt e; omega, by omega⟩
          · exact ⟨fun e => by have := hOr _ e; omega, fun e => by have := hOw _ e; omega, by omega⟩
      have hW7 := hWk.box 34 (.pointer (some ⟨w4.heap.size + 1, 0, none⟩))
      have hz6 : ((w4.alloc (.cells #[.pointer (some ⟨q, 0, none⟩)] 50)).alloc (.cells #[.int .i64 1000000, .slice none 0 0] 36)).heap.size = w4.heap.size + 1 + 1 := by simp
      rw [hz6] at hW7
      clear hWk e0 e1 e2 e5 e7 e9 k15 k16 k36 hk1 hk2 hk3 hk4 hk5 hk6 hR hL hOr hOw hs1 hs2 hs4 hz3 hbl4 y4 hz6
      gi_wp2_with fail
      clear x2 x3 x4 x5 x7 hz5 hkp5
      generalize ((w4.alloc (.cells #[.pointer (some ⟨q, 0, none⟩)] 50)).alloc (.cells #[.int .i64 1000000, .slice none 0 0] 36)).alloc (.cells #[.pointer (some ⟨w4.heap.size + 1, 0, none⟩)] 34) = w7 at *
      obtain ⟨b2, hb2⟩ : ∃ b, w.heap.size = b := ⟨_, rfl⟩
      obtain ⟨b5, hb5⟩ : ∃ b, w2.heap.size = b := ⟨_, rfl⟩
      obtain ⟨b7, hb7⟩ : ∃ b, w4.heap.size = b := ⟨_, rfl⟩
      rw [hb7, hb5, hb2] at hW7
      rw [hb7, hb5, hb2]
      have HB2 : Hid (w.heap.size = b2) := hb2
      clear hb2 hb5 hb7
      obtain ⟨BB, hBB⟩ : ∃ BB : List (Nat × Obj), ([(b7 + 1 + 1, Obj.cells #[.pointer (some ⟨b7 + 1, 0, none⟩)] 34 (0, 0)), (b2, Obj.cells #[.slice a1 ps.length ca] 29 (0, 0)), (b2 + 1, Obj.cells #[.slice b1 qs.length cb] 29 (0, 0)), (b5, Obj.cells #[.pointer (some ⟨r, 0, none⟩)] 23 (0, 0)), (b7, Obj.cells #[.pointer (some ⟨q, 0, none⟩)] 50 (0, 0)), (b2 + 1 + 1, Obj.cells #[.bool false] 4 (0, 0))] : List (Nat × Obj)) = BB := ⟨_, rfl⟩
      have m9 : (b7 + 1 + 1, Obj.cells #[Value.pointer (some ⟨b7 + 1, 0, none⟩)] 34 (0, 0)) ∈ BB := by rw [← hBB]; simp
      have m2 : (b2, Obj.cells #[Value.slice a1 ps.length ca] 29 (0, 0)) ∈ BB := by rw [← hBB]; simp
      have m3 : (b2 + 1, Obj.cells #[Value.slice b1 qs.length cb] 29 (0, 0)) ∈ BB := by rw [← hBB]; simp
      have m5 : (b5, Obj.cells #[Value.pointer (some ⟨r, 0, none⟩)] 23 (0, 0)) ∈ BB := by rw [← hBB]; simp
      have m7 : (b7, Obj.cells #[Value.pointer (some ⟨q, 0, none⟩)] 50 (0, 0)) ∈ BB := by rw [← hBB]; simp
      have m4 : (b2 + 1 + 1, Obj.cells #[Value.bool false] 4 (0, 0)) ∈ BB := by rw [← hBB]; simp
      rw [hBB] at hW7
      clear hBB
      gi_loopw [10] (fun i wr => ∃ k Or Ow Of, k ≤ ps.length ∧ i = .int .i64 (k : Nat) ∧ Wk w wr BB r (ps.take k) q (ps.take k) (b7 + 1) (ps.take k) Or Ow Of) (fun i _ => ps.length - (intOf i).toNat)
      case atStart => exact ⟨0, _, _, _, by omega, rfl, hW7⟩
      case round =>
        clear hW7
        obtain ⟨k, Or1, Ow1, Of1, hk, rfl, hW⟩ := hrel
        have c2 := hW.cell m2
        by_cases hlt : k < ps.length
        · obtain ⟨g, off, x, y, rfl, hx, HC⟩ := ha.fixed hlt
          have HX : Hid (ps[k]? = some (x, y)) := hx
          have hl1 : (ps.take k).length < 1000000 := by rw [List.length_take]; omega
          have hlt' : (k : Int) < (ps.length : Int) := by omega
          clear hx
          have hS : (fun W => W.cell? ⟨b5, 0, none⟩ = some (.pointer (some ⟨r, 0, none⟩)) ∧ W.cell? ⟨b2, 0, none⟩ = some (.slice (some ⟨g, off, none⟩) ps.length ca) ∧ W.cell? ⟨g, off + k * 2, none⟩ = some (.int .u64 x) ∧ W.cell? ⟨g, off + k * 2 + 1, none⟩ = some (.int .u64 y)) wr := ⟨hW.cell m5, hW.cell m2, HC.out _ hW.kp⟩
          have hput := fun W0 hl => calls_with (fun W => W.cell? ⟨b5, 0, none⟩ = some (.pointer (some ⟨r, 0, none⟩)) ∧ W.cell? ⟨b2, 0, none⟩ = some (.slice (some ⟨g, off, none⟩) ps.length ca) ∧ W.cell? ⟨g, off + k * 2, none⟩ = some (.int .u64 x) ∧ W.cell? ⟨g, off + k * 2 + 1, none⟩ = some (.int .u64 y)) (hW.add hl1 x y W0 hl) (fun W h => by obtain ⟨_, h'⟩ := h; exact ⟨h'.cell m5, h'.cell m2, HC.out _ h'.kp⟩)
          gi_wp2_with fail
          refine wpIn_wide.2 ?_
          go_region_held3 (fun W => W.cell? ⟨b5, 0, none⟩ = some (.pointer (some ⟨r, 0, none⟩)) ∧ W.cell? ⟨b2, 0, none⟩ = some (.slice (some ⟨g, off, none⟩) ps.length ca) ∧ W.cell? ⟨g, off + k * 2, none⟩ = some (.int .u64 x) ∧ W.cell? ⟨g, off + k * 2 + 1, none⟩ = some (.int .u64 y)) (first | assumption | (exact hS) | go_keep) ((go_at_call 28; refine (hput _ (by exact ⟨rfl, rfl, rfl, rfl⟩)).mono ?_; rintro e w8 ⟨rfl, hS', hH⟩))
          obtain ⟨Or2, hW8⟩ := hH.out
          clear hput hH hS hS'
          clear c2
          have hS : (fun W => W.cell? ⟨b7, 0, none⟩ = some (.pointer (some ⟨q, 0, none⟩)) ∧ W.cell? ⟨b2, 0, none⟩ = some (.slice (some ⟨g, off, none⟩) ps.length ca) ∧ W.cell? ⟨g, off + k * 2, none⟩ = some (.int .u64 x) ∧ W.cell? ⟨g, off + k * 2 + 1, none⟩ = some (.int .u64 y)) w8 := ⟨hW8.cell m7, hW8.cell m2, HC.out _ hW8.kp⟩
          have hput := fun W0 hl => calls_with (fun W => W.cell? ⟨b7, 0, none⟩ = some (.pointer (some ⟨q, 0, none⟩)) ∧ W.cell? ⟨b2, 0, none⟩ = some (.slice (some ⟨g, off, none⟩) ps.length ca) ∧ W.cell? ⟨g, off + k * 2, none⟩ = some (.int .u64 x) ∧ W.cell? ⟨g, off + k * 2 + 1, none⟩ = some (.int .u64 y)) (hW8.put hw hl1 x y W0 hl) (fun W h => by obtain ⟨_, h', _⟩ := h; exact ⟨h'.cell m7, h'.cell m2, HC.out _ h'.kp⟩)
          gi_wp2_with fail
          refine wpIn_wide.2 ?_
          go_region_held3 (fun W => W.cell? ⟨b7, 0, none⟩ = some (.pointer (some ⟨q, 0, none⟩)) ∧ W.cell? ⟨b2, 0, none⟩ = some (.slice (some ⟨g, off, none⟩) ps.length ca) ∧ W.cell? ⟨g, off + k * 2, none⟩ = some (.int .u64 x) ∧ W.cell? ⟨g, off + k * 2 + 1, none⟩ = some (.int .u64 y)) (first | assumption | (exact hS) | go_keep) ((go_at_call 29; refine (hput _ (by exact ⟨rfl, rfl, rfl, rfl⟩)).mono ?_; rintro e w9 ⟨rfl, hS', hH⟩))
          obtain ⟨Ow2, hW9, _⟩ := hH.out
          clear hput hH hS hS'
          have hS : (fun W => W.cell? ⟨b7 + 1 + 1, 0, none⟩ = some (.pointer (some ⟨b7 + 1, 0, none⟩)) ∧ W.cell? ⟨b2, 0, none⟩ = some (.slice (some ⟨g, off, none⟩) ps.length ca) ∧ W.cell? ⟨g, off + k * 2, none⟩ = some (.int .u64 x) ∧ W.cell? ⟨g, off + k * 2 + 1, none⟩ = some (.int .u64 y)) w9 := ⟨hW9.cell m9, hW9.cell m2, HC.out _ hW9.kp⟩
          have hput := fun W0 hl => calls_with (fun W => W.cell? ⟨b7 + 1 + 1, 0, none⟩ = some (.pointer (some ⟨b7 + 1, 0, none⟩)) ∧ W.cell? ⟨b2, 0, none⟩ = some (.slice (some ⟨g, off, none⟩) ps.length ca) ∧ W.cell? ⟨g, off + k * 2, none⟩ = some (.int .u64 x) ∧ W.cell? ⟨g, off + k * 2 + 1, none⟩ = some (.int .u64 y)) (hW9.fput hl1 x y W0 hl) (fun W h => by obtain ⟨_, h', _⟩ := h; exact ⟨h'.cell m9, h'.cell m2, HC.out _ h'.kp⟩)
          gi_wp2_with fail
          refine wpIn_wide.2 ?_
          go_region_held3 (fun W => W.cell? ⟨b7 + 1 + 1, 0, none⟩ = some (.pointer (some ⟨b7 + 1, 0, none⟩)) ∧ W.cell? ⟨b2, 0, none⟩ = some (.slice (some ⟨g, off, none⟩) ps.length ca) ∧ W.cell? ⟨g, off + k * 2, none⟩ = some (.int .u64 x) ∧ W.cell? ⟨g, off + k * 2 + 1, none⟩ = some (.int .u64 y)) (first | assumption | (exact hS) | go_keep) ((go_at_call 30; refine (hput _ (by exact ⟨rfl, rfl, rfl, rfl⟩)).mono ?_; rintro e w10 ⟨rfl, hS', hH⟩))
          obtain ⟨Of2, hW10, _⟩ := hH.out
          clear hput hH hS hS'
          rw [← take_succ_at HX.out] at hW10
          gi_wp2_with fail
          go_roundw
          case rel => exact ⟨k + 1, _, _, _, by omega, by go_num, hW10⟩
          case measure => simp [intOf]; omega
        · obtain rfl : k = ps.length := by omega
          rw [List.take_length] at hW
          clear hlt hk
          obtain ⟨W0, hW0⟩ : ∃ W, W = wr := ⟨_, rfl⟩
          subst hW0
          have x5 := hW.cell m5
          have hnn := seq_not_nil
          have hltW0 := fun k (hk : Or1 k ∨ Ow1 k ∨ Of1 k) => hW.lt hk
          gi_wp2_with fail
          refine ⟨trivial, (callsIn_wide.2 (all_reads _ _)).mono ?_⟩
          rintro e w' ⟨rfl, rfl⟩
          have hW1 := hW.box 69 (Value.func (.func 42) #[.pointer (some ⟨r, 0, none⟩)] #[])
          have x7 := hW1.cell (List.mem_cons_of_mem _ m7)
          have hz1 : (W0.alloc (.cells #[Value.func (.func 42) #[.pointer (some ⟨r, 0, none⟩)] #[]] 69)).heap.size = W0.heap.size + 1 := by simp
          clear hW x5 c2
          gi_wp2_with fail
          generalize W0.alloc (.cells #[Value.func (.func 42) #[.pointer (some ⟨r, 0, none⟩)] #[]] 69) = X1 at *
          refine ⟨trivial, (callsIn_wide.2 (all_redo _ _)).mono ?_⟩
          rintro e w' ⟨rfl, rfl⟩
          have hW2 := hW1.box 69 (Value.func (.func 48) #[.pointer (some ⟨q, 0, none⟩)] #[])
          rw [hz1] at hW2 ⊢
          have hz2 : (X1.alloc (.cells #[Value.func (.func 48) #[.pointer (some ⟨q, 0, none⟩)] #[]] 69)).heap.size = W0.heap.size + 2 := by simp; omega
          have x9 := hW2.cell (List.mem_cons_of_mem _ (List.mem_cons_of_mem _ m9))
          clear hW1 x7
          gi_wp2_with fail
          generalize X1.alloc (.cells #[Value.func (.func 48) #[.pointer (some ⟨q, 0, none⟩)] #[]] 69) = X2 at *
          obtain ⟨vF, hF, hFo⟩ := id hW2.rf
          refine ⟨trivial, (callsIn_wide.2 (ref_redo _ 1000000 ps vF X2 hF (by omega))).mono ?_⟩
          rintro e X3 ⟨vo, rfl, hrow, hnew, hk3⟩
          obtain ⟨ao, co, hvo, _, _⟩ := hrow.form
          subst hvo
          have hs3 := hk3.size
          obtain ⟨B3, hW3, hsub3, HWT⟩ := (hW2.same hk3).rowed hrow (fun g hg => by
            have h1 := hnew g hg
            refine ⟨by have := hW2.kp.size; omega, fun e => ?_, fun e => ?_, fun e => ?_⟩
            · have := hltW0 g (.inl e); omega
            · have := hltW0 g (.inr (.inl e)); omega
            · have := hltW0 g (.inr (.inr e)); omega)
          have hW4 := hW3.box 29 (.slice ao (redoE ps).length co)
          have hz4 : (X3.alloc (.cells #[.slice ao (redoE ps).length co] 29)).heap.size = X3.heap.size + 1 := by simp
          clear hF hFo hrow hnew hW2 x9 hk3
          obtain ⟨B4, hB4⟩ : ∃ B4, (X3.heap.size, Obj.cells #[.slice ao (redoE ps).length co] 29 (0, 0)) :: B3 = B4 := ⟨_, rfl⟩
          have hsub : ∀ e, e ∈ BB → e ∈ B4 := fun e he => by rw [← hB4]; exact List.mem_cons_of_mem _ (hsub3 e (List.mem_cons_of_mem _ (List.mem_cons_of_mem _ he)))
          have mr : (W0.heap.size, Obj.cells #[Value.func (.func 42) #[.pointer (some ⟨r, 0, none⟩)] #[]] 69 (0, 0)) ∈ B4 := by rw [← hB4]; exact List.mem_cons_of_mem _ (hsub3 _ (List.mem_cons_of_mem _ (List.mem_cons_self ..)))
          have mw : (W0.heap.size + 1, Obj.cells #[Value.func (.func 48) #[.pointer (some ⟨q, 0, none⟩)] #[]] 69 (0, 0)) ∈ B4 := by rw [← hB4]; exact List.mem_cons_of_mem _ (hsub3 _ (List.mem_cons_self ..))
          have mt : (X3.heap.size, Obj.cells #[.slice ao (redoE ps).length co] 29 (0, 0)) ∈ B4 := by rw [← hB4]; exact List.mem_cons_self ..
          have HWT4 : Hid (∀ Y : World, (∀ b o, (b, o) ∈ B4 → Y.heap[b]? = some o) → Row Y 72 2 (.slice ao (redoE ps).length co) (redoE ps).length (entV (redoE ps))) := fun Y hY => HWT.out Y (fun b o hb => hY b o (by rw [← hB4]; exact List.mem_cons_of_mem _ hb))
          rw [hB4] at hW4
          clear hB4 hW3 hsub3 HWT
          replace m2 := hsub _ m2
          replace m3 := hsub _ m3
          replace m4 := hsub _ m4
          replace m5 := hsub _ m5
          replace m7 := hsub _ m7
          replace m9 := hsub _ m9
          clear hsub
          have hW5 := hW4.same (X' := (X3.alloc (.cells #[.slice ao (redoE ps).length co] 29)).alloc (.cells #[.int .i64 0] 3)) ((Keeps.refl _ _).alloc _)
          have hn5 := alloc_block (X3.alloc (.cells #[.slice ao (redoE ps).length co] 29)) (.cells #[.int .i64 0] 3)
          have hz5 : ((X3.alloc (.cells #[.slice ao (redoE ps).length co] 29)).alloc (.cells #[.int .i64 0] 3)).heap.size = X3.heap.size + 2 := by simp
          rw [hz4] at hn5
          have hbne : ∀ b o, (b, o) ∈ B4 → b ≠ X3.heap.size + 1 := fun b o hb e => by have := hW4.blt hb; omega
          have hsW0 : W0.heap.size + 2 ≤ X3.heap.size := by omega
          clear hW4
          gi_wp2_with fail
          generalize (X3.alloc (.cells #[.slice ao (redoE ps).length co] 29)).alloc (.cells #[.int .i64 0] 3) = X5 at *
          obtain ⟨bn, hbn⟩ : ∃ b, X3.heap.size + 1 = b := ⟨_, rfl⟩
          obtain ⟨b13, hb13⟩ : ∃ b, X3.heap.size = b := ⟨_, rfl⟩
          obtain ⟨o1, ho1⟩ : ∃ b, W0.heap.size = b := ⟨_, rfl⟩
          rw [hbn] at hn5 hbne ⊢
          rw [ho1] at mr mw hsW0 hltW0 ⊢
          rw [hb13] at mt hsW0 hbn hz5 ⊢
          have HN : Hid (b13 + 1 = bn ∧ X5.heap.size = b13 + 2 ∧ o1 + 2 ≤ b13) := ⟨hbn, hz5, hsW0⟩
          clear hbn hb13 ho1 hz4 hz1 hz2 hs3
          obtain ⟨vR, hRA, hRO⟩ := id hW5.rl
          obtain ⟨aR, cR, hvR, hcR, _⟩ := hRA.ents.form
          have hrO : Or1 r := (hRO r).2 (.inl rfl)
          have hrlt : r < o1 := hltW0 r (.inl hrO)
          have hmx : Tryd.prog.follows .mixedOrders = true := by kernel_rfl
          have hbr : ∀ b o, (b, o) ∈ B4 → b ≠ r := fun b o hb e => (hW5.bo b o hb).1 (e ▸ hrO)
          have hnO : ¬ Or1 bn ∧ ¬ Ow1 bn ∧ ¬ Of1 bn := ⟨fun e => by have := hltW0 _ (.inl e); have := HN.out; omega, fun e => by have := hltW0 _ (.inr (.inl e)); have := HN.out; omega, fun e => by have := hltW0 _ (.inr (.inr e)); have := HN.out; omega⟩
          have hbnr : bn ≠ r := by have := HN.out; omega
          have hwbn : w.heap.size ≤ bn := by have := hW5.bn _ _ mt; have := HN.out; omega
          have hh : ∀ W, Below X5.heap.size X5 W → W.heap.size = X5.heap.size + 2 → Calls Tryd.prog 42 #[.pointer (some ⟨r, 0, none⟩)] W fun e w' => ∃ a c, e = .returned (.slice a ps.length c) ∧ ListAt (fun k => vR.ownBlock = some k) w' a ps ∧ Keeps (fun _ => False) W w' ∧ (0 < ps.length → 0 ≤ w'.heap.size) := fun W hW _ => by
            have hRW := hRA.kept (Keeps.of_below hW (fun _ => False)) (fun f => f) (fun _ _ f => f)
            have c2 := hRW.c2
            rw [hvR] at c2
            refine (reads_handed r _ cR aR W c2 hcR).mono ?_
            rintro e w' ⟨rfl, rfl⟩
            have hrow := hRW.ents
            rw [hvR] at hrow
            exact ⟨aR, _, rfl, hrow.listAt (fun g off e => by rw [hvR, e]; rfl), Keeps.refl _ _, fun _ => Nat.zero_le _⟩
          have hvRr : vR.ownBlock ≠ some r := hRA.ner
          have hvRn : vR.ownBlock ≠ some bn := fun e => by have := hltW0 bn (.inl ((hRO bn).2 (.inr e))); have := HN.out; omega
          refine' range_at rfl (by omega) (gf := 58) (lb := #[.pointer (some ⟨o1, 0, none⟩)]) rfl trivial (enters_of Tryd.func58 (by kernel_rfl) rfl)
            (walk_seq (6 - 1) (by omega) o1 42 (X5.heap.size + 2) 0 (some ⟨r, 0, none⟩) ps (by omega) (fun k => vR.ownBlock = some k) (0, 0) X5 (enters_of Tryd.func42 (by kernel_rfl) rfl) (hW5.bx _ _ mr) hh) (Below.refl _ _)
            (fun h k => h.trans k) (fun W o => KeptOn.keeps ((Keeps.refl (fun _ => False) W).alloc o) (fun _ _ f => f)) (fun W r r' hl => KeptOn.putObj W _ _ _ hl rfl) (fun _ => rfl)
            (fun pre X => (∃ er Or', Wk w X B4 r er q ps (b7 + 1) ps Or' Ow1 Of1 ∧ ¬ Or' bn ∧ ((pre = [] ∧ ReadAt X r 1000000 ps vR ∧ Or' = Or1 ∧ er = ps) ∨ (pre ≠ [] ∧ er = qs))) ∧ X.heap[bn]? = some (.cells #[.int .i64 pre.length] 3 (0, 0)))
            (fun _ _ _ => False)
            (fun s A B row hs hg hr => by
              obtain ⟨⟨er, Or', h1, h2, h3⟩, h4⟩ := hs
              refine ⟨⟨er, Or', h1.grown hg (fun k e => ⟨by have := (hr k e).1; have := hW5.kp.size; omega, (hr k e).2⟩), h2, ?_⟩, block_kept h4 hg (fun k e => (hr k e).2)⟩
              rcases h3 with ⟨q1, q2, q3⟩ | q
              · exact .inl ⟨q1, q2.grown hg (fun k e => (hr k e).2), q3⟩
              · exact .inr q)
            (fun _ _ _ _ _ hs _ _ => hs)
            ⟨⟨ps, Or1, hW5, hnO.1, .inl ⟨rfl, hRA, rfl, rfl⟩⟩, hn5⟩ (fun x => .cells #[.int .u64 x.2.1, .int .u64 x.2.2] 72) _ ?assign ?body ?done ?stop
          case assign =>
            intro l x W K b hb hK
            dsimp only [entE]
            gi_wp2
            exact hK
          case stop =>
            rintro c pre X _ h _
            exact h.elim
          case body =>
            clear hn5 hh hW5
            rintro l pre ⟨k, a, y⟩ X ⟨⟨er, Or2, hW, hnb, hor⟩, hbn⟩ hlen ⟨hx1, hx2⟩ b hbk hb1 hb2' _
            dsimp only at hx1 hx2 hbk ⊢
            rw [← hx1] at hx2 hbn
            obtain ⟨g, off, x', y', hal1, hx', HC⟩ := ha.fixed (k := k) (by omega)
            rw [hx2] at hx'
            injection hx' with hx'
            injection hx' with q1 q2
            subst q1 q2
            obtain ⟨d1, d2⟩ := HC.out X hW.kp
            have x2 := hW.cell m2
            rw [hal1] at x2
            have xn : X.cell? ⟨bn, 0, none⟩ = some (.int .i64 k) := cell_of_block hbn 0
            have yn := frozen_of_block hbn 0
            have c0 : X.cell? ⟨b, 0, none⟩ = some (.int .u64 a) := cell_of_block hbk 0
            have c1 : X.cell? ⟨b, 1, none⟩ = some (.int .u64 y) := cell_of_block hbk 1
            have hkl : (k : Int) < (ps.length : Int) := by omega
            have hga : decide (ps.length ≤ k) = false := by simp; omega
            have hgb : ¬ ps.length ≤ k := by omega
            have hwr : IntKind.i64.wrap ((k : Int) + 1) = (k : Int) + 1 := by rw [IntKind.wrap_i64]; omega
            have HK : Hid (k = pre.length) := hx1
            clear hx1 hx2
            gi_wp2
            refine wpIn_round_quiet (by kernel_rfl) (by kernel_rfl) (by kernel_rfl) ?_
            repeat (go_big_quiet_step (fail))
            refine wpQuiet_nil ?_
            rintro _ ⟨nq, rfl⟩
            have hl1 := like_drewN X nq
            have hlen1 : ((pre ++ [(k, a, y)]).length : Int) = (k : Int) + 1 := by rw [List.length_append, ← HK.out]; simp
            have hkn : Keeps (fun i => i = bn) X ((X.drewN nq).setCell ⟨bn, 0, none⟩ (.int .i64 ((k : Int) + 1))) := Keeps.setCell (p := ⟨bn, 0, none⟩) (hl1.keeps (Keeps.refl (fun i => i = bn) X)) (.inr rfl) _
            have hWn := hW.far hwbn ⟨hnb, hnO.2⟩ hbne hkn
            have hbn1 : ((X.drewN nq).setCell ⟨bn, 0, none⟩ (.int .i64 ((k : Int) + 1))).heap[bn]? = some (.cells #[.int .i64 ((k : Int) + 1)] 3 (0, 0)) := block_set (w := X.drewN nq) hbn 0 _
            have kf1 := keepsFrom_set (B := X5.heap.size) (X.drewN nq) ⟨bn, 0, none⟩ (.int .i64 ((k : Int) + 1))
            have ko1 := KeptOn.set (S := fun k => vR.ownBlock = some k) (X.drewN nq) ⟨bn, 0, none⟩ (.int .i64 ((k : Int) + 1)) hvRn
            by_cases hk0 : k = 0
            · have hp0 : pre = [] := List.eq_nil_of_length_eq_zero (by rw [← HK.out]; exact hk0)
              obtain ⟨hRX, hOr2⟩ : ReadAt X r 1000000 ps vR ∧ Or2 = Or1 := by
                rcases hor with ⟨_, q1, q2⟩ | ⟨q1, _⟩
                · exact ⟨q1, q2.1⟩
                · exact absurd hp0 q1
              have hr2 : Or2 r := by rw [hOr2]; exact hrO
              have hRn := hRX.kept hkn (Ne.symm hbnr) (fun g hg e => hvRn (e ▸ hg))
              have hcut := reads_cut r 1000000 ps vR 0 _ hRn (Nat.zero_le _)
              rw [show ((0 : Nat) : Int) = 0 from rfl, List.take_zero] at hcut
              have hle : ¬ ((1 : Int) < (k : Int) + 1) := by omega
              have hwr0 : w.heap.size ≤ r := hWn.nr r hr2
              have HP0 : Hid (pre = [] ∧ k = 0) := ⟨hp0, hk0⟩
              have x5 := hWn.cell m5
              have hkf0 : KeepsFrom X5.heap.size X ((X.drewN nq).setCell ⟨bn, 0, none⟩ (.int .i64 ((k : Int) + 1))) := ⟨kf1.size, kf1.same⟩
              have hko0 : KeptOn (fun k => vR.ownBlock = some k) X ((X.drewN nq).setCell ⟨bn, 0, none⟩ (.int .i64 ((k : Int) + 1))) := ⟨ko1.size, ko1.block⟩
              clear hor hRX hW hbn hkn kf1 ko1 hp0 hk0 hl1
              gi_wp2
              generalize (X.drewN nq).setCell ⟨bn, 0, none⟩ (.int .i64 ((k : Int) + 1)) = Xn at *
              refine ⟨trivial, (CallsIn.inRound l (callsIn_wide.2 hcut)).mono ?_⟩
              rintro e Y1 ⟨rfl, aC, cC, hvC, hRC, hKC⟩
              have hC0 : CutAt Xn Y1 r [] (.slice aC 0 0) Or2 := ⟨hRC, hKC, .inl ⟨aC, rfl, fun g hg => by
                rw [hOr2]
                refine (hRO g).2 (.inr ?_)
                rw [hvC]
                cases aC <;> exact hg⟩⟩
              clear hcut hRC hKC x5
              gi_wp2
              gi_loopw [17] (fun i wr => ∃ j v, j ≤ qs.length ∧ i = .int .i64 (j : Nat) ∧ CutAt Xn wr r (qs.take j) v Or2) (fun i _ => qs.length - (intOf i).toNat)
              case atStart => exact ⟨0, _, by omega, rfl, hC0⟩
              case round =>
                clear hC0
                obtain ⟨j, vj, hj, rfl, hC⟩ := hrel
                have hKw : ∀ Y, Keeps (fun i => i = r) Xn Y → Keeps (fun _ => False) w Y := fun Y hY => hWn.kp.step hY (fun i hi e => by omega)
                have x3 : wr.cell? ⟨b2 + 1, 0, none⟩ = some (.slice b1 qs.length cb) := cell_of_block (hC.kp.old (hWn.bx _ _ m3) (hbr _ _ m3)) 0
                by_cases hlt : j < qs.length
                · obtain ⟨g2, off2, x2', y2', rfl, hx2', HC2⟩ := hb.fixed hlt
                  obtain ⟨x2, hx2e⟩ : ∃ x2, x2' = x2 := ⟨_, rfl⟩
                  obtain ⟨y2, hy2e⟩ : ∃ y2, y2' = y2 := ⟨_, rfl⟩
                  rw [hx2e, hy2e] at hx2' HC2
                  have HX2 : Hid (qs[j]? = some (x2, y2)) := hx2'
                  have hlj : (qs.take j).length < 1000000 := by rw [List.length_take]; omega
                  have hlt' : (j : Int) < (qs.length : Int) := by omega
                  have hSof : ∀ Y, Keeps (fun i => i = r) Xn Y → (fun W => W.cell? ⟨b5, 0, none⟩ = some (.pointer (some ⟨r, 0, none⟩)) ∧ W.cell? ⟨b2 + 1, 0, none⟩ = some (.slice (some ⟨g2, off2, none⟩) qs.length cb) ∧ W.cell? ⟨g2, off2 + j * 2, none⟩ = some (.int .u64 x2) ∧ W.cell? ⟨g2, off2 + j * 2 + 1, none⟩ = some (.int .u64 y2)) Y := fun Y hY => ⟨cell_of_block (hY.old (hWn.bx _ _ m5) (hbr _ _ m5)) 0, cell_of_block (hY.old (hWn.bx _ _ m3) (hbr _ _ m3)) 0, HC2.out Y (hKw Y hY)⟩
                  have hadd := calls_with (fun W => W.cell? ⟨b5, 0, none⟩ = some (.pointer (some ⟨r, 0, none⟩)) ∧ W.cell? ⟨b2 + 1, 0, none⟩ = some (.slice (some ⟨g2, off2, none⟩) qs.length cb) ∧ W.cell? ⟨g2, off2 + j * 2, none⟩ = some (.int .u64 x2) ∧ W.cell? ⟨g2, off2 + j * 2 + 1, none⟩ = some (.int .u64 y2)) (hC.add hlj x2 y2 wr.drew ⟨rfl, rfl, rfl, rfl⟩) (fun W h => by obtain ⟨_, h'⟩ := h; exact hSof W h'.kp)
                  have hS0 : (fun W => W.cell? ⟨b5, 0, none⟩ = some (.pointer (some ⟨r, 0, none⟩)) ∧ W.cell? ⟨b2 + 1, 0, none⟩ = some (.slice (some ⟨g2, off2, none⟩) qs.length cb) ∧ W.cell? ⟨g2, off2 + j * 2, none⟩ = some (.int .u64 x2) ∧ W.cell? ⟨g2, off2 + j * 2 + 1, none⟩ = some (.int .u64 y2)) wr.drew := hSof wr hC.kp
                  clear hx2' hx2e hy2e
                  gi_wp2
                  refine wpIn_round_held (S := (fun W => W.cell? ⟨b5, 0, none⟩ = some (.pointer (some ⟨r, 0, none⟩)) ∧ W.cell? ⟨b2 + 1, 0, none⟩ = some (.slice (some ⟨g2, off2, none⟩) qs.length cb) ∧ W.cell? ⟨g2, off2 + j * 2, none⟩ = some (.int .u64 x2) ∧ W.cell? ⟨g2, off2 + j * 2 + 1, none⟩ = some (.int .u64 y2))) 12 rfl hmx (by kernel_rfl) ?_
                  refine held_take (i := 0) (v := .pointer (some ⟨r, 0, none⟩)) 134 rfl rfl (by kernel_rfl) (by kernel_rfl) (by kernel_rfl) rfl (fun w' hw' => by obtain ⟨t1, t2, t3, t4⟩ := hw'; go_simp) hS0 ?_
                  simp only [Act.put, List.setIfInBounds_toArray, List.set_cons_zero, List.set_cons_succ]
                  refine held_take (i := 1) (v := .slice (some ⟨g2, off2, none⟩) qs.length cb) 135 rfl rfl (by kernel_rfl) (by kernel_rfl) (by kernel_rfl) rfl (fun w' hw' => by obtain ⟨t1, t2, t3, t4⟩ := hw'; go_simp) hS0 ?_
                  simp only [Act.put, List.setIfInBounds_toArray, List.set_cons_zero, List.set_cons_succ]
                  refine held_take (i := 2) (v := .int .i64 j) 136 rfl rfl (by kernel_rfl) (by kernel_rfl) (by kernel_rfl) rfl (fun w' hw' => by obtain ⟨t1, t2, t3, t4⟩ := hw'; go_simp) hS0 ?_
                  simp only [Act.put, List.setIfInBounds_toArray, List.set_cons_zero, List.set_cons_succ]
                  refine held_take (i := 3) (v := .pointer (some ⟨g2, off2 + j * 2, none⟩)) 137 rfl rfl (by kernel_rfl) (by kernel_rfl) (by kernel_rfl) rfl (fun w' hw' => by obtain ⟨t1, t2, t3, t4⟩ := hw'; go_simp) hS0 ?_
                  simp only [Act.put, List.setIfInBounds_toArray, List.set_cons_zero, List.set_cons_succ]
                  refine held_take (i := 4) (v := .pointer (some ⟨g2, off2 + j * 2, none⟩)) 138 rfl rfl (by kernel_rfl) (by kernel_rfl) (by kernel_rfl) rfl (fun w' hw' => by obtain ⟨t1, t2, t3, t4⟩ := hw'; go_simp) hS0 ?_
                  simp only [Act.put, List.setIfInBounds_toArray, List.set_cons_zero, List.set_cons_succ]
                  refine held_take (i := 5) (v := .int .u64 x2) 139 rfl rfl (by kernel_rfl) (by kernel_rfl) (by kernel_rfl) rfl (fun w' hw' => by obtain ⟨t1, t2, t3, t4⟩ := hw'; go_simp) hS0 ?_
                  simp only [Act.put, List.setIfInBounds_toArray, List.set_cons_zero, List.set_cons_succ]
                  refine held_take (i := 6) (v := .slice (some ⟨g2, off2, none⟩) qs.length cb) 140 rfl rfl (by kernel_rfl) (by kernel_rfl) (by kernel_rfl) rfl (fun w' hw' => by obtain ⟨t1, t2, t3, t4⟩ := hw'; go_simp) hS0 ?_
                  simp only [Act.put, List.setIfInBounds_toArray, List.set_cons_zero, List.set_cons_succ]
                  refine held_take (i := 7) (v := .int .i64 j) 141 rfl rfl (by kernel_rfl) (by kernel_rfl) (by kernel_rfl) rfl (fun w' hw' => by obtain ⟨t1, t2, t3, t4⟩ := hw'; go_simp) hS0 ?_
                  simp only [Act.put, List.setIfInBounds_toArray, List.set_cons_zero, List.set_cons_succ]
                  refine held_take (i := 8) (v := .pointer (some ⟨g2, off2 + j * 2, none⟩)) 142 rfl rfl (by kernel_rfl) (by kernel_rfl) (by kernel_rfl) rfl (fun w' hw' => by obtain ⟨t1, t2, t3, t4⟩ := hw'; go_simp) hS0 ?_
                  simp only [Act.put, List.setIfInBounds_toArray, List.set_cons_zero, List.set_cons_succ]
                  refine held_take (i := 9) (v := .pointer (some ⟨g2, off2 + j * 2 + 1, none⟩)) 143 rfl rfl (by kernel_rfl) (by kernel_rfl) (by kernel_rfl) rfl (fun w' hw' => by obtain ⟨t1, t2, t3, t4⟩ := hw'; go_simp) hS0 ?_
                  simp only [Act.put, List.setIfInBounds_toArray, List.set_cons_zero, List.set_cons_succ]
                  refine held_take (i := 10) (v := .int .u64 y2) 144 rfl rfl (by kernel_rfl) (by kernel_rfl) (by kernel_rfl) rfl (fun w' hw' => by obtain ⟨t1, t2, t3, t4⟩ := hw'; go_simp) hS0 ?_
                  simp only [Act.put, List.setIfInBounds_toArray, List.set_cons_zero, List.set_cons_succ]
                  refine held_call (i := 11) 145 (by kernel_rfl) rfl rfl rfl (by go_simp) (hadd.mono ?_)
                  rintro e Y2 ⟨rfl, hS2, hH⟩
                  refine ⟨_, rfl, hS2, ?_⟩
                  simp only [Act.put, List.setIfInBounds_toArray, List.set_cons_zero, List.set_cons_succ]
                  refine held_end (by kernel_rfl) ?_ _
                  obtain ⟨v2, hC2⟩ := hH.out
                  rw [← take_succ_at HX2.out] at hC2
                  clear hadd hS0 hS2 hH hC
                  gi_wp2
                  go_roundw
                  case rel => exact ⟨j + 1, v2, by omega, by go_num, hC2⟩
                  case measure => simp [intOf]; omega
                · obtain rfl : j = qs.length := by omega
                  rw [List.take_length] at hC
                  obtain ⟨h1, h2, h3⟩ := hC.own' hr2
                  have hWe := hWn.stepR h1 h2 h3
                  have hne2 : ¬ (bn = r ∨ vj.ownBlock = some bn) := fun e => by
                    rcases h2 bn e with e1 | e1
                    · exact hnb e1
                    · have := lt_of_block hbn1; omega
                  have hrc : ∃ c t fr, Xn.heap[r]? = some (.cells c t fr) := ⟨_, _, _, hRn.box⟩
                  have hfin : Hid (KeepsFrom X5.heap.size X wr ∧ KeptOn (fun k => vR.ownBlock = some k) X wr ∧ (∃ er Or', Wk w wr B4 r er q ps (b7 + 1) ps Or' Ow1 Of1 ∧ ¬ Or' bn ∧ ((pre ++ [(k, a, y)] = [] ∧ ReadAt wr r 1000000 ps vR ∧ Or' = Or1 ∧ er = ps) ∨ (pre ++ [(k, a, y)] ≠ [] ∧ er = qs))) ∧ wr.heap[bn]? = some (.cells #[.int .i64 (pre ++ [(k, a, y)]).length] 3 (0, 0))) := by
                    refine ⟨⟨Nat.le_trans hkf0.size hC.kp.size, fun i o hB hi ho => hC.kp.old (hkf0.same i o hB hi ho) (fun e => ?_)⟩, ⟨Nat.le_trans hko0.size hC.kp.size, fun i c t fr hS hi => hC.kp.old (hko0.block i c t fr hS hi) (fun e => hvRr (e ▸ hS))⟩, ⟨qs, _, hWe, hne2, .inr ⟨by simp, rfl⟩⟩, ?_⟩
                    · obtain ⟨c, t, fr, hc⟩ := hrc
                      have := hkf0.same i o hB hi ho
                      rw [e, hc] at this
                      cases this
                      cases ho
                    · rw [hlen1]
                      exact hC.kp.old hbn1 hbnr
                  clear hC h1 h2 h3 hWe hne2 hrc hWn hkf0 hko0 hbn1 hlen1 hRn
                  gi_wp2
                  exact hfin.out
            · have hpne : pre ≠ [] := fun e => hk0 (by rw [HK.out, e]; rfl)
              have her : er = qs := by
                rcases hor with ⟨q, _⟩ | ⟨_, q⟩
                · exact absurd q hpne
                · exact q
              have hgt : (1 : Int) < (k : Int) + 1 := by omega
              have hfin : Hid (KeepsFrom X5.heap.size X ((X.drewN nq).setCell ⟨bn, 0, none⟩ (.int .i64 ((k : Int) + 1))) ∧ KeptOn (fun k => vR.ownBlock = some k) X ((X.drewN nq).setCell ⟨bn, 0, none⟩ (.int .i64 ((k : Int) + 1))) ∧ (∃ er Or', Wk w ((X.drewN nq).setCell ⟨bn, 0, none⟩ (.int .i64 ((k : Int) + 1))) B4 r er q ps (b7 + 1) ps Or' Ow1 Of1 ∧ ¬ Or' bn ∧ ((pre ++ [(k, a, y)] = [] ∧ ReadAt ((X.drewN nq).setCell ⟨bn, 0, none⟩ (.int .i64 ((k : Int) + 1))) r 1000000 ps vR ∧ Or' = Or1 ∧ er = ps) ∨ (pre ++ [(k, a, y)] ≠ [] ∧ er = qs))) ∧ ((X.drewN nq).setCell ⟨bn, 0, none⟩ (.int .i64 ((k : Int) + 1))).heap[bn]? = some (.cells #[.int .i64 (pre ++ [(k, a, y)]).length] 3 (0, 0))) :=
                ⟨⟨kf1.size, kf1.same⟩, ⟨ko1.size, ko1.block⟩, ⟨er, Or2, hWn, hnb, .inr ⟨by simp, her⟩⟩, by rw [hlen1]; exact hbn1⟩
              clear hWn hbn1 kf1 ko1 hlen1 hW hor hbn hkn
              gi_wp2
              exact hfin.out
          case done =>
            clear hh hn5
            rintro ys X hys ⟨⟨er, Or2, hW, hnb, hor⟩, hbn⟩ hD
            rw [hys] at hbn
            have HER : Hid ((er.length : Int) = min (qs.length : Int) ((qs.length : Int) * (ps.length : Int)) ∧ er.length ≤ 1000) := by
              rcases hor with ⟨h1, _, _, h2⟩ | ⟨h1, h2⟩
              · rw [h1] at hys
                have h3 : ps.length = 0 := hys.symm
                rw [h2, h3]
                exact ⟨by simp; omega, by omega⟩
              · have h3 : 1 ≤ ps.length := by
                  rcases Nat.eq_zero_or_pos ps.length with e | e
                  · rw [e] at hys
                    exact absurd (List.eq_nil_of_length_eq_zero hys) h1
                  · exact e
                rw [h2]
                refine ⟨?_, hlb⟩
                have h4 : (qs.length : Int) * 1 ≤ (qs.length : Int) * (ps.length : Int) := Int.mul_le_mul_of_nonneg_left (by omega) (by omega)
                rw [Int.mul_one] at h4
                exact (Int.min_eq_left h4).symm
            have hltX := fun k (hk : Or2 k ∨ Ow1 k ∨ Of1 k) => hW.lt hk
            have hbltX := fun b o (hb : (b, o) ∈ B4) => hW.blt hb
            have hW6 := hW.same (X' := X.alloc (.cells #[.int .i64 0] 3)) ((Keeps.refl _ _).alloc _)
            have hbm := alloc_block X (.cells #[.int .i64 0] 3)
            have hbn6 := alloc_old hbn (.cells #[.int .i64 0] 3)
            have hD6 := alloc_old hD (.cells #[.int .i64 0] 3)
            have hz6 : (X.alloc (.cells #[.int .i64 0] 3)).heap.size = X.heap.size + 1 := by simp
            have hbnX := lt_of_block hbn
            have hDX := lt_of_block hD
            have hwX := hW.kp.size
            clear hor hys hD hbn hW
            gi_wp2_with fail
            generalize X.alloc (.cells #[.int .i64 0] 3) = Y0 at *
            obtain ⟨bm, hbmE⟩ : ∃ b, X.heap.size = b := ⟨_, rfl⟩
            rw [hbmE] at hbm hz6 hltX hbltX hbnX hDX hwX ⊢
            obtain ⟨D1, hD1⟩ : ∃ b, X5.heap.size = b := ⟨_, rfl⟩
            rw [hD1] at hD6 hDX ⊢
            have HD1 : Hid (w.heap.size ≤ D1) := by have := hwbn; have := HN.out; unfold Hid; omega
            have hz6a : bm + 1 ≤ Y0.heap.size := by omega
            have hz6b : Y0.heap.size ≤ bm + 1 := by omega
            clear hbmE hD1 hz6
            have hNl : (redoE ps).length ≤ 1000 := Nat.le_trans (redoE_length ps) hla
            have hh2 : ∀ W, Below Y0.heap.size Y0 W → W.heap.size = Y0.heap.size + 2 → Calls Tryd.prog 48 #[.pointer (some ⟨q, 0, none⟩)] W fun e w' => ∃ a c, e = .returned (.slice a (redoE ps).length c) ∧ ListAt (fun k => Y0.heap.size + 2 ≤ k ∧ k < Y0.heap.size + 2 + 2) w' a (redoE ps) ∧ Keeps (fun _ => False) W w' ∧ (0 < (redoE ps).length → Y0.heap.size + 2 + 2 ≤ w'.heap.size) := fun W hW hM => by
              have h1 := log_handed (hW6.lg.kept (Keeps.of_below hW (fun _ => False)) (fun _ _ f => f))
              rw [hM] at h1
              exact h1
            refine' range_at rfl (by omega) (gf := 58) (lb := #[.pointer (some ⟨o1 + 1, 0, none⟩)]) rfl trivial (enters_of Tryd.func58 (by kernel_rfl) rfl)
              (walk_seq (6 - 1) (by omega) (o1 + 1) 48 (Y0.heap.size + 2) (Y0.heap.size + 2 + 2) (some ⟨q, 0, none⟩) (redoE ps) (by omega) (fun k => Y0.heap.size + 2 ≤ k ∧ k < Y0.heap.size + 2 + 2) (0, 0) Y0 (enters_of Tryd.func48 (by kernel_rfl) rfl) (hW6.bx _ _ mw) hh2) (Below.refl _ _)
              (fun h k => h.trans k) (fun W o => KeptOn.keeps ((Keeps.refl (fun _ => False) W).alloc o) (fun _ _ f => f)) (fun W r r' hl => KeptOn.putObj W _ _ _ hl rfl) (fun _ => rfl)
              (fun pre Y => (∃ Ow' Of', Wk w Y B4 r er q (ps ++ qs.take pre.length) (b7 + 1) (ps ++ qs.take pre.length) Or2 Ow' Of' ∧ ∀ k, Ow' k ∨ Of' k → k ≠ bn ∧ (k < bm ∨ Y0.heap.size + 4 ≤ k)) ∧ Y.heap[bm]? = some (.cells #[.int .i64 pre.length] 3 (0, 0)) ∧ Y.heap[bn]? = some (.cells #[.int .i64 ps.length] 3 (0, 0)) ∧ Y.heap[D1]? = some (.deferred (some [])))
              (fun _ _ _ => False)
              (fun s A B row hs hg hr => by
                obtain ⟨⟨Ow', Of', h1, h2⟩, h3, h4, h5⟩ := hs
                exact ⟨⟨Ow', Of', h1.grown hg (fun k e => ⟨by have := (hr k e).1; omega, (hr k e).2⟩), h2⟩, block_kept h3 hg (fun k e => (hr k e).2), block_kept h4 hg (fun k e => (hr k e).2), (hg.block D1 (lt_of_block h5) (fun e => by have := (hr D1 e.symm).1; omega)).trans h5⟩)
              (fun _ _ _ _ _ hs _ _ => hs)
              ⟨⟨Ow1, Of1, by simpa using hW6, fun k hk => ⟨fun e => by rcases hk with hk | hk; exact hnO.2.1 (e ▸ hk); exact hnO.2.2 (e ▸ hk), .inl (hltX k (.inr hk))⟩⟩, hbm, hbn6, hD6⟩ (fun x => .cells #[.int .u64 x.2.1, .int .u64 x.2.2] 72) _ ?assign ?body ?done ?stop
            case assign =>
              intro l x W K b hb hK
              dsimp only [entE]
              gi_wp2
              exact hK
            case stop =>
              rintro c pre Y _ h _
              exact h.elim
            case body =>
              clear hbm hbn6 hD6 hh2 hW6
              rintro l pre ⟨k, a, y⟩ Y ⟨⟨Ow2, Of2, hW, hTO⟩, hbm, hbn, hD⟩ hlen ⟨hx1, hx2⟩ b hbk hb1 hb2' hZ
              dsimp only at hx1 hx2 hbk ⊢
              rw [← hx1] at hx2 hbm hW
              obtain ⟨aw, cw, hvw, hcw⟩ := (HWT4.out Y hW.bx).pairs
              injection hvw with hvw _ _
              obtain ⟨gw, ow, x', y', hao, hx', d1, d2⟩ := hcw k (by omega)
              rw [← hvw] at hao
              rw [hx2] at hx'
              injection hx' with hx'
              injection hx' with q1 q2
              subst q1 q2
              have xw := hW.cell mt
              rw [hao] at xw
              have x3 := hW.cell m3
              have xm : Y.cell? ⟨bm, 0, none⟩ = some (.int .i64 k) := cell_of_block hbm 0
              have ym := frozen_of_block hbm 0
              have c0 : Y.cell? ⟨b, 0, none⟩ = some (.int .u64 a) := cell_of_block hbk 0
              have c1 : Y.cell? ⟨b, 1, none⟩ = some (.int .u64 y) := cell_of_block hbk 1
              obtain ⟨N, hN⟩ : ∃ N, (redoE ps).length = N := ⟨_, rfl⟩
              rw [hN] at xw
              have hkN : k < N := by omega
              have hkl : (k : Int) < (N : Int) := by omega
              have hga : decide (N ≤ k) = false := by simp; omega
              have hgb : ¬ N ≤ k := by omega
              have hNl' : N ≤ 1000 := by omega
              have hwr : IntKind.i64.wrap ((k : Int) + 1) = (k : Int) + 1 := by rw [IntKind.wrap_i64]; omega
              have HK : Hid (k = pre.length) := hx1
              clear hx1 hx2 hcw hvw hN hlen
              gi_wp2
              refine wpIn_round_quiet (by kernel_rfl) (by kernel_rfl) (by kernel_rfl) ?_
              repeat (go_big_quiet_step (fail))
              refine wpQuiet_nil ?_
              rintro _ ⟨nq, rfl⟩
              have hl1 := like_drewN Y nq
              have hlen1 : ((pre ++ [(k, a, y)]).length : Int) = (k : Int) + 1 := by rw [List.length_append, ← HK.out]; simp
              have hlen2 : (pre ++ [(k, a, y)]).length = k + 1 := by rw [List.length_append, ← HK.out]; rfl
              have hbmO : ¬ Or2 bm ∧ ¬ Ow2 bm ∧ ¬ Of2 bm := ⟨fun e => by have := hltX bm (.inl e); omega, fun e => by have := hTO bm (.inl e); omega, fun e => by have := hTO bm (.inr e); omega⟩
              have hkm : Keeps (fun i => i = bm) Y ((Y.drewN nq).setCell ⟨bm, 0, none⟩ (.int .i64 ((k : Int) + 1))) := Keeps.setCell (p := ⟨bm, 0, none⟩) (hl1.keeps (Keeps.refl (fun i => i = bm) Y)) (.inr rfl) _
              have hWn := hW.far hwX hbmO (fun b o hb e => by have := hbltX b o hb; omega) hkm
              have hbm1 : ((Y.drewN nq).setCell ⟨bm, 0, none⟩ (.int .i64 ((k : Int) + 1))).heap[bm]? = some (.cells #[.int .i64 ((k : Int) + 1)] 3 (0, 0)) := block_set (w := Y.drewN nq) hbm 0 _
              have hbn1 := hkm.old hbn (by omega)
              have hD1' := hkm.old hD (by omega)
              have kf1 := keepsFrom_set (B := Y0.heap.size) (Y.drewN nq) ⟨bm, 0, none⟩ (.int .i64 ((k : Int) + 1))
              have ko1 := KeptOn.set (S := fun k => Y0.heap.size + 2 ≤ k ∧ k < Y0.heap.size + 2 + 2) (Y.drewN nq) ⟨bm, 0, none⟩ (.int .i64 ((k : Int) + 1)) (fun e => by have h1 : Y0.heap.size + 2 ≤ bm := e.1; omega)
              by_cases hkq : k < qs.length
              · obtain ⟨g2, off2, x2, y2, rfl, hx2', HC2⟩ := hb.fixed hkq
                have HX2 : Hid (qs[k]? = some (x2, y2)) := hx2'
                have hLl : (ps ++ qs.take k).length < 1000000 := by rw [List.length_append, List.length_take]; omega
                have hgt : (k : Int) + 1 ≤ (qs.length : Int) := by omega
                have hkq' : (k : Int) < (qs.length : Int) := by omega
                have hsub : IntKind.i64.wrap ((k : Int) + 1 - 1) = (k : Int) := by rw [IntKind.wrap_i64]; omega
                have hsub2 : (k : Int) + 1 - 1 = (k : Int) := by omega
                have hwk0 : IntKind.i64.wrap (k : Int) = (k : Int) := by rw [IntKind.wrap_i64]; omega
                have x3n := hWn.cell m3
                have xmn : ((Y.drewN nq).setCell ⟨bm, 0, none⟩ (.int .i64 ((k : Int) + 1))).cell? ⟨bm, 0, none⟩ = some (.int .i64 ((k : Int) + 1)) := cell_of_block hbm1 0
                have hYZ : Y0.heap.size + 2 + 2 ≤ ((Y.drewN nq).setCell ⟨bm, 0, none⟩ (.int .i64 ((k : Int) + 1))).heap.size := Nat.le_trans hZ hkm.size
                have hkf0 : KeepsFrom Y0.heap.size Y ((Y.drewN nq).setCell ⟨bm, 0, none⟩ (.int .i64 ((k : Int) + 1))) := ⟨kf1.size, kf1.same⟩
                have hko0 : KeptOn (fun k => Y0.heap.size + 2 ≤ k ∧ k < Y0.heap.size + 2 + 2) Y ((Y.drewN nq).setCell ⟨bm, 0, none⟩ (.int .i64 ((k : Int) + 1))) := ⟨ko1.size, ko1.block⟩
                clear hx2' hW hbm hbn hD hkm kf1 ko1 hl1 hZ
                gi_wp2
                generalize ((Y.drewN nq).setCell ⟨bm, 0, none⟩ (.int .i64 ((k : Int) + 1))) = Yn at *
                have hput := calls_with (fun W => W.cell? ⟨b7, 0, none⟩ = some (.pointer (some ⟨q, 0, none⟩)) ∧ W.cell? ⟨b2 + 1, 0, none⟩ = some (.slice (some ⟨g2, off2, none⟩) qs.length cb) ∧ W.cell? ⟨bm, 0, none⟩ = some (.int .i64 ((k : Int) + 1)) ∧ W.cell? ⟨g2, off2 + k * 2, none⟩ = some (.int .u64 x2) ∧ W.cell? ⟨g2, off2 + k * 2 + 1, none⟩ = some (.int .u64 y2)) (hWn.put hw hLl x2 y2 Yn.drew ⟨rfl, rfl, rfl, rfl⟩) (fun W h => by
                  obtain ⟨_, h', hk', _⟩ := h
                  exact ⟨h'.cell m7, h'.cell m3, cell_of_block (hk'.old (k := bm) hbm1 hbmO.2.1) 0, HC2.out W h'.kp⟩)
                have hS0 : (fun W => W.cell? ⟨b7, 0, none⟩ = some (.pointer (some ⟨q, 0, none⟩)) ∧ W.cell? ⟨b2 + 1, 0, none⟩ = some (.slice (some ⟨g2, off2, none⟩) qs.length cb) ∧ W.cell? ⟨bm, 0, none⟩ = some (.int .i64 ((k : Int) + 1)) ∧ W.cell? ⟨g2, off2 + k * 2, none⟩ = some (.int .u64 x2) ∧ W.cell? ⟨g2, off2 + k * 2 + 1, none⟩ = some (.int .u64 y2)) Yn.drew := ⟨hWn.cell m7, x3n, xmn, HC2.out Yn hWn.kp⟩
                refine wpIn_round_held (S := (fun W => W.cell? ⟨b7, 0, none⟩ = some (.pointer (some ⟨q, 0, none⟩)) ∧ W.cell? ⟨b2 + 1, 0, none⟩ = some (.slice (some ⟨g2, off2, none⟩) qs.length cb) ∧ W.cell? ⟨bm, 0, none⟩ = some (.int .i64 ((k : Int) + 1)) ∧ W.cell? ⟨g2, off2 + k * 2, none⟩ = some (.int .u64 x2) ∧ W.cell? ⟨g2, off2 + k * 2 + 1, none⟩ = some (.int .u64 y2))) 14 rfl hmx (by kernel_rfl) ?_
                refine held_take (i := 0) (v := .pointer (some ⟨q, 0, none⟩)) 172 rfl rfl (by kernel_rfl) (by kernel_rfl) (by kernel_rfl) rfl (fun w' hw' => by obtain ⟨t1, t2, t3, t4, t5⟩ := hw'; go_simp) hS0 ?_
                simp only [Act.put, List.setIfInBounds_toArray, List.set_cons_zero, List.set_cons_succ]
                refine held_take (i := 1) (v := .slice (some ⟨g2, off2, none⟩) qs.length cb) 173 rfl rfl (by kernel_rfl) (by kernel_rfl) (by kernel_rfl) rfl (fun w' hw' => by obtain ⟨t1, t2, t3, t4, t5⟩ := hw'; go_simp) hS0 ?_
                simp only [Act.put, List.setIfInBounds_toArray, List.set_cons_zero, List.set_cons_succ]
                refine held_take (i := 2) (v := .int .i64 ((k : Int) + 1)) 174 rfl rfl (by kernel_rfl) (by kernel_rfl) (by kernel_rfl) rfl (fun w' hw' => by obtain ⟨t1, t2, t3, t4, t5⟩ := hw'; go_simp) hS0 ?_
                simp only [Act.put, List.setIfInBounds_toArray, List.set_cons_zero, List.set_cons_succ]
                refine held_take (i := 3) (v := .int .i64 (k : Int)) 175 rfl rfl (by kernel_rfl) (by kernel_rfl) (by kernel_rfl) rfl (fun w' hw' => by obtain ⟨t1, t2, t3, t4, t5⟩ := hw'; go_simp) hS0 ?_
                simp only [Act.put, List.setIfInBounds_toArray, List.set_cons_zero, List.set_cons_succ]
                refine held_take (i := 4) (v := .pointer (some ⟨g2, off2 + k * 2, none⟩)) 176 rfl rfl (by kernel_rfl) (by kernel_rfl) (by kernel_rfl) rfl (fun w' hw' => by obtain ⟨t1, t2, t3, t4, t5⟩ := hw'; go_simp) hS0 ?_
                simp only [Act.put, List.setIfInBounds_toArray, List.set_cons_zero, List.set_cons_succ]
                refine held_take (i := 5) (v := .pointer (some ⟨g2, off2 + k * 2, none⟩)) 177 rfl rfl (by kernel_rfl) (by kernel_rfl) (by kernel_rfl) rfl (fun w' hw' => by obtain ⟨t1, t2, t3, t4, t5⟩ := hw'; go_simp) hS0 ?_
                simp only [Act.put, List.setIfInBounds_toArray, List.set_cons_zero, List.set_cons_succ]
                refine held_take (i := 6) (v := .int .u64 x2) 178 rfl rfl (by kernel_rfl) (by kernel_rfl) (by kernel_rfl) rfl (fun w' hw' => by obtain ⟨t1, t2, t3, t4, t5⟩ := hw'; go_simp) hS0 ?_
                simp only [Act.put, List.setIfInBounds_toArray, List.set_cons_zero, List.set_cons_succ]
                refine held_take (i := 7) (v := .slice (some ⟨g2, off2, none⟩) qs.length cb) 179 rfl rfl (by kernel_rfl) (by kernel_rfl) (by kernel_rfl) rfl (fun w' hw' => by obtain ⟨t1, t2, t3, t4, t5⟩ := hw'; go_simp) hS0 ?_
                simp only [Act.put, List.setIfInBounds_toArray, List.set_cons_zero, List.set_cons_succ]
                refine held_take (i := 8) (v := .int .i64 ((k : Int) + 1)) 180 rfl rfl (by kernel_rfl) (by kernel_rfl) (by kernel_rfl) rfl (fun w' hw' => by obtain ⟨t1, t2, t3, t4, t5⟩ := hw'; go_simp) hS0 ?_
                simp only [Act.put, List.setIfInBounds_toArray, List.set_cons_zero, List.set_cons_succ]
                refine held_take (i := 9) (v := .int .i64 (k : Int)) 181 rfl rfl (by kernel_rfl) (by kernel_rfl) (by kernel_rfl) rfl (fun w' hw' => by obtain ⟨t1, t2, t3, t4, t5⟩ := hw'; go_simp) hS0 ?_
                simp only [Act.put, List.setIfInBounds_toArray, List.set_cons_zero, List.set_cons_succ]
                refine held_take (i := 10) (v := .pointer (some ⟨g2, off2 + k * 2, none⟩)) 182 rfl rfl (by kernel_rfl) (by kernel_rfl) (by kernel_rfl) rfl (fun w' hw' => by obtain ⟨t1, t2, t3, t4, t5⟩ := hw'; go_simp) hS0 ?_
                simp only [Act.put, List.setIfInBounds_toArray, List.set_cons_zero, List.set_cons_succ]
                refine held_take (i := 11) (v := .pointer (some ⟨g2, off2 + k * 2 + 1, none⟩)) 183 rfl rfl (by kernel_rfl) (by kernel_rfl) (by kernel_rfl) rfl (fun w' hw' => by obtain ⟨t1, t2, t3, t4, t5⟩ := hw'; go_simp) hS0 ?_
                simp only [Act.put, List.setIfInBounds_toArray, List.set_cons_zero, List.set_cons_succ]
                refine held_take (i := 12) (v := .int .u64 y2) 184 rfl rfl (by kernel_rfl) (by kernel_rfl) (by kernel_rfl) rfl (fun w' hw' => by obtain ⟨t1, t2, t3, t4, t5⟩ := hw'; go_simp) hS0 ?_
                simp only [Act.put, List.setIfInBounds_toArray, List.set_cons_zero, List.set_cons_succ]
                refine held_call (i := 13) 185 (by kernel_rfl) rfl rfl rfl (by go_simp) (hput.mono ?_)
                rintro e Z1 ⟨rfl, hS1, hH⟩
                refine ⟨_, rfl, hS1, ?_⟩
                simp only [Act.put, List.setIfInBounds_toArray, List.set_cons_zero, List.set_cons_succ]
                refine held_end (by kernel_rfl) ?_ _
                obtain ⟨Ow3, hW3, hk3, hsub3⟩ := hH.out
                replace hk3 : Keeps Ow2 Yn Z1 := ⟨hk3.os, hk3.tape, hk3.output, hk3.size, hk3.block⟩
                have hbm3 := hk3.old hbm1 hbmO.2.1
                have hfput := calls_with (fun W => W.cell? ⟨b7 + 1 + 1, 0, none⟩ = some (.pointer (some ⟨b7 + 1, 0, none⟩)) ∧ W.cell? ⟨b2 + 1, 0, none⟩ = some (.slice (some ⟨g2, off2, none⟩) qs.length cb) ∧ W.cell? ⟨bm, 0, none⟩ = some (.int .i64 ((k : Int) + 1)) ∧ W.cell? ⟨g2, off2 + k * 2, none⟩ = some (.int .u64 x2) ∧ W.cell? ⟨g2, off2 + k * 2 + 1, none⟩ = some (.int .u64 y2)) (hW3.fput hLl x2 y2 Z1.drew ⟨rfl, rfl, rfl, rfl⟩) (fun W h => by
                  obtain ⟨_, h', hk', _⟩ := h
                  exact ⟨h'.cell m9, h'.cell m3, cell_of_block (hk'.old (k := bm) hbm3 hbmO.2.2) 0, HC2.out W h'.kp⟩)
                have hS2 : (fun W => W.cell? ⟨b7 + 1 + 1, 0, none⟩ = some (.pointer (some ⟨b7 + 1, 0, none⟩)) ∧ W.cell? ⟨b2 + 1, 0, none⟩ = some (.slice (some ⟨g2, off2, none⟩) qs.length cb) ∧ W.cell? ⟨bm, 0, none⟩ = some (.int .i64 ((k : Int) + 1)) ∧ W.cell? ⟨g2, off2 + k * 2, none⟩ = some (.int .u64 x2) ∧ W.cell? ⟨g2, off2 + k * 2 + 1, none⟩ = some (.int .u64 y2)) Z1.drew := ⟨hW3.cell m9, hW3.cell m3, cell_of_block hbm3 0, HC2.out Z1 hW3.kp⟩
                have hs3 := hk3.size
                clear hput hS0 hS1 hH x3n xmn
                gi_wp2
                refine wpIn_round_held (S := (fun W => W.cell? ⟨b7 + 1 + 1, 0, none⟩ = some (.pointer (some ⟨b7 + 1, 0, none⟩)) ∧ W.cell? ⟨b2 + 1, 0, none⟩ = some (.slice (some ⟨g2, off2, none⟩) qs.length cb) ∧ W.cell? ⟨bm, 0, none⟩ = some (.int .i64 ((k : Int) + 1)) ∧ W.cell? ⟨g2, off2 + k * 2, none⟩ = some (.int .u64 x2) ∧ W.cell? ⟨g2, off2 + k * 2 + 1, none⟩ = some (.int .u64 y2))) 14 rfl hmx (by kernel_rfl) ?_
                refine held_take (i := 0) (v := .pointer (some ⟨b7 + 1, 0, none⟩)) 186 rfl rfl (by kernel_rfl) (by kernel_rfl) (by kernel_rfl) rfl (fun w' hw' => by obtain ⟨t1, t2, t3, t4, t5⟩ := hw'; go_simp) hS2 ?_
                simp only [Act.put, List.setIfInBounds_toArray, List.set_cons_zero, List.set_cons_succ]
                refine held_take (i := 1) (v := .slice (some ⟨g2, off2, none⟩) qs.length cb) 187 rfl rfl (by kernel_rfl) (by kernel_rfl) (by kernel_rfl) rfl (fun w' hw' => by obtain ⟨t1, t2, t3, t4, t5⟩ := hw'; go_simp) hS2 ?_
                simp only [Act.put, List.setIfInBounds_toArray, List.set_cons_zero, List.set_cons_succ]
                refine held_take (i := 2) (v := .int .i64 ((k : Int) + 1)) 188 rfl rfl (by kernel_rfl) (by kernel_rfl) (by kernel_rfl) rfl (fun w' hw' => by obtain ⟨t1, t2, t3, t4, t5⟩ := hw'; go_simp) hS2 ?_
                simp only [Act.put, List.setIfInBounds_toArray, List.set_cons_zero, List.set_cons_succ]
                refine held_take (i := 3) (v := .int .i64 (k : Int)) 189 rfl rfl (by kernel_rfl) (by kernel_rfl) (by kernel_rfl) rfl (fun w' hw' => by obtain ⟨t1, t2, t3, t4, t5⟩ := hw'; go_simp) hS2 ?_
                simp only [Act.put, List.setIfInBounds_toArray, List.set_cons_zero, List.set_cons_succ]
                refine held_take (i := 4) (v := .pointer (some ⟨g2, off2 + k * 2, none⟩)) 190 rfl rfl (by kernel_rfl) (by kernel_rfl) (by kernel_rfl) rfl (fun w' hw' => by obtain ⟨t1, t2, t3, t4, t5⟩ := hw'; go_simp) hS2 ?_
                simp only [Act.put, List.setIfInBounds_toArray, List.set_cons_zero, List.set_cons_succ]
                refine held_take (i := 5) (v := .pointer (some ⟨g2, off2 + k * 2, none⟩)) 191 rfl rfl (by kernel_rfl) (by kernel_rfl) (by kernel_rfl) rfl (fun w' hw' => by obtain ⟨t1, t2, t3, t4, t5⟩ := hw'; go_simp) hS2 ?_
                simp only [Act.put, List.setIfInBounds_toArray, List.set_cons_zero, List.set_cons_succ]
                refine held_take (i := 6) (v := .int .u64 x2) 192 rfl rfl (by kernel_rfl) (by kernel_rfl) (by kernel_rfl) rfl (fun w' hw' => by obtain ⟨t1, t2, t3, t4, t5⟩ := hw'; go_simp) hS2 ?_
                simp only [Act.put, List.setIfInBounds_toArray, List.set_cons_zero, List.set_cons_succ]
                refine held_take (i := 7) (v := .slice (some ⟨g2, off2, none⟩) qs.length cb) 193 rfl rfl (by kernel_rfl) (by kernel_rfl) (by kernel_rfl) rfl (fun w' hw' => by obtain ⟨t1, t2, t3, t4, t5⟩ := hw'; go_simp) hS2 ?_
                simp only [Act.put, List.setIfInBounds_toArray, List.set_cons_zero, List.set_cons_succ]
                refine held_take (i := 8) (v := .int .i64 ((k : Int) + 1)) 194 rfl rfl (by kernel_rfl) (by kernel_rfl) (by kernel_rfl) rfl (fun w' hw' => by obtain ⟨t1, t2, t3, t4, t5⟩ := hw'; go_simp) hS2 ?_
                simp only [Act.put, List.setIfInBounds_toArray, List.set_cons_zero, List.set_cons_succ]
                refine held_take (i := 9) (v := .int .i64 (k : Int)) 195 rfl rfl (by kernel_rfl) (by kernel_rfl) (by kernel_rfl) rfl (fun w' hw' => by obtain ⟨t1, t2, t3, t4, t5⟩ := hw'; go_simp) hS2 ?_
                simp only [Act.put, List.setIfInBounds_toArray, List.set_cons_zero, List.set_cons_succ]
                refine held_take (i := 10) (v := .pointer (some ⟨g2, off2 + k * 2, none⟩)) 196 rfl rfl (by kernel_rfl) (by kernel_rfl) (by kernel_rfl) rfl (fun w' hw' => by obtain ⟨t1, t2, t3, t4, t5⟩ := hw'; go_simp) hS2 ?_
                simp only [Act.put, List.setIfInBounds_toArray, List.set_cons_zero, List.set_cons_succ]
                refine held_take (i := 11) (v := .pointer (some ⟨g2, off2 + k * 2 + 1, none⟩)) 197 rfl rfl (by kernel_rfl) (by kernel_rfl) (by kernel_rfl) rfl (fun w' hw' => by obtain ⟨t1, t2, t3, t4, t5⟩ := hw'; go_simp) hS2 ?_
                simp only [Act.put, List.setIfInBounds_toArray, List.set_cons_zero, List.set_cons_succ]
                refine held_take (i := 12) (v := .int .u64 y2) 198 rfl rfl (by kernel_rfl) (by kernel_rfl) (by kernel_rfl) rfl (fun w' hw' => by obtain ⟨t1, t2, t3, t4, t5⟩ := hw'; go_simp) hS2 ?_
                simp only [Act.put, List.setIfInBounds_toArray, List.set_cons_zero, List.set_cons_succ]
                refine held_call (i := 13) 199 (by kernel_rfl) rfl rfl rfl (by go_simp) (hfput.mono ?_)
                rintro e Z2 ⟨rfl, hS3, hH⟩
                refine ⟨_, rfl, hS3, ?_⟩
                simp only [Act.put, List.setIfInBounds_toArray, List.set_cons_zero, List.set_cons_succ]
                refine held_end (by kernel_rfl) ?_ _
                obtain ⟨Of3, hW4, hk4, hsub4⟩ := hH.out
                replace hk4 : Keeps Of2 Z1 Z2 := ⟨hk4.os, hk4.tape, hk4.output, hk4.size, hk4.block⟩
                rw [List.append_assoc, ← take_succ_at HX2.out] at hW4
                have hcOw : ∀ i, Ow2 i → ∃ c t fr, Yn.heap[i]? = some (.cells c t fr) := fun i hi => hWn.lg.cells hi
                have hcOf : ∀ i, Of2 i → ∃ c t fr, Z1.heap[i]? = some (.cells c t fr) := fun i hi => hW3.rf.cells hi
                have hne : ∀ {Z : World} {i : Nat} {o : Obj}, (∃ c t fr, Z.heap[i]? = some (.cells c t fr)) → Z.heap[i]? = some o → o.isCells = false → False := fun ⟨c, t, fr, h1⟩ h2 h3 => by
                  rw [h1] at h2
                  cases h2
                  cases h3
                have hfin : Hid (KeepsFrom Y0.heap.size Y Z2 ∧ KeptOn (fun k => Y0.heap.size + 2 ≤ k ∧ k < Y0.heap.size + 2 + 2) Y Z2 ∧ (∃ Ow' Of', Wk w Z2 B4 r er q (ps ++ qs.take (pre ++ [(k, a, y)]).length) (b7 + 1) (ps ++ qs.take (pre ++ [(k, a, y)]).length) Or2 Ow' Of' ∧ ∀ k, Ow' k ∨ Of' k → k ≠ bn ∧ (k < bm ∨ Y0.heap.size + 4 ≤ k)) ∧ Z2.heap[bm]? = some (.cells #[.int .i64 (pre ++ [(k, a, y)]).length] 3 (0, 0)) ∧ Z2.heap[bn]? = some (.cells #[.int .i64 ps.length] 3 (0, 0)) ∧ Z2.heap[D1]? = some (.deferred (some []))) := by
                  refine ⟨⟨Nat.le_trans hkf0.size (Nat.le_trans hk3.size hk4.size), fun i o hB hi ho => ?_⟩, ⟨Nat.le_trans hko0.size (Nat.le_trans hk3.size hk4.size), fun i c t fr hS hi => ?_⟩, ⟨Ow3, Of3, by rw [hlen2]; exact hW4, fun i hi => ?_⟩, ?_, ?_, ?_⟩
                  · have h1 := hkf0.same i o hB hi ho
                    have h2 := hk3.old h1 (fun e => hne (hcOw i e) h1 ho)
                    exact hk4.old h2 (fun e => hne (hcOf i e) h2 ho)
                  · have h1 := hko0.block i c t fr hS hi
                    have h3 : ∀ j, Ow2 j ∨ Of2 j → ¬ (Y0.heap.size + 2 ≤ j ∧ j < Y0.heap.size + 2 + 2) := fun j hj e => by have := (hTO j hj).2; omega
                    exact hk4.old (hk3.old h1 (fun e => h3 i (.inl e) hS)) (fun e => h3 i (.inr e) hS)
                  · have hb1n := lt_of_block hbn1
                    rcases hi with hi | hi
                    · rcases hsub3 i hi with e | e
                      · exact hTO i (.inl e)
                      · have e' : Yn.heap.size ≤ i := e
                        exact ⟨by omega, .inr (by omega)⟩
                    · rcases hsub4 i hi with e | e
                      · exact hTO i (.inr e)
                      · have e' : Z1.heap.size ≤ i := e
                        exact ⟨by omega, .inr (by omega)⟩
                  · rw [hlen1]
                    exact hk4.old hbm3 hbmO.2.2
                  · exact hk4.old (hk3.old hbn1 (fun e => (hTO bn (.inl e)).1 rfl)) (fun e => (hTO bn (.inr e)).1 rfl)
                  · have h2 := hk3.old hD1' (fun e => hne (hcOw D1 e) hD1' rfl)
                    exact hk4.old h2 (fun e => hne (hcOf D1 e) h2 rfl)
                clear hfput hS2 hS3 hH hW3 hW4 hk3 hk4 hsub3 hsub4 hcOw hcOf hne hbm3 hWn hkf0 hko0 hbm1 hbn1 hD1' hlen1 hlen2
                gi_wp2
                exact hfin.out
              · have htk : qs.take k = qs.take (k + 1) := by rw [List.take_of_length_le (by omega), List.take_of_length_le (by omega)]
                rw [htk] at hWn
                have hgt : ¬ ((k : Int) + 1 ≤ (qs.length : Int)) := by omega
                have hfin : Hid (KeepsFrom Y0.heap.size Y ((Y.drewN nq).setCell ⟨bm, 0, none⟩ (.int .i64 ((k : Int) + 1))) ∧ KeptOn (fun k => Y0.heap.size + 2 ≤ k ∧ k < Y0.heap.size + 2 + 2) Y ((Y.drewN nq).setCell ⟨bm, 0, none⟩ (.int .i64 ((k : Int) + 1))) ∧ (∃ Ow' Of', Wk w ((Y.drewN nq).setCell ⟨bm, 0, none⟩ (.int .i64 ((k : Int) + 1))) B4 r er q (ps ++ qs.take (pre ++ [(k, a, y)]).length) (b7 + 1) (ps ++ qs.take (pre ++ [(k, a, y)]).length) Or2 Ow' Of' ∧ ∀ k, Ow' k ∨ Of' k → k ≠ bn ∧ (k < bm ∨ Y0.heap.size + 4 ≤ k)) ∧ ((Y.drewN nq).setCell ⟨bm, 0, none⟩ (.int .i64 ((k : Int) + 1))).heap[bm]? = some (.cells #[.int .i64 (pre ++ [(k, a, y)]).length] 3 (0, 0)) ∧ ((Y.drewN nq).setCell ⟨bm, 0, none⟩ (.int .i64 ((k : Int) + 1))).heap[bn]? = some (.cells #[.int .i64 ps.length] 3 (0, 0)) ∧ ((Y.drewN nq).setCell ⟨bm, 0, none⟩ (.int .i64 ((k : Int) + 1))).heap[D1]? = some (.deferred (some []))) :=
                  ⟨⟨kf1.size, kf1.same⟩, ⟨ko1.size, ko1.block⟩, ⟨Ow2, Of2, by rw [hlen2]; exact hWn, hTO⟩, by rw [hlen1]; exact hbm1, hbn1, hD1'⟩
                have x3n := hWn.cell m3
                clear hWn hbm1 hbn1 hD1' kf1 ko1 hlen1 hlen2 hW hbm hbn hD hkm htk
                gi_wp2
                exact hfin.out
            case done =>
              clear hh2 hbm hbn6 hD6 hW6
              rintro zs Y hzs ⟨⟨Ow2, Of2, hW, hTO⟩, hbm, hbn, hD⟩ hDb
              have hLb : (ps ++ qs.take zs.length).length ≤ 2000 := by rw [List.length_append, List.length_take]; omega
              rw [hzs] at hbm
              generalize ps ++ qs.take zs.length = L2 at hW hLb
              have hm4 := hW.bx _ _ m4
              have hS_of : ∀ Z, Keeps (fun _ => False) Y Z → (fun W => W.cell? ⟨bn, 0, none⟩ = some (.int .i64 ps.length) ∧ W.cell? ⟨b2, 0, none⟩ = some (.slice a1 ps.length ca) ∧ W.cell? ⟨bm, 0, none⟩ = some (.int .i64 (redoE ps).length) ∧ W.cell? ⟨b13, 0, none⟩ = some (.slice ao (redoE ps).length co) ∧ W.cell? ⟨b7 + 1 + 1, 0, none⟩ = some (.pointer (some ⟨b7 + 1, 0, none⟩)) ∧ W.cell? ⟨b5, 0, none⟩ = some (.pointer (some ⟨r, 0, none⟩)) ∧ W.cell? ⟨b2 + 1, 0, none⟩ = some (.slice b1 qs.length cb)) Z := fun Z hk => ⟨cell_of_block (hk.old hbn (fun f => f)) 0, (hW.same hk).cell m2, cell_of_block (hk.old hbm (fun f => f)) 0, (hW.same hk).cell mt, (hW.same hk).cell m9, (hW.same hk).cell m5, (hW.same hk).cell m3⟩
              have hkl : ∀ {Z W0 : World}, Keeps (fun _ => False) Y Z → Like W0 Z → Keeps (fun _ => False) Y W0 := fun h l => l.keeps h
              have HRed : Hid (∀ W0, Like W0 Y → Calls Tryd.prog 27 #[.pointer (some ⟨b7 + 1, 0, none⟩)] W0 fun e w' => ∃ vz, e = .returned vz ∧ (fun W => W.cell? ⟨bn, 0, none⟩ = some (.int .i64 ps.length) ∧ W.cell? ⟨b2, 0, none⟩ = some (.slice a1 ps.length ca) ∧ W.cell? ⟨bm, 0, none⟩ = some (.int .i64 (redoE ps).length) ∧ W.cell? ⟨b13, 0, none⟩ = some (.slice ao (redoE ps).length co) ∧ W.cell? ⟨b7 + 1 + 1, 0, none⟩ = some (.pointer (some ⟨b7 + 1, 0, none⟩)) ∧ W.cell? ⟨b5, 0, none⟩ = some (.pointer (some ⟨r, 0, none⟩)) ∧ W.cell? ⟨b2 + 1, 0, none⟩ = some (.slice b1 qs.length cb)) w' ∧ Hid (Row w' 72 2 vz (redoE L2).length (entV (redoE L2)) ∧ Keeps (fun _ => False) Y w')) := fun W0 hl => by
                have hk0 := hkl (Keeps.refl _ Y) hl
                obtain ⟨vF, hF, _⟩ := (hW.same hk0).rf
                refine (ref_redo _ 1000000 L2 vF W0 hF (by omega)).mono ?_
                rintro e w' ⟨vz, rfl, h1, _, h2⟩
                exact ⟨vz, rfl, hS_of _ (hk0.trans h2), h1, hk0.trans h2⟩
              have HWalk : Hid (∀ Z vz W0, Keeps (fun _ => False) Y Z → Row Z 72 2 vz (redoE L2).length (entV (redoE L2)) → Like W0 Z → Calls Tryd.prog 14 #[.func (.func 58) #[] #[.pointer (some ⟨o1 + 1, 0, none⟩)], vz, .int .i64 0] W0 fun e w' => e = .returned (.bool true) ∧ (fun W => W.cell? ⟨bn, 0, none⟩ = some (.int .i64 ps.length) ∧ W.cell? ⟨b2, 0, none⟩ = some (.slice a1 ps.length ca) ∧ W.cell? ⟨bm, 0, none⟩ = some (.int .i64 (redoE ps).length) ∧ W.cell? ⟨b13, 0, none⟩ = some (.slice ao (redoE ps).length co) ∧ W.cell? ⟨b7 + 1 + 1, 0, none⟩ = some (.pointer (some ⟨b7 + 1, 0, none⟩)) ∧ W.cell? ⟨b5, 0, none⟩ = some (.pointer (some ⟨r, 0, none⟩)) ∧ W.cell? ⟨b2 + 1, 0, none⟩ = some (.slice b1 qs.length cb)) w' ∧ Hid (Keeps (fun _ => False) Y w')) := fun Z vz W0 hk hrow hl => by
                have hk0 := hkl hk hl
                have hW0 := hW.same hk0
                refine (lwalk (o1 + 1) 48 (some ⟨q, 0, none⟩) (redoE L2) (by have := redoE_length L2; omega) vz 0 (fun M k => M ≤ k ∧ k < M + 2) (0, 0) W0 (enters_of Tryd.func48 (by kernel_rfl) rfl) (hW0.bx _ _ mw) (hrow.like hl).pairs (fun M k _ h => .inr h.1) (fun W hkW => (log_handed (hW0.same hkW).lg).mono fun e w' ⟨a, c, q1, q2, q3, _⟩ => ⟨a, c, q1, q2, q3⟩)).mono ?_
                rintro e w' ⟨rfl, h2⟩
                exact ⟨rfl, hS_of _ (hk0.trans h2), hk0.trans h2⟩
              have HLen : Hid (∀ Z W0, Keeps (fun _ => False) Y Z → Like W0 Z → Calls Tryd.prog 32 #[.pointer (some ⟨r, 0, none⟩)] W0 fun e w' => e = .returned (.int .i64 er.length) ∧ (fun W => W.cell? ⟨bn, 0, none⟩ = some (.int .i64 ps.length) ∧ W.cell? ⟨b2, 0, none⟩ = some (.slice a1 ps.length ca) ∧ W.cell? ⟨bm, 0, none⟩ = some (.int .i64 (redoE ps).length) ∧ W.cell? ⟨b13, 0, none⟩ = some (.slice ao (redoE ps).length co) ∧ W.cell? ⟨b7 + 1 + 1, 0, none⟩ = some (.pointer (some ⟨b7 + 1, 0, none⟩)) ∧ W.cell? ⟨b5, 0, none⟩ = some (.pointer (some ⟨r, 0, none⟩)) ∧ W.cell? ⟨b2 + 1, 0, none⟩ = some (.slice b1 qs.length cb)) w' ∧ Hid (Keeps (fun _ => False) Y w')) := fun Z W0 hk hl => by
                have hk0 := hkl hk hl
                refine (rlog_len r _ _ _ W0 (hW.same hk0).rl).mono ?_
                rintro e w' ⟨rfl, hw'⟩
                rw [hw']
                exact ⟨rfl, hS_of _ hk0, hk0⟩
              have HWork : Hid (∀ Z W0, Keeps (fun _ => False) Y Z → Like W0 Z → Calls Tryd.prog 10 #[] W0 fun e w' => e = .returned (.bool true) ∧ (fun W => W.cell? ⟨bn, 0, none⟩ = some (.int .i64 ps.length) ∧ W.cell? ⟨b2, 0, none⟩ = some (.slice a1 ps.length ca) ∧ W.cell? ⟨bm, 0, none⟩ = some (.int .i64 (redoE ps).length) ∧ W.cell? ⟨b13, 0, none⟩ = some (.slice ao (redoE ps).length co) ∧ W.cell? ⟨b7 + 1 + 1, 0, none⟩ = some (.pointer (some ⟨b7 + 1, 0, none⟩)) ∧ W.cell? ⟨b5, 0, none⟩ = some (.pointer (some ⟨r, 0, none⟩)) ∧ W.cell? ⟨b2 + 1, 0, none⟩ = some (.slice b1 qs.length cb)) w' ∧ (fun W => W.cell? ⟨bn, 0, none⟩ = some (.int .i64 ps.length) ∧ W.cell? ⟨b2, 0, none⟩ = some (.slice a1 ps.length ca) ∧ W.cell? ⟨bm, 0, none⟩ = some (.int .i64 (redoE ps).length) ∧ W.cell? ⟨b13, 0, none⟩ = some (.slice ao (redoE ps).length co) ∧ W.cell? ⟨b7 + 1 + 1, 0, none⟩ = some (.pointer (some ⟨b7 + 1, 0, none⟩)) ∧ W.cell? ⟨b5, 0, none⟩ = some (.pointer (some ⟨r, 0, none⟩)) ∧ W.cell? ⟨b2 + 1, 0, none⟩ = some (.slice b1 qs.length cb)) (w'.setCell ⟨b2 + 1 + 1, 0, none⟩ (.bool true)) ∧ w'.cell? ⟨b2 + 1 + 1, 0, none⟩ = some (.bool false) ∧ w'.frozen? ⟨b2 + 1 + 1, 0, none⟩ = false ∧ Hid (Keeps (fun _ => False) Y w')) := fun Z W0 hk hl => by
                have hk0 := hkl hk hl
                refine (works_any W0 (hw.keeps (hW.kp.trans hk0) (fun f => f))).mono ?_
                rintro e w' ⟨rfl, h2⟩
                have h3 := (hk0.trans h2).old hm4 (fun f => f)
                have h4 := cell_of_block h3 0
                obtain ⟨s1, s2, s3, s4, s5, s6, s7⟩ := hS_of _ (hk0.trans h2)
                exact ⟨rfl, ⟨s1, s2, s3, s4, s5, s6, s7⟩, ⟨far_set s1 h4 nofun _, far_set s2 h4 nofun _, far_set s3 h4 nofun _, far_set s4 h4 nofun _, far_set s5 h4 nofun _, far_set s6 h4 nofun _, far_set s7 h4 nofun _⟩, h4, frozen_of_block h3 0, hk0.trans h2⟩
              have hS0 := hS_of Y (Keeps.refl _ _)
              obtain ⟨N, hN⟩ : ∃ N, (redoE ps).length = N := ⟨_, rfl⟩
              simp only [hN] at hS_of HRed HWalk HLen HWork hS0
              have hNl' : N ≤ 1000 := by omega
              obtain ⟨P, hP⟩ : ∃ P, (qs.length : Int) * (ps.length : Int) = P := ⟨_, rfl⟩
              have hER := HER.out.1
              have hEl := HER.out.2
              rw [hP] at hER
              have hP0 : 0 ≤ P := by rw [← hP]; exact Int.mul_nonneg (by omega) (by omega)
              have hP1 : P ≤ 1000000 := by
                rw [← hP]
                have h1 : (qs.length : Int) * (ps.length : Int) ≤ (qs.length : Int) * 1000 := Int.mul_le_mul_of_nonneg_left (by omega) (by omega)
                omega
              have hPw : IntKind.i64.wrap P = P := by rw [IntKind.wrap_i64]; omega
              have HFin : Hid (∀ Z, Keeps (fun _ => False) Y Z → ∃ _ : (Z.setCell ⟨b2 + 1 + 1, 0, none⟩ (.bool true)).heap[Y0.heap.size]? = some (.deferred (some [])), ∃ _ : ((Z.setCell ⟨b2 + 1 + 1, 0, none⟩ (.bool true)).putObj Y0.heap.size (.deferred none)).heap[D1]? = some (.deferred (some [])), (((Z.setCell ⟨b2 + 1 + 1, 0, none⟩ (.bool true)).putObj Y0.heap.size (.deferred none)).putObj D1 (.deferred none)).cell? ⟨b2 + 1 + 1, 0, none⟩ = some (.bool true) ∧ Keeps (fun _ => False) w (((Z.setCell ⟨b2 + 1 + 1, 0, none⟩ (.bool true)).putObj Y0.heap.size (.deferred none)).putObj D1 (.deferred none))) := fun Z hk => by
                have z4 := hk.old hm4 (fun f => f)
                have zD := hk.old hD (fun f => f)
                have zE := hk.old hDb (fun f => f)
                have n1 : b2 + 1 + 1 ≠ Y0.heap.size := fun e => by rw [e, zE] at z4; cases z4
                have n2 : b2 + 1 + 1 ≠ D1 := fun e => by rw [e, zD] at z4; cases z4
                have n3 : D1 ≠ Y0.heap.size := by omega
                have k1 : (Z.setCell ⟨b2 + 1 + 1, 0, none⟩ (.bool true)).heap[Y0.heap.size]? = some (.deferred (some [])) := (Below.heap_setCell Z ⟨b2 + 1 + 1, 0, none⟩ _ _ (Ne.symm n1)).trans zE
                have k2 : (Z.setCell ⟨b2 + 1 + 1, 0, none⟩ (.bool true)).heap[D1]? = some (.deferred (some [])) := (Below.heap_setCell Z ⟨b2 + 1 + 1, 0, none⟩ _ _ (Ne.symm n2)).trans zD
                have k3 := (World.putObj_heap_other (w := Z.setCell ⟨b2 + 1 + 1, 0, none⟩ (.bool true)) (o := .deferred none) n3).trans k2
                have r1 := block_set z4 0 (.bool true)
                have r2 := block_kept r1 (grownBy_putObj' _ Y0.heap.size (.deferred none)) (fun r e => by cases e; exact ⟨_, k1, rfl⟩)
                have r3 := block_kept r2 (grownBy_putObj' _ D1 (.deferred none)) (fun r e => by cases e; exact ⟨_, k3, rfl⟩)
                have hb4n : w.heap.size ≤ b2 + 1 + 1 := hW.bn _ _ m4
                have hD1n : w.heap.size ≤ D1 := HD1.out
                exact ⟨k1, k3, cell_of_block r3 0, (((hW.kp.trans hk).setCell (p := ⟨b2 + 1 + 1, 0, none⟩) (.inl hb4n) _).step (keeps_grown (grownBy_putObj' _ Y0.heap.size (.deferred none))) (fun i hi e => by injection e with e; omega)).step (keeps_grown (grownBy_putObj' _ D1 (.deferred none))) (fun i hi e => by injection e with e; omega)⟩
              clear hW hTO hbm hbn hD hDb hm4 hS_of hkl hN
              have hcase : (P < (qs.length : Int) ∧ (er.length : Int) = P) ∨ (¬ P < (qs.length : Int) ∧ (er.length : Int) = (qs.length : Int)) := by omega
              clear hER
              rcases hcase with ⟨hPq, hE⟩ | ⟨hPq, hE⟩
              all_goals
                gi_wp2_with fail
                refine wpIn_wide.2 ?_
                go_region_held3 (fun W => W.cell? ⟨bn, 0, none⟩ = some (.int .i64 ps.length) ∧ W.cell? ⟨b2, 0, none⟩ = some (.slice a1 ps.length ca) ∧ W.cell? ⟨bm, 0, none⟩ = some (.int .i64 N) ∧ W.cell? ⟨b13, 0, none⟩ = some (.slice ao N co) ∧ W.cell? ⟨b7 + 1 + 1, 0, none⟩ = some (.pointer (some ⟨b7 + 1, 0, none⟩)) ∧ W.cell? ⟨b5, 0, none⟩ = some (.pointer (some ⟨r, 0, none⟩)) ∧ W.cell? ⟨b2 + 1, 0, none⟩ = some (.slice b1 qs.length cb)) (first | assumption | (exact hS0) | (exact hS5) | go_keep) ((first
                  | (go_at_call 27; refine (HRed.out _ (by exact ⟨rfl, rfl, rfl, rfl⟩)).mono ?_; rintro e Z1 ⟨vz, rfl, hS1, hH1⟩)
                  | (go_at_call 14; refine (HWalk.out _ _ _ hH1.out.2 hH1.out.1 (by exact ⟨rfl, rfl, rfl, rfl⟩)).mono ?_; rintro e Z2 ⟨rfl, hS2, hH2⟩)
                  | (go_at_call 32; refine (HLen.out _ _ hH2.out (by exact ⟨rfl, rfl, rfl, rfl⟩)).mono ?_; rintro e Z3 ⟨rfl, hS3, hH3⟩)
                  | (go_at_call 10; refine (HWork.out _ _ hH3.out (by exact ⟨rfl, rfl, rfl, rfl⟩)).mono ?_; rintro e Z4 ⟨rfl, hS4, hS5, hc4, hf4, hH4⟩)))
                all_goals gi_wp2_with fail
                all_goals
                  obtain ⟨k1, k3, r9, hkp⟩ := HFin.out Z4 hH4.out
                  refine ⟨by simp, .inl ⟨_, _, rfl, run_takeDeferred k1, ?_⟩⟩
                  refine ⟨by simp, .inl ⟨_, _, rfl, run_takeDeferred k3, ?_⟩⟩
                  refine ⟨.bool true, ?_, rfl, hkp⟩
                  simp [results, Tryd.f5, go_sem, r9]
    · have hwk := works_any _ (hw.keeps hkp5 (fun f => f))
      have hla' : (ps.length : Int) ≤ 1000 := by omega
      have hlb' : ¬ ((qs.length : Int) ≤ 1000) := by omega
      gi_wp2_with fail
      refine ⟨trivial, (callsIn_wide.2 hwk).mono ?_⟩
      rintro e w6 ⟨rfl, hk6⟩
      have e6 := (k15.trans hk6).old e2 (fun f => f)
      have z6 : w6.cell? ⟨w.heap.size + 1 + 1, 0, none⟩ = some (.bool false) := cell_of_block e6 0
      have f6 := frozen_of_block e6 0
      have r6 : (w6.setCell ⟨w.heap.size + 1 + 1, 0, none⟩ (.bool true)).cell? ⟨w.heap.size + 1 + 1, 0, none⟩ = some (.bool true) := cell_of_block (block_set e6 0 (.bool true)) 0
      have hkp6 : Keeps (fun _ => False) w (w6.setCell ⟨w.heap.size + 1 + 1, 0, none⟩ (.bool true)) := (hkp5.trans hk6).setCell (p := ⟨w.heap.size + 1 + 1, 0, none⟩) (.inl (by show w.heap.size ≤ w.heap.size + 1 + 1; omega)) _
      gi_wp2_with fail
      refine ⟨.bool true, ?_, rfl, hkp6⟩
      simp [results, Tryd.f5, go_sem, r6]
  · have hwk := works_any _ (hw.keeps hkp5 (fun f => f))
    have hla' : ¬ ((ps.length : Int) ≤ 1000) := by omega
    gi_wp2_with fail
    refine ⟨trivial, (callsIn_wide.2 hwk).mono ?_⟩
    rintro e w6 ⟨rfl, hk6⟩
    have e6 := (k15.trans hk6).old e2 (fun f => f)
    have z6 : w6.cell? ⟨w.heap.size + 1 + 1, 0, none⟩ = some (.bool false) := cell_of_block e6 0
    have f6 := frozen_of_block e6 0
    have r6 : (w6.setCell ⟨w.heap.size + 1 + 1, 0, none⟩ (.bool true)).cell? ⟨w.heap.size + 1 + 1, 0, none⟩ = some (.bool true) := cell_of_block (block_set e6 0 (.bool true)) 0
    have hkp6 : Keeps (fun _ => False) w (w6.setCell ⟨w.heap.size + 1 + 1, 0, none⟩ (.bool true)) := (hkp5.trans hk6).setCell (p := ⟨w.heap.size + 1 + 1, 0, none⟩) (.inl (by show w.heap.size ≤ w.heap.size + 1 + 1; omega)) _
    gi_wp2_with fail
    refine ⟨.bool true, ?_, rfl, hkp6⟩
    simp [results, Tryd.f5, go_sem, r6]
end Go.Proofs.YtljcojonchfjfaaDoor
