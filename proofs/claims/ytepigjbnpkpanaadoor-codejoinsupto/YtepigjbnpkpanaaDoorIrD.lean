
/- Walks of the document's Join (package parleyref08). No statement of the seat is proved here. -/
import Derived.Test.YtepigjbnpkpanaaDoorIrC
namespace Go.Proofs.YtepigjbnpkpanaaDoor
open Go.RowKit Go.Shelf

/-- What the document's Join answers. -/
def KPost (Ps : List (List I5)) (base : Nat) (e : Ending) (w' : World) : Prop := ((∀ p ∈ Ps, ∀ i ∈ p, formedB i = true) → ∃ v', e = .returned (.tuple #[v', .bool true]) ∧ Irs w' base v' (jn [] Ps)) ∧ ((¬ ∀ p ∈ Ps, ∀ i ∈ p, formedB i = true) → e = .returned (.tuple #[.slice none 0 0, .bool false]))

set_option maxRecDepth 100000 in
set_option maxHeartbeats 4000000 in
theorem rjoin_any (v : Value) (Ps : List (List I5)) (w : World) (h : PrsAt w v Ps) :
    Calls Tryd.prog 31 #[v] w fun e w' => KPost Ps w.heap.size e w' ∧ Keeps (fun _ => False) w w' := by
  have hfew := h.few
  have heach := h.each
  obtain ⟨⟨av, cap, rfl, hc0⟩, _, _⟩ := h
  have HC : Hid (∀ k (hk : k < Ps.length), ∃ g off pa pc, av = some ⟨g, off, none⟩ ∧ ∀ X, Keeps (fun _ => False) w X → X.cell? ⟨g, off + k, none⟩ = some (.slice pa (Ps[k]).length pc) ∧ InsAt X (.slice pa (Ps[k]).length pc) Ps[k]) := fun k hk => by
    obtain ⟨g, off, pa, pc, ha, c0, c1⟩ := hc0 k hk
    refine ⟨g, off, pa, pc, ha, fun X kx => ⟨?_, c1.keeps kx⟩⟩
    rw [← c0]
    simp only [World.cell?, kx.block g (World.block_lt_of_cell? _ _ c0) (fun f => f)]
  clear hc0
  go_enter Tryd.func31, Tryd.ntmps31
  go_wp2_with fail
  go_loopw [4, 5] (fun u m wr => ∃ k : Nat, m = .int .i64 k ∧ k ≤ Ps.length ∧ Hid ((∀ p ∈ Ps.take k, ∀ i ∈ p, formedB i = true) ∧ Irs wr w.heap.size u (jn [] (Ps.take k)) ∧ (jn [] (Ps.take k)).length ≤ k * 4194304 ∧ Keeps (fun _ => False) w wr)) (fun _ m _ => Ps.length - (intOf m).toNat)
  case atStart => exact ⟨0, rfl, Nat.zero_le _, ⟨by simp, by simpa [jn] using Irs.nil w, by simp [jn], Keeps.refl _ _⟩⟩
  case round =>
    obtain ⟨k, rfl, hk, hh⟩ := hrel
    by_cases hlt : k < Ps.length
    · have hki : (k : Int) < Ps.length := by omega
      obtain ⟨q1, q2, q3, q4⟩ := hh.out
      obtain ⟨g, off, pa, pc, rfl, hX⟩ := HC.out k hlt
      have c0 := (hX wr q4).1
      have hjt := jn_take [] Ps k hlt
      have hPl := heach _ (List.getElem_mem hlt)
      have hbadP : ∀ i ∈ Ps[k], formedB i = false → ¬ ∀ p ∈ Ps, ∀ i ∈ p, formedB i = true := fun i hi hf h => by
        have := h _ (List.getElem_mem hlt) i hi
        rw [hf] at this; cases this
      have hfk : (∀ i ∈ Ps[k], formedB i = true) → ∀ p ∈ Ps.take (k + 1), ∀ i ∈ p, formedB i = true := fun hP p hp i hi => by
        rw [List.take_succ_eq_append_getElem hlt] at hp
        rcases List.mem_append.1 hp with hp | hp
        · exact q1 p hp i hi
        · simp at hp; subst hp; exact hP i hi
      have HI : Hid (∀ X, Keeps (fun _ => False) w X → InsAt X (.slice pa (Ps[k]).length pc) Ps[k]) := fun X kx => (hX X kx).2
      have HCL : Hid (∀ X, Keeps (fun _ => False) w X → X.cell? ⟨g, off + k, none⟩ = some (.slice pa (Ps[k]).length pc)) := fun X kx => (hX X kx).1
      obtain ⟨ub, uc, rfl⟩ := q2.form
      generalize jn [] (Ps.take k) = A at *
      generalize hPk : Ps[k] = P at *
      have hA : (A.length : Int) < 18446744073709551616 := by omega
      have HQ : Hid (A.length ≤ 8388608) := by show A.length ≤ _; have : k ≤ 2 := by omega
                                               have := Nat.mul_le_mul_right 4194304 this
                                               omega
      clear hX q1 hh HC
      go_wp2_with fail
      go_loopw [4, 7] (fun u m wr' => ∃ j : Nat, m = .int .i64 j ∧ j ≤ P.length ∧ Hid ((∀ i ∈ P.take j, formedB i = true) ∧ Irs wr' w.heap.size u (A ++ (P.take j).map (shift A.length)) ∧ Keeps (fun _ => False) w wr')) (fun _ m _ => P.length - (intOf m).toNat)
      case atStart => exact ⟨0, rfl, Nat.zero_le _, ⟨by simp, by simpa using q2, q4⟩⟩
      case round =>
        obtain ⟨W0, hW0⟩ : ∃ W, W = wr := ⟨_, rfl⟩
        subst hW0
        obtain ⟨j, rfl, hj, hg⟩ := hrel
        clear c0 q2 q4
        obtain ⟨g1, g2, g3⟩ := hg.out
        have c0 := HCL.out W0 g3
        by_cases hjl : j < P.length
        · have hji : (j : Int) < P.length := by omega
          obtain ⟨⟨pa', pc', e', cc⟩, hwf, _⟩ := HI.out W0 g3
          simp only [Value.slice.injEq] at e'
          obtain ⟨rfl, -, rfl⟩ := e'
          obtain ⟨gp, ofp, rfl, x0, x1, x2, x3, x4⟩ := cc j hjl
          have hiw := hwf _ (List.getElem_mem hjl)
          have hpt : (P.take (j + 1)).map (shift A.length) = (P.take j).map (shift A.length) ++ [shift A.length (P[j]'hjl)] := by
            rw [List.take_succ_eq_append_getElem hjl, List.map_append]; rfl
          have hbj := hbadP _ (List.getElem_mem hjl)
          have hfj : formedB (P[j]'hjl) = true → ∀ i ∈ P.take (j + 1), formedB i = true := fun hf i hi => by
            rw [List.take_succ_eq_append_getElem hjl] at hi
            rcases List.mem_append.1 hi with hi | hi
            · exact g1 i hi
            · simp at hi; subst hi; exact hf
          have FA := rformed_any (P[j]'hjl)
          have hXl : (A ++ (P.take j).map (shift A.length)).length ≤ 12582912 := by
            have := HQ.out
            rw [List.length_append, List.length_map, List.length_take]
            omega
          generalize hi0 : P[j]'hjl = i at *
          have hsw := shift_wf A.length hiw
          obtain ⟨op, a, b, c, n⟩ := i
          dsimp only at x0 x1 x2 x3 x4
          have kb := (Keeps.refl (fun _ => False) W0).alloc (.cells #[.int .i64 op, .int .i64 a, .int .i64 b, .int .i64 c, .int .u64 n] 38)
          cases hf : formedB ⟨op, a, b, c, n⟩ with
          | false =>
            rw [hf] at FA
            have hnot := hbj hf
            clear cc hwf hg hfj hbj hpt hfk hjt hbadP HI HCL
            go_wp2_with (go_at_call 17; refine (FA _).mono ?_; rintro e w1 ⟨rfl, k1⟩)
            go_ret2
            exact ⟨⟨fun h => absurd h hnot, fun _ => rfl⟩, g3.trans (kb.trans k1)⟩
          | true =>
            rw [hf] at FA
            obtain ⟨⟨o0, o1⟩, -⟩ := formed_facts hf
            dsimp only at o0 o1
            go_wp2_with fail
            refine (FA _).mono ?_
            rintro e w1 ⟨rfl, k1⟩
            have k01 := kb.trans k1
            have b1 : w1.heap[W0.heap.size]? = some (.cells #[.int .i64 op, .int .i64 a, .int .i64 b, .int .i64 c, .int .u64 n] 38 (0, 0)) := (k1.block _ (by simp) (fun f => f)).trans (MapKept.heap_alloc _ _).1
            have hnb : ∀ gg, u4.ownBlock = some gg → gg ≠ W0.heap.size := fun gg hgg => by have := (own_block g2.own hgg).1; omega
            have g2' := g2.keeps k01 (fun _ _ f => f)
            have G3 := g3.trans k01
            have RI := rinfo_yes op o0 o1
            obtain ⟨z0, -, -, -, -⟩ := cells5 b1
            generalize regsN op = rr at *
            generalize numB op = nbb at *
            generalize outB op = ob at *
            generalize insB op = ib at *
            generalize htt : tgtB op = tt at *
            clear x0 x1 x2 x3 x4 FA k1 kb
            go_wp2_with fail
            refine (RI _).mono ?_
            rintro e w2 ⟨rfl, k2⟩
            have kf := (Keeps.refl (fun _ => False) w2).alloc (.cells #[.int .i64 rr, .bool nbb, .bool tt, .bool ob, .bool ib] 24)
            have d2 := (MapKept.heap_alloc w2 (.cells #[.int .i64 rr, .bool nbb, .bool tt, .bool ob, .bool ib] 24)).1
            have b3 := (kf.block _ (Nat.lt_of_lt_of_le (lt_of_block b1) k2.size) (fun f => f)).trans ((k2.block _ (lt_of_block b1) (fun f => f)).trans b1)
            have k23 := k2.trans kf
            have g3' := g2'.keeps k23 (fun _ _ f => f)
            have G4 := G3.trans k23
            have hszF : (w2.alloc (.cells #[.int .i64 rr, .bool nbb, .bool tt, .bool ob, .bool ib] 24)).heap.size = w2.heap.size + 1 := by simp
            obtain ⟨y0, y1, y2, y3, y4⟩ := cells5 d2
            obtain ⟨z0', z1, z2, z3, z4⟩ := cells5 b3
            have zf := frozen_of_block b3 4
            clear z0 RI b1 d2 k2 kf k23 y0 y1 y3 y4
            obtain ⟨W3, hW3⟩ : ∃ W, W = w2.alloc (.cells #[.int .i64 rr, .bool nbb, .bool tt, .bool ob, .bool ib] 24) := ⟨_, rfl⟩
            rw [← hW3] at g3' G4 y2 z0' z1 z2 z3 z4 zf b3 hszF
            cases tt with
            | false =>
              have hsh : shift A.length ⟨op, a, b, c, n⟩ = ⟨op, a, b, c, n⟩ := by simp [shift, htt]
              rw [hsh] at hsw hpt
              obtain ⟨v1, w4, r1, r2, r3⟩ := g3'.push1 ⟨op, a, b, c, n⟩ hsw hXl
              rw [hszF] at r1
              have HR : Hid (_ = _) := r1
              have KK := Irs.kept r3 G4 g3'
              clear r1 r3 cc hwf hbj hjt hfk hbadP HI HCL g2 g2' g3' g3 G3 G4 hnb k01 c0 b3 hszF
              dsimp only at HR
              subst hW3
              go_wp2_with (first | (at_builtin; refine wpList_append_run rfl _ _ 50 rfl rfl rfl HR.out ?_))
              go_roundw
              · exact ⟨j + 1, by simp, by omega, ⟨hfj hf, by rw [hpt, ← List.append_assoc]; exact r2, KK⟩⟩
              · simp [intOf]; omega
            | true =>
              have hsh : shift A.length ⟨op, a, b, c, n⟩ = ⟨op, a, b, c, IntKind.u64.wrap (n + A.length)⟩ := by simp [shift, htt, IntKind.wrap, IntKind.signed, IntKind.bits]
              rw [hsh] at hsw hpt
              have gs := g3'.keeps (w' := W3.setCell ⟨W0.heap.size, 4, none⟩ (.int .u64 (IntKind.u64.wrap (n + A.length)))) (S := fun q => q = W0.heap.size) ((Keeps.refl (fun q => q = W0.heap.size) W3).setCell (p := ⟨W0.heap.size, 4, none⟩) (.inr rfl) _) (fun gg hgg e => hnb gg hgg e)
              obtain ⟨v1, w4, r1, r2, r3⟩ := gs.push1 ⟨op, a, b, c, IntKind.u64.wrap (n + A.length)⟩ hsw hXl
              rw [show (W3.setCell ⟨W0.heap.size, 4, none⟩ (.int .u64 (IntKind.u64.wrap (n + A.length)))).heap.size = W3.heap.size by simp, hszF] at r1
              have HR : Hid (_ = _) := r1
              have KK := Irs.kept r3 (G4.setCell (p := ⟨W0.heap.size, 4, none⟩) (.inl g3.size) (.int .u64 (IntKind.u64.wrap (n + A.length)))) gs
              clear r1 r3 cc hwf hbj hjt hfk hbadP HI HCL g2 g2' g3' gs g3 G3 G4 hnb k01 c0 b3 hszF
              dsimp only at HR
              subst hW3
              go_wp2_with (first | (at_builtin; refine wpList_append_run rfl _ _ 50 rfl rfl rfl HR.out ?_))
              go_roundw
              · exact ⟨j + 1, by simp, by omega, ⟨hfj hf, by rw [hpt, ← List.append_assoc]; exact r2, KK⟩⟩
              · simp [intOf]; omega
        · have hji : ¬ (j : Int) < P.length := by omega
          obtain rfl : j = P.length := by omega
          rw [List.take_length] at g1 g2
          have hF := hfk g1
          have hL : (jn [] (Ps.take (k + 1))).length ≤ (k + 1) * 4194304 := by
            rw [hjt, List.length_append, List.length_map]; omega
          rw [← hjt] at g2
          clear hg hfk hbadP HI HCL hjt g1
          go_wp2_with fail
          go_roundw
          · exact ⟨k + 1, by simp, by omega, ⟨hF, g2, hL, g3⟩⟩
          · simp [intOf]; omega
    · have hki : ¬ (k : Int) < Ps.length := by omega
      obtain rfl : k = Ps.length := by omega
      obtain ⟨q1, q2, q3, q4⟩ := hh.out
      rw [List.take_length] at q1 q2
      clear hh HC
      go_wp2_with fail
      go_ret2
      exact ⟨⟨fun _ => ⟨_, rfl, q2⟩, fun h => absurd q1 h⟩, q4⟩
end Go.Proofs.YtepigjbnpkpanaaDoor
