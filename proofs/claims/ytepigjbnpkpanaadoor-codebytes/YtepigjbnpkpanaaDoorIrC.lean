
/- Walks of Join (package code). No statement of the seat is proved here. -/
import Derived.Test.YtepigjbnpkpanaaDoorIrB
namespace Go.Proofs.YtepigjbnpkpanaaDoor
open Go.RowKit Go.Shelf

/-- A target so much further on. -/
def shift (k : Nat) (i : I5) : I5 := if tgtB i.op then { i with n := (i.n + k) % 18446744073709551616 } else i
def jn (acc : List I5) (Ps : List (List I5)) : List I5 := Ps.foldl (fun acc p => acc ++ p.map (shift acc.length)) acc
theorem shift_wf (k : Nat) {i : I5} (h : i.wf) : (shift k i).wf := by
  unfold shift
  split
  · exact ⟨h.1, h.2.1, h.2.2.1, h.2.2.2.1, by show 0 ≤ (i.n + k) % 18446744073709551616; omega, by show (i.n + k) % 18446744073709551616 < _; omega⟩
  · exact h
theorem jn_take (acc : List I5) (Ps : List (List I5)) (k : Nat) (hk : k < Ps.length) : jn acc (Ps.take (k + 1)) = jn acc (Ps.take k) ++ (Ps[k]).map (shift (jn acc (Ps.take k)).length) := by
  unfold jn
  rw [List.take_succ_eq_append_getElem hk, List.foldl_append]
  rfl
/-- Programs where they lie. -/
structure PrsAt (w : World) (v : Value) (Ps : List (List I5)) : Prop where
  form : ∃ a cap, v = .slice a Ps.length cap ∧ ∀ k (hk : k < Ps.length), ∃ g off pa pc, a = some ⟨g, off, none⟩ ∧ w.cell? ⟨g, off + k, none⟩ = some (.slice pa (Ps[k]).length pc) ∧ InsAt w (.slice pa (Ps[k]).length pc) Ps[k]
  few : Ps.length ≤ 3
  each : ∀ p ∈ Ps, p.length ≤ 4194304
theorem PrsAt.keeps {w w' : World} {v : Value} {Ps : List (List I5)} (h : PrsAt w v Ps) (k : Keeps (fun _ => False) w w') : PrsAt w' v Ps := by
  obtain ⟨⟨a, cap, rfl, hc⟩, h2, h3⟩ := h
  refine ⟨⟨a, cap, rfl, fun j hj => ?_⟩, h2, h3⟩
  obtain ⟨g, off, pa, pc, rfl, c0, c1⟩ := hc j hj
  refine ⟨g, off, pa, pc, rfl, ?_, c1.keeps k⟩
  rw [← c0]
  simp only [World.cell?, k.block g (World.block_lt_of_cell? _ _ c0) (fun f => f)]

theorem Irs.push1 {w : World} {base : Nat} {v : Value} {L : List I5} (h : Irs w base v L) (i : I5) (hi : i.wf) (hb : L.length ≤ 12582912) :
    ∃ v' w', (Builtin.append_ #[50, 50] 50 #[v, .slice (some ⟨w.heap.size, 0, none⟩) 1 1]).run Tryd.prog (w.alloc (.cells #[.int .i64 i.op, .int .i64 i.a, .int .i64 i.b, .int .i64 i.c, .int .u64 i.n] 38)) = .ok v' w' ∧ Irs w' base v' (L ++ [i]) ∧ Grew w w' v v' := by
  have k0 := (Keeps.refl (fun _ => False) w).alloc (.cells #[.int .i64 i.op, .int .i64 i.a, .int .i64 i.b, .int .i64 i.c, .int .u64 i.n] 38)
  have b0 := (MapKept.heap_alloc w (.cells #[.int .i64 i.op, .int .i64 i.a, .int .i64 i.b, .int .i64 i.c, .int .u64 i.n] 38)).1
  have IB : InsAt (w.alloc (.cells #[.int .i64 i.op, .int .i64 i.a, .int .i64 i.b, .int .i64 i.c, .int .u64 i.n] 38)) (.slice (some ⟨w.heap.size, 0, none⟩) 1 1) [i] := by
    refine ⟨⟨_, 1, rfl, fun k hk => ⟨_, 0, rfl, ?_⟩⟩, by simpa using hi, by simp⟩
    obtain rfl : k = 0 := by simp at hk; omega
    refine ⟨?_, ?_, ?_, ?_, ?_⟩ <;> (rw [cell_of_block b0]; rfl)
  obtain ⟨v', w', h1, h2, h3⟩ := (h.keeps k0 (fun _ _ f => f)).app _ [i] IB (by simp; omega)
  exact ⟨v', w', h1, h2, Grew.ahead k0 h3⟩
theorem Irs.form {w : World} {base : Nat} {v : Value} {L : List I5} (h : Irs w base v L) : ∃ b c, v = .slice b L.length c := by
  rcases h.own.2 with ⟨rfl, h2⟩ | ⟨g, cap, cur, rfl, _⟩
  · exact ⟨none, 0, by rw [h2]⟩
  · exact ⟨_, cap, rfl⟩

/-- What Join answers. -/
def JPost (Ps : List (List I5)) (base : Nat) (e : Ending) (w' : World) : Prop := ((∀ p ∈ Ps, ∀ i ∈ p, formedB i = true) → ∃ v', e = .returned (.tuple #[v', .int .i64 0]) ∧ Irs w' base v' (jn [] Ps)) ∧ ((¬ ∀ p ∈ Ps, ∀ i ∈ p, formedB i = true) → e = .returned (.tuple #[.slice none 0 0, .int .i64 180]))

set_option maxRecDepth 100000 in
set_option maxHeartbeats 4000000 in
theorem join_any (v : Value) (Ps : List (List I5)) (w : World) (h : PrsAt w v Ps) :
    Calls Tryd.prog 30 #[v] w fun e w' => JPost Ps w.heap.size e w' ∧ Keeps (fun _ => False) w w' := by
  have hfew := h.few
  have heach := h.each
  obtain ⟨⟨av, cap, rfl, hc0⟩, _, _⟩ := h
  have HC : Hid (∀ k (hk : k < Ps.length), ∃ g off pa pc, av = some ⟨g, off, none⟩ ∧ ∀ X, Keeps (fun _ => False) w X → X.cell? ⟨g, off + k, none⟩ = some (.slice pa (Ps[k]).length pc) ∧ InsAt X (.slice pa (Ps[k]).length pc) Ps[k]) := fun k hk => by
    obtain ⟨g, off, pa, pc, ha, c0, c1⟩ := hc0 k hk
    refine ⟨g, off, pa, pc, ha, fun X kx => ⟨?_, c1.keeps kx⟩⟩
    rw [← c0]
    simp only [World.cell?, kx.block g (World.block_lt_of_cell? _ _ c0) (fun f => f)]
  clear hc0
  go_enter Tryd.func30, Tryd.ntmps30
  go_wp2_with fail
  go_loopw [4, 14] (fun u m wr => ∃ k : Nat, m = .int .i64 k ∧ k ≤ Ps.length ∧ Hid ((∀ p ∈ Ps.take k, ∀ i ∈ p, formedB i = true) ∧ Irs wr w.heap.size u (jn [] (Ps.take k)) ∧ (jn [] (Ps.take k)).length ≤ k * 4194304 ∧ Keeps (fun _ => False) w wr)) (fun _ m _ => Ps.length - (intOf m).toNat)
  case atStart => exact ⟨0, rfl, Nat.zero_le _, ⟨by simp, by simpa [jn] using Irs.nil w, by simp [jn], Keeps.refl _ _⟩⟩
  case round =>
    obtain ⟨k, rfl, hk, hh⟩ := hrel
    by_cases hlt : k < Ps.length
    · have hki : (k : Int) < Ps.length := by omega
      obtain ⟨q1, q2, q3, q4⟩ := hh.out
      obtain ⟨g, off, pa, pc, rfl, hX⟩ := HC.out k hlt
      have c0 := (hX wr q4).1
      have hjt := jn_take [] Ps k hlt
      have hPl := heach _ (List.getElem_mem hlt)
      have hbadP : ∀ i ∈ Ps[k], formedB i = false → ¬ ∀ p ∈ Ps, ∀ i ∈ p, formedB i = true := fun i hi hf h => by
        have := h _ (List.getElem_mem hlt) i hi
        rw [hf] at this; cases this
      have hfk : (∀ i ∈ Ps[k], formedB i = true) → ∀ p ∈ Ps.take (k + 1), ∀ i ∈ p, formedB i = true := fun hP p hp i hi => by
        rw [List.take_succ_eq_append_getElem hlt] at hp
        rcases List.mem_append.1 hp with hp | hp
        · exact q1 p hp i hi
        · simp at hp; subst hp; exact hP i hi
      have HI : Hid (∀ X, Keeps (fun _ => False) w X → InsAt X (.slice pa (Ps[k]).length pc) Ps[k]) := fun X kx => (hX X kx).2
      have HCL : Hid (∀ X, Keeps (fun _ => False) w X → X.cell? ⟨g, off + k, none⟩ = some (.slice pa (Ps[k]).length pc)) := fun X kx => (hX X kx).1
      obtain ⟨ub, uc, rfl⟩ := q2.form
      generalize jn [] (Ps.take k) = A at *
      generalize hPk : Ps[k] = P at *
      have hA : (A.length : Int) < 18446744073709551616 := by omega
      have HQ : Hid (A.length ≤ 8388608) := by show A.length ≤ _; have : k ≤ 2 := by omega
                                               have := Nat.mul_le_mul_right 4194304 this
                                               omega
      clear hX q1 hh HC
      go_wp2_with fail
      go_loopw [4, 23] (fun u m wr' => ∃ j : Nat, m = .int .i64 j ∧ j ≤ P.length ∧ Hid ((∀ i ∈ P.take j, formedB i = true) ∧ Irs wr' w.heap.size u (A ++ (P.take j).map (shift A.length)) ∧ Keeps (fun _ => False) w wr')) (fun _ m _ => P.length - (intOf m).toNat)
      case atStart => exact ⟨0, rfl, Nat.zero_le _, ⟨by simp, by simpa using q2, q4⟩⟩
      case round =>
        obtain ⟨W0, hW0⟩ : ∃ W, W = wr := ⟨_, rfl⟩
        subst hW0
        obtain ⟨j, rfl, hj, hg⟩ := hrel
        clear c0 q2 q4
        obtain ⟨g1, g2, g3⟩ := hg.out
        have c0 := HCL.out W0 g3
        by_cases hjl : j < P.length
        · have hji : (j : Int) < P.length := by omega
          obtain ⟨⟨pa', pc', e', cc⟩, hwf, _⟩ := HI.out W0 g3
          simp only [Value.slice.injEq] at e'
          obtain ⟨rfl, -, rfl⟩ := e'
          obtain ⟨gp, ofp, rfl, x0, x1, x2, x3, x4⟩ := cc j hjl
          have hiw := hwf _ (List.getElem_mem hjl)
          have hpt : (P.take (j + 1)).map (shift A.length) = (P.take j).map (shift A.length) ++ [shift A.length (P[j]'hjl)] := by
            rw [List.take_succ_eq_append_getElem hjl, List.map_append]; rfl
          have hbj := hbadP _ (List.getElem_mem hjl)
          have hfj : formedB (P[j]'hjl) = true → ∀ i ∈ P.take (j + 1), formedB i = true := fun hf i hi => by
            rw [List.take_succ_eq_append_getElem hjl] at hi
            rcases List.mem_append.1 hi with hi | hi
            · exact g1 i hi
            · simp at hi; subst hi; exact hf
          have FA := formed_any (P[j]'hjl)
          have hXl : (A ++ (P.take j).map (shift A.length)).length ≤ 12582912 := by
            have := HQ.out
            rw [List.length_append, List.length_map, List.length_take]
            omega
          generalize hi0 : P[j]'hjl = i at *
          have hsw := shift_wf A.length hiw
          obtain ⟨op, a, b, c, n⟩ := i
          dsimp only at x0 x1 x2 x3 x4
          have kb := (Keeps.refl (fun _ => False) W0).alloc (.cells #[.int .i64 op, .int .i64 a, .int .i64 b, .int .i64 c, .int .u64 n] 38)
          cases hf : formedB ⟨op, a, b, c, n⟩ with
          | false =>
            rw [hf] at FA
            have hnot := hbj hf
            clear cc hwf hg hfj hbj hpt hfk hjt hbadP HI HCL
            go_wp2_with (go_at_call 18; refine (FA _).mono ?_; rintro e w1 ⟨rfl, k1⟩)
            go_ret2
            exact ⟨⟨fun h => absurd h hnot, fun _ => rfl⟩, g3.trans (kb.trans k1)⟩
          | true =>
            rw [hf] at FA
            obtain ⟨⟨o0, o1⟩, -⟩ := formed_facts hf
            dsimp only at o0 o1
            go_wp2_with fail
            refine (FA _).mono ?_
            rintro e w1 ⟨rfl, k1⟩
            have k01 := kb.trans k1
            have b1 : w1.heap[W0.heap.size]? = some (.cells #[.int .i64 op, .int .i64 a, .int .i64 b, .int .i64 c, .int .u64 n] 38 (0, 0)) := (k1.block _ (by simp) (fun f => f)).trans (MapKept.heap_alloc _ _).1
            have hnb : ∀ gg, u4.ownBlock = some gg → gg ≠ W0.heap.size := fun gg hgg => by have := (own_block g2.own hgg).1; omega
            have g2' := g2.keeps k01 (fun _ _ f => f)
            have G3 := g3.trans k01
            have NU := number_any op o0 o1
            obtain ⟨z0, z1, z2, z3, z4⟩ := cells5 b1
            have zf := frozen_of_block b1 4
            generalize hnbb : numB op = nbb at *
            cases htb : tgtB op with
            | false =>
              rw [htb] at NU
              have hsh : shift A.length ⟨op, a, b, c, n⟩ = ⟨op, a, b, c, n⟩ := by simp [shift, htb]
              rw [hsh] at hsw hpt
              obtain ⟨v1, w2, r1, r2, r3⟩ := g2'.push1 ⟨op, a, b, c, n⟩ hsw hXl
              have HR : Hid (_ = _) := r1
              have KK := Irs.kept r3 G3 g2'
              clear r1 r3 cc hwf hbj hjt hfk hbadP HI HCL x0 x1 x2 x3 x4 FA b1 g2 g2' g3 G3 hnb k1 kb k01 c0
              dsimp only at HR
              go_wp2_with (first | (go_at_call 34; refine (NU _).mono ?_; rintro e w' ⟨rfl, hw'⟩; replace hw' := hw'.symm; subst hw') | (at_builtin; refine wpList_append_run rfl _ _ 50 rfl rfl rfl HR.out ?_))
              go_roundw
              · exact ⟨j + 1, by simp, by omega, ⟨hfj hf, by rw [hpt, ← List.append_assoc]; exact r2, KK⟩⟩
              · simp [intOf]; omega
            | true =>
              rw [htb] at NU
              have hsh : shift A.length ⟨op, a, b, c, n⟩ = ⟨op, a, b, c, IntKind.u64.wrap (n + A.length)⟩ := by simp [shift, htb, IntKind.wrap, IntKind.signed, IntKind.bits]
              rw [hsh] at hsw hpt
              have gs := g2'.keeps (w' := w1.setCell ⟨W0.heap.size, 4, none⟩ (.int .u64 (IntKind.u64.wrap (n + A.length)))) (S := fun q => q = W0.heap.size) ((Keeps.refl (fun q => q = W0.heap.size) w1).setCell (p := ⟨W0.heap.size, 4, none⟩) (.inr rfl) _) (fun gg hgg e => hnb gg hgg e)
              obtain ⟨v1, w2, r1, r2, r3⟩ := gs.push1 ⟨op, a, b, c, IntKind.u64.wrap (n + A.length)⟩ hsw hXl
              rw [show (w1.setCell ⟨W0.heap.size, 4, none⟩ (.int .u64 (IntKind.u64.wrap (n + A.length)))).heap.size = w1.heap.size by simp] at r1
              have HR : Hid (_ = _) := r1
              have KK := Irs.kept r3 (G3.setCell (p := ⟨W0.heap.size, 4, none⟩) (.inl g3.size) (.int .u64 (IntKind.u64.wrap (n + A.length)))) gs
              clear r1 r3 cc hwf hbj hjt hfk hbadP HI HCL x0 x1 x2 x3 x4 FA b1 g2 g2' gs g3 G3 hnb k1 kb k01 c0
              dsimp only at HR
              go_wp2_with (first | (go_at_call 34; refine (NU _).mono ?_; rintro e w' ⟨rfl, hw'⟩; replace hw' := hw'.symm; subst hw') | (at_builtin; refine wpList_append_run rfl _ _ 50 rfl rfl rfl HR.out ?_))
              go_roundw
              · exact ⟨j + 1, by simp, by omega, ⟨hfj hf, by rw [hpt, ← List.append_assoc]; exact r2, KK⟩⟩
              · simp [intOf]; omega
        · have hji : ¬ (j : Int) < P.length := by omega
          obtain rfl : j = P.length := by omega
          rw [List.take_length] at g1 g2
          have hF := hfk g1
          have hL : (jn [] (Ps.take (k + 1))).length ≤ (k + 1) * 4194304 := by
            rw [hjt, List.length_append, List.length_map]; omega
          rw [← hjt] at g2
          clear hg hfk hbadP HI HCL hjt g1
          go_wp2_with fail
          go_roundw
          · exact ⟨k + 1, by simp, by omega, ⟨hF, g2, hL, g3⟩⟩
          · simp [intOf]; omega
    · have hki : ¬ (k : Int) < Ps.length := by omega
      obtain rfl : k = Ps.length := by omega
      obtain ⟨q1, q2, q3, q4⟩ := hh.out
      rw [List.take_length] at q1 q2
      clear hh HC
      go_wp2_with fail
      go_ret2
      exact ⟨⟨fun _ => ⟨_, rfl, q2⟩, fun h => absurd q1 h⟩, q4⟩
end Go.Proofs.YtepigjbnpkpanaaDoor
