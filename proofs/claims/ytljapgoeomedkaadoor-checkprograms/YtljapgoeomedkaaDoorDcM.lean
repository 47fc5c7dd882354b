
/- Walks of spoilt: answers written over and grown. No statement of the seat is proved here. -/
import Derived.Test.YtljapgoeomedkaaDoorDcK
namespace Go.Proofs.YtljapgoeomedkaaDoor
open Go.RowKit Go.Shelf

theorem own_set1 {w : World} {base n k : Nat} {e : TypeId} {v : Value} {xs : List Value} (h : w.ownsRow base e 1 v n xs) (hk : k < n) (u : Value) :
    ∃ g cap, v = .slice (some ⟨g, 0, none⟩) n cap ∧ base ≤ g ∧ g < w.heap.size ∧ (∃ y, w.cell? ⟨g, k, none⟩ = some y ∧ xs[k]? = some y) ∧ w.frozen? ⟨g, k, none⟩ = false ∧ (w.setCell ⟨g, k, none⟩ u).ownsRow base e 1 v n (xs.set k u) := by
  obtain ⟨hl, h⟩ := h
  rcases h with ⟨rfl, q⟩ | ⟨g, cap, cur, rfl, h1, q2, h3, h4, h5, h6⟩
  · omega
  · have hcur : k < cur.size := by omega
    refine ⟨g, cap, rfl, h1, lt_of_block q2, ⟨cur[k]'hcur, by rw [cell_of_block q2]; exact Array.getElem?_eq_getElem hcur, ?_⟩, frozen_of_block q2 k, by simpa using hl, .inr ⟨g, cap, _, rfl, h1, block_set q2 k _, h3, h4, by simpa using h5, ?_⟩⟩
    · have e : xs[k]? = (cur.toList.take (n * 1))[k]? := congrArg (fun t => t[k]?) h6.symm
      rw [e, List.getElem?_take_of_lt (by omega)]
      simp [hcur]
    · rw [Array.toList_setIfInBounds, List.take_set, h6]
theorem Its.over {w : World} {base k : Nat} {v : Value} {l : List Int} (h : Its w base v l) (hk : k < l.length) (x : Int) :
    ∃ g cap, v = .slice (some ⟨g, 0, none⟩) l.length cap ∧ base ≤ g ∧ g < w.heap.size ∧ w.cell? ⟨g, k, none⟩ = some (.int .i64 (l[k])) ∧ w.frozen? ⟨g, k, none⟩ = false ∧ Its (w.setCell ⟨g, k, none⟩ (.int .i64 x)) base v (l.set k x) := by
  obtain ⟨g, cap, e1, e2, e3, ⟨y, e4, e5⟩, e6, e7⟩ := own_set1 h.own hk (.int .i64 x)
  refine ⟨g, cap, e1, e2, e3, ?_, e6, ⟨by rw [List.length_set, List.map_set]; exact e7, by simpa using h.base⟩⟩
  rw [e4, ← e5]; simp [hk]
theorem Mts.over {w : World} {base k : Nat} {v : Value} {l : List Int} (h : Mts w base v l) (hk : k < l.length) (x : Int) :
    ∃ g cap, v = .slice (some ⟨g, 0, none⟩) l.length cap ∧ base ≤ g ∧ g < w.heap.size ∧ w.cell? ⟨g, k, none⟩ = some (.int .i64 (l[k])) ∧ w.frozen? ⟨g, k, none⟩ = false ∧ Mts (w.setCell ⟨g, k, none⟩ (.int .i64 x)) base v (l.set k x) := by
  obtain ⟨g, cap, e1, e2, e3, ⟨y, e4, e5⟩, e6, e7⟩ := own_set1 h.own hk (.int .i64 x)
  refine ⟨g, cap, e1, e2, e3, ?_, e6, ⟨by rw [List.length_set, List.map_set]; exact e7, by simpa using h.base⟩⟩
  rw [e4, ← e5]; simp [hk]
/-- A row that may change under T. -/
def MayT (T : Nat → Prop) (W : World) (u : Value) : Prop := ∀ q, u.ownBlock = some q → T q ∨ W.heap.size ≤ q
theorem keeps_grow {T : Nat → Prop} {W X X' : World} {u u' : Value} (k : Keeps T W X) (g : Grew X X' u u') (h : MayT T W u) : Keeps T W X' ∧ MayT T W u' := by
  refine ⟨⟨g.keeps.os.trans k.os, g.keeps.tape.trans k.tape, g.keeps.output.trans k.output, Nat.le_trans k.size g.keeps.size, fun q hq hs => (g.keeps.block q (Nat.lt_of_lt_of_le hq k.size) fun e => ?_).trans (k.block q hq hs)⟩, fun q hq => ?_⟩
  · rcases h q e with h1 | h1
    · exact hs h1
    · omega
  · rcases g.own with ho | ho
    · exact h q (ho ▸ hq)
    · have := ho q hq; have := k.size; exact .inr (by omega)
theorem keeps_set {T : Nat → Prop} {W X : World} (k : Keeps T W X) {g o : Nat} (h : T g ∨ W.heap.size ≤ g) (v : Value) : Keeps T W (X.setCell ⟨g, o, none⟩ v) := k.setCell (p := ⟨g, o, none⟩) (h.elim .inr .inl) v
theorem cell_keepsT {T : Nat → Prop} {w w' : World} (k : Keeps T w w') {g o : Nat} {v : Value} (hg : ¬ T g) (h : w.cell? ⟨g, o, none⟩ = some v) : w'.cell? ⟨g, o, none⟩ = some v := by
  rw [← h]
  simp [World.cell?, k.block g (World.block_lt_of_cell? _ _ h) hg]
/-- Rows that a cell of another block does not touch. -/
theorem Its.setFar {w : World} {b g o : Nat} {v u : Value} {l : List Int} (h : Its w b v l) (hg : v.ownBlock ≠ some g) : Its (w.setCell ⟨g, o, none⟩ u) b v l :=
  h.keeps ((Keeps.refl (fun q => q = g) w).setCell (p := ⟨g, o, none⟩) (.inr rfl) u) (fun q hq e => hg (by rw [hq, e]))
theorem Sps.nth {w : World} {b : Nat} {v : Value} {L : List Spn} (h : Sps w b v L) {j : Nat} (hj : j < L.length) : NoMeet v L[j].ve ∧ NoMeet v L[j].va ∧ NoMeet L[j].ve L[j].va ∧ ∀ i (hi : i < L.length), j < i → NoMeet L[j].ve L[i].ve ∧ NoMeet L[j].ve L[i].va ∧ NoMeet L[j].va L[i].ve ∧ NoMeet L[j].va L[i].va := by
  obtain ⟨h1, h2⟩ := List.pairwise_cons.1 h.apart
  have hm := List.getElem_mem hj
  refine ⟨h1 _ (mem_spB.2 ⟨_, hm, .inl rfl⟩), h1 _ (mem_spB.2 ⟨_, hm, .inr rfl⟩), ?_⟩
  have h3 := h2
  unfold spB at h3
  rw [List.pairwise_flatMap] at h3
  refine ⟨by simpa using h3.1 _ hm, fun i hi hji => ?_⟩
  have h4 := (List.pairwise_iff_getElem.1 h3.2) j i hj hi hji
  exact ⟨h4 _ (by simp) _ (by simp), h4 _ (by simp) _ (by simp), h4 _ (by simp) _ (by simp), h4 _ (by simp) _ (by simp)⟩
end Go.Proofs.YtljapgoeomedkaaDoor
namespace Go.Proofs.YtljapgoeomedkaaDoor
open Go.RowKit Go.Shelf

theorem row_at {w : World} {base : Nat} {b : Option Addr} {n c : Nat} {L : List Spn} (h : w.ownsRow base 79 3 (.slice b n c) L.length (spV L)) (k : Nat) (hk : k < L.length) : ∃ g, b = some ⟨g, 0, none⟩ ∧ w.cell? ⟨g, k * 3 + 1, none⟩ = some (L[k]'hk).ve ∧ w.cell? ⟨g, k * 3 + 2, none⟩ = some (L[k]'hk).va := by
  rcases h.2 with ⟨_, h2⟩ | ⟨g, cap, cur, hv, h1, h2, h3, h4, h5, h6⟩
  · omega
  · cases hv
    obtain ⟨e0, e1, e2⟩ := spV_at L k hk
    rw [← h6, List.getElem?_take_of_lt (by omega)] at e0 e1 e2
    exact ⟨g, rfl, by rw [cell_of_block h2]; simpa using e1, by rw [cell_of_block h2]; simpa using e2⟩
/-- The blocks that spoilt may write. -/
def SpT (mv : Value) (L : List Spn) (q : Nat) : Prop := ∃ x ∈ mv :: spB L, x.ownBlock = some q
set_option maxRecDepth 100000 in
set_option maxHeartbeats 20000000 in
theorem spoilt_any (mv v : Value) (l : List Int) (L : List Spn) (b0 b1 : Nat) (w : World) (hm : Mts w b0 mv l) (hs : Sps w b1 v L) (hap : ∀ x ∈ v :: spB L, NoMeet mv x) (hl : l.length ≤ 256) (hL : L.length ≤ 256) (hn : ∀ s ∈ L, s.e.length ≤ 256 ∧ s.a.length ≤ 256 ∧ ∀ x ∈ s.a, 0 ≤ x) : Calls Tryd.prog 22 #[mv, v] w fun e w' => e = .returned (.bool true) ∧ Keeps (SpT mv L) w w' := by
  obtain ⟨ma, mc, rfl⟩ := hm.form
  obtain ⟨va, vc, rfl⟩ := hs.form
  obtain ⟨T, hT⟩ : ∃ T : Nat → Prop, T = fun q => (Value.slice ma l.length mc).ownBlock = some q := ⟨_, rfl⟩
  have HS : Hid (Sps w b1 (.slice va L.length vc) L ∧ (∀ x ∈ (Value.slice va L.length vc) :: spB L, NoMeet (.slice ma l.length mc) x) ∧ (∀ s ∈ L, s.e.length ≤ 256 ∧ s.a.length ≤ 256 ∧ ∀ x ∈ s.a, 0 ≤ x) ∧ T = fun q => (Value.slice ma l.length mc).ownBlock = some q) := ⟨hs, hap, hn, hT⟩
  have HM0 : Hid (Mts w b0 (.slice ma l.length mc) l) := hm
  clear hm hs hap hn hT
  go_enter Tryd.func22, Tryd.ntmps22
  go_wp2_with fail
  go_loopw [5] (fun m X => ∃ (k : Nat) (l' : List Int), m = .int .i64 k ∧ k ≤ l.length ∧ Hid (Keeps T w X ∧ Mts X b0 (.slice ma l.length mc) l' ∧ l'.length = l.length)) (fun m _ => l.length - (intOf m).toNat)
  case atStart => exact ⟨0, l, rfl, Nat.zero_le _, ⟨Keeps.refl _ _, HM0.out, rfl⟩⟩
  case round =>
    obtain ⟨k, l', rfl, hk, hh⟩ := hrel
    obtain ⟨hK, hM, hle⟩ := hh.out
    by_cases hkl : k < l.length
    · have hki : (k : Int) < l.length := by omega
      obtain ⟨g, cap, hv, -, -, c0, fz, hM'⟩ := hM.over (k := k) (by omega) 9
      rw [hle] at hv
      cases hv
      have HR : Hid (Keeps T w (wr.setCell ⟨g, k, none⟩ (.int .i64 9)) ∧ Mts (wr.setCell ⟨g, k, none⟩ (.int .i64 9)) b0 (.slice (some ⟨g, 0, none⟩) l.length mc) (l'.set k 9) ∧ (l'.set k 9).length = l.length) := ⟨keeps_set hK (.inl (by rw [HS.out.2.2.2]; rfl)) _, hM', by simpa using hle⟩
      clear hh hK hM hM'
      go_wp2_with fail
      go_roundw
      · exact ⟨k + 1, _, by simp, by omega, HR⟩
      · simp [intOf]; omega
    · have hki : ¬ (k : Int) < l.length := by omega
      obtain rfl : k = l.length := by omega
      have HQ : Hid (Keeps T w wr ∧ Mts wr b0 (.slice ma l.length mc) l' ∧ l'.length = l.length) := hh
      clear hh hK hM
      go_wp2_with fail
      go_loopw [6, 7] (fun u m X => ∃ (j : Nat) (l' : List Int), m = .int .i64 j ∧ j ≤ 30 ∧ Hid (Keeps T w X ∧ Mts X b0 u l' ∧ l'.length = l.length + j ∧ MayT T w u)) (fun _ m _ => 30 - (intOf m).toNat)
      case atStart => exact ⟨0, l', rfl, by omega, ⟨HQ.out.1, HQ.out.2.1, by simpa using HQ.out.2.2, fun q hq => .inl (by rw [HS.out.2.2.2]; exact hq)⟩⟩
      case round =>
        clear HQ
        obtain ⟨j, l2, rfl, hj, hh⟩ := hrel
        obtain ⟨hK, hM, hle2, hMy⟩ := hh.out
        by_cases hjl : j < 30
        · have hji : (j : Int) < 30 := by omega
          obtain ⟨v', W', r1, M', G'⟩ := hM.push 9 (by omega)
          obtain ⟨kk, my⟩ := keeps_grow hK G' hMy
          have HA : Hid (_ = _) := r1
          have HR : Hid (Keeps T w W' ∧ Mts W' b0 v' (l2 ++ [9]) ∧ (l2 ++ [9]).length = l.length + (j + 1) ∧ MayT T w v') := ⟨kk, M', by simp; omega, my⟩
          clear hh hK hM hMy r1 M' G' kk my
          go_wp2_with (at_builtin; refine wpList_append_run rfl _ _ 24 rfl rfl rfl HA.out ?_)
          go_roundw
          · exact ⟨j + 1, _, by simp, by omega, HR⟩
          · simp [intOf]; omega
        · have hji : ¬ (j : Int) < 30 := by omega
          obtain rfl : j = 30 := by omega
          obtain ⟨xb, xc, rfl⟩ := hM.form
          rw [hle2] at hh hM ⊢
          obtain ⟨hSw, hAp, hNn, hTe⟩ := HS.out
          have hnT : ∀ x ∈ (Value.slice va L.length vc) :: spB L, ∀ q, x.ownBlock = some q → ¬ T q := fun x hx q hq e => by
            rw [hTe] at e
            exact hAp x hx q e hq
          have S2 := hSw.keepsS hK hnT
          have K2 : Keeps (SpT (.slice ma l.length mc) L) w wr := hK.mono fun q _ e => by
            rw [hTe] at e
            exact ⟨_, by simp, e⟩
          have HZ : Hid (Sps wr b1 (.slice va L.length vc) L ∧ Keeps (SpT (.slice ma l.length mc) L) w wr) := ⟨S2, K2⟩
          clear hh hK hM hMy hSw hAp hNn hTe hnT S2 K2
          go_wp2_with fail
          go_loopw [8] (fun m X => ∃ (i : Nat), m = .int .i64 i ∧ i ≤ L.length ∧ Hid (Keeps (SpT (.slice ma l.length mc) L) w X ∧ X.ownsRow b1 79 3 (.slice va L.length vc) L.length (spV L) ∧ ∀ j (hj : j < L.length), i ≤ j → Its X b1 L[j].ve L[j].e ∧ Its X b1 L[j].va L[j].a)) (fun m _ => L.length - (intOf m).toNat)
          case atStart => exact ⟨0, rfl, Nat.zero_le _, ⟨HZ.out.2, HZ.out.1.own, fun j hj _ => HZ.out.1.each _ (List.getElem_mem hj)⟩⟩
          case round =>
            clear HZ
            obtain ⟨i, rfl, hi, hh⟩ := hrel
            by_cases hil : i < L.length
            · have hii : (i : Int) < L.length := by omega
              obtain ⟨W0, hW0⟩ : ∃ W, W = wr := ⟨_, rfl⟩
              obtain ⟨hK, hR, hE⟩ := hh.out
              obtain ⟨g, rfl, r1, r2⟩ := row_at hR i hil
              obtain ⟨q1, q2⟩ := hE i hil (Nat.le_refl _)
              obtain ⟨n1, n2, n3, n4⟩ := HS.out.1.nth hil
              have hN := HS.out.2.2.1 _ (List.getElem_mem hil)
              have hin := List.getElem_mem hil
              generalize hsx : L[i] = s at *
              obtain ⟨sb, se, sa, sv, sw⟩ := s
              dsimp only at r1 r2 q1 q2 n1 n2 n3 n4 hN
              obtain ⟨T2, hT2⟩ : ∃ T : Nat → Prop, T = fun q => sv.ownBlock = some q ∨ sw.ownBlock = some q := ⟨_, rfl⟩
              have hgT : ¬ T2 g := by
                rw [hT2]
                rintro (e | e)
                · exact n1 g rfl e
                · exact n2 g rfl e
              -- all at the end of the round
              have HEnd : Hid (∀ X, Keeps T2 W0 X → Keeps (SpT (.slice ma l.length mc) L) w X ∧ X.ownsRow b1 79 3 (.slice (some ⟨g, 0, none⟩) L.length vc) L.length (spV L) ∧ ∀ j (hj : j < L.length), i + 1 ≤ j → Its X b1 L[j].ve L[j].e ∧ Its X b1 L[j].va L[j].a) := by
                intro X kX
                rw [hW0] at kX
                refine ⟨hK.trans (kX.mono fun q _ e => ?_), own_keeps hR kX (fun q hq e => ?_), fun j hj hij => ?_⟩
                · rw [hT2] at e
                  rcases e with e | e
                  · exact ⟨sv, List.mem_cons_of_mem _ (mem_spB.2 ⟨_, hin, .inl rfl⟩), e⟩
                  · exact ⟨sw, List.mem_cons_of_mem _ (mem_spB.2 ⟨_, hin, .inr rfl⟩), e⟩
                · cases hq
                  exact hgT e
                · obtain ⟨z1, z2⟩ := hE j hj (by omega)
                  obtain ⟨m1, m2, m3, m4⟩ := n4 j hj (by omega)
                  refine ⟨z1.keeps kX (fun q hq e => ?_), z2.keeps kX (fun q hq e => ?_)⟩
                  · rw [hT2] at e
                    rcases e with e | e
                    · exact m1 q e hq
                    · exact m3 q e hq
                  · rw [hT2] at e
                    rcases e with e | e
                    · exact m2 q e hq
                    · exact m4 q e hq
              have HC : Hid (∀ X, Keeps T2 W0 X → X.cell? ⟨g, i * 3 + 1, none⟩ = some sv ∧ X.cell? ⟨g, i * 3 + 2, none⟩ = some sw) := fun X kX => by
                rw [hW0] at kX
                exact ⟨cell_keepsT kX hgT r1, cell_keepsT kX hgT r2⟩
              have HT2 : Hid (T2 = fun q => sv.ownBlock = some q ∨ sw.ownBlock = some q) := hT2
              have HN : Hid (NoMeet sv sw) := n3
              obtain ⟨xv, xv2, rfl⟩ := q1.form
              obtain ⟨yv, yv2, rfl⟩ := q2.form
              have HQ : Hid (Keeps T2 W0 wr ∧ Its wr b1 (.slice xv se.length xv2) se ∧ Its wr b1 (.slice yv sa.length yv2) sa) := ⟨by rw [hW0]; exact Keeps.refl _ _, q1, q2⟩
              obtain ⟨hN1, hN2, hN3⟩ := hN
              clear hh hK hR hE r1 r2 q1 q2 n1 n2 n3 n4 hin hT2 hsx hgT hW0
              go_wp2_with fail
              go_loopw [9] (fun m X => ∃ (k : Nat) (e' : List Int), m = .int .i64 k ∧ k ≤ se.length ∧ Hid (Keeps T2 W0 X ∧ Its X b1 (.slice xv se.length xv2) e' ∧ e'.length = se.length ∧ Its X b1 (.slice yv sa.length yv2) sa)) (fun m _ => se.length - (intOf m).toNat)
              case atStart => exact ⟨0, se, rfl, Nat.zero_le _, ⟨HQ.out.1, HQ.out.2.1, rfl, HQ.out.2.2⟩⟩
              case round =>
                clear HQ
                obtain ⟨k, e', rfl, hk2, hh⟩ := hrel
                obtain ⟨hK, hI, hle4, hJ⟩ := hh.out
                obtain ⟨r1, r2⟩ := HC.out _ hK
                by_cases hkl2 : k < se.length
                · have hki2 : (k : Int) < se.length := by omega
                  obtain ⟨g2, cap, hv, -, -, c0, fz, hI'⟩ := hI.over (k := k) (by omega) (-9)
                  rw [hle4] at hv
                  cases hv
                  have HR : Hid (Keeps T2 W0 (wr.setCell ⟨g2, k, none⟩ (.int .i64 (-9))) ∧ Its (wr.setCell ⟨g2, k, none⟩ (.int .i64 (-9))) b1 (.slice (some ⟨g2, 0, none⟩) se.length xv2) (e'.set k (-9)) ∧ (e'.set k (-9)).length = se.length ∧ Its (wr.setCell ⟨g2, k, none⟩ (.int .i64 (-9))) b1 (.slice yv sa.length yv2) sa) := ⟨keeps_set hK (.inl (by rw [HT2.out]; exact .inl rfl)) _, hI', by simpa using hle4, hJ.setFar (HN.out g2 rfl)⟩
                  clear hh hK hI hI' hJ r2
                  go_wp2_with fail
                  go_roundw
                  · exact ⟨k + 1, _, by simp, by omega, HR⟩
                  · simp [intOf]; omega
                · have hki2 : ¬ (k : Int) < se.length := by omega
                  obtain rfl : k = se.length := by omega
                  have HQ : Hid (Keeps T2 W0 wr ∧ Its wr b1 (.slice xv se.length xv2) e' ∧ e'.length = se.length ∧ Its wr b1 (.slice yv sa.length yv2) sa) := hh
                  clear hh hK hI hJ r2
                  go_wp2_with fail
                  go_loopw [10, 11] (fun u m X => ∃ (j : Nat) (e' : List Int), m = .int .i64 j ∧ j ≤ 30 ∧ Hid (Keeps T2 W0 X ∧ Its X b1 u e' ∧ e'.length = se.length + j ∧ MayT T2 W0 u ∧ Its X b1 (.slice yv sa.length yv2) sa ∧ NoMeet (.slice yv sa.length yv2) u)) (fun _ m _ => 30 - (intOf m).toNat)
                  case atStart => exact ⟨0, e', rfl, by omega, ⟨HQ.out.1, HQ.out.2.1, by simpa using HQ.out.2.2.1, fun q hq => .inl (by rw [HT2.out]; exact .inl hq), HQ.out.2.2.2, HN.out.symm⟩⟩
                  case round =>
                    clear HQ r1
                    obtain ⟨j, e2, rfl, hj2, hh⟩ := hrel
                    obtain ⟨hK, hI, hle5, hMy, hJ, hNM⟩ := hh.out
                    by_cases hjl2 : j < 30
                    · have hji2 : (j : Int) < 30 := by omega
                      obtain ⟨v', W', r1, I', G'⟩ := hI.push (-9) (by omega)
                      obtain ⟨kk, my⟩ := keeps_grow hK G' hMy
                      obtain ⟨J', nm⟩ := hJ.apart_grow G' hNM
                      have HA : Hid (_ = _) := r1
                      have HR : Hid (Keeps T2 W0 W' ∧ Its W' b1 v' (e2 ++ [-9]) ∧ (e2 ++ [-9]).length = se.length + (j + 1) ∧ MayT T2 W0 v' ∧ Its W' b1 (.slice yv sa.length yv2) sa ∧ NoMeet (.slice yv sa.length yv2) v') := ⟨kk, I', by simp; omega, my, J', nm⟩
                      clear hh hK hI hMy hJ hNM r1 I' G' kk my J' nm
                      go_wp2_with (at_builtin; refine wpList_append_run rfl _ _ 53 rfl rfl rfl HA.out ?_)
                      go_roundw
                      · exact ⟨j + 1, _, by simp, by omega, HR⟩
                      · simp [intOf]; omega
                    · have hji2 : ¬ (j : Int) < 30 := by omega
                      obtain rfl : j = 30 := by omega
                      obtain ⟨ub, uc, rfl⟩ := hI.form
                      rw [hle5] at hh hI ⊢
                      have HQ : Hid (Keeps T2 W0 wr ∧ Its wr b1 (.slice yv sa.length yv2) sa) := ⟨hK, hJ⟩
                      clear hh hK hI hMy hJ hNM
                      go_wp2_with fail
                      go_loopw [12] (fun m X => ∃ (k : Nat) (a' : List Int), m = .int .i64 k ∧ k ≤ sa.length ∧ Hid (Keeps T2 W0 X ∧ Its X b1 (.slice yv sa.length yv2) a' ∧ a'.length = sa.length ∧ ∀ t, k ≤ t → a'[t]? = sa[t]?)) (fun m _ => sa.length - (intOf m).toNat)
                      case atStart => exact ⟨0, sa, rfl, Nat.zero_le _, ⟨HQ.out.1, HQ.out.2, rfl, fun t _ => rfl⟩⟩
                      case round =>
                        clear HQ
                        obtain ⟨k, a', rfl, hk3, hh⟩ := hrel
                        obtain ⟨hK, hI, hle6, hag⟩ := hh.out
                        obtain ⟨r1, r2⟩ := HC.out _ hK
                        by_cases hkl3 : k < sa.length
                        · have hki3 : (k : Int) < sa.length := by omega
                          obtain ⟨g2, cap, hv, -, -, c0, fz, hI'⟩ := hI.over (k := k) (by omega) (-9)
                          rw [hle6] at hv
                          cases hv
                          have hx : 0 ≤ a'[k]'(by omega) := by
                            have h1 := hag k (Nat.le_refl _)
                            rw [List.getElem?_eq_getElem (by omega), List.getElem?_eq_getElem hkl3] at h1
                            rw [Option.some.inj h1]
                            exact hN3 _ (List.getElem_mem hkl3)
                          have HR : Hid (Keeps T2 W0 (wr.setCell ⟨g2, k, none⟩ (.int .i64 (-9))) ∧ Its (wr.setCell ⟨g2, k, none⟩ (.int .i64 (-9))) b1 (.slice (some ⟨g2, 0, none⟩) sa.length yv2) (a'.set k (-9)) ∧ (a'.set k (-9)).length = sa.length ∧ ∀ t, k + 1 ≤ t → (a'.set k (-9))[t]? = sa[t]?) := ⟨keeps_set hK (.inl (by rw [HT2.out]; exact .inr rfl)) _, hI', by simpa using hle6, fun t ht => by rw [List.getElem?_set_ne (by omega)]; exact hag t (by omega)⟩
                          generalize a'[k]'(by omega) = x at *
                          have hx' : ¬ x < 0 := by omega
                          clear hh hK hI hI' hag r1
                          go_wp2_with fail
                          go_roundw
                          · exact ⟨k + 1, _, by simp, by omega, HR⟩
                          · simp [intOf]; omega
                        · have hki3 : ¬ (k : Int) < sa.length := by omega
                          obtain rfl : k = sa.length := by omega
                          have HR := HEnd.out _ hK
                          have HR' : Hid (_) := HR
                          have h30 : ¬ ((se.length : Int) + 30 < 30) := by omega
                          clear hh hK hI hag r1 HR
                          go_wp2_with fail
                          go_roundw
                          · exact ⟨i + 1, by simp, by omega, HR'⟩
                          · simp [intOf]; omega
            · have hii : ¬ (i : Int) < L.length := by omega
              obtain rfl : i = L.length := by omega
              have hle3 : ((l.length + 30 : Nat) : Int) = (l.length : Int) + 30 := by omega
              go_wp2_with fail
              go_ret
              exact ⟨rfl, hh.out.1⟩
end Go.Proofs.YtljapgoeomedkaaDoor
