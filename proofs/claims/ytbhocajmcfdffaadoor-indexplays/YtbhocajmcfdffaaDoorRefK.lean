/-
  The document's answer: ahead, Take. No statement of the seat is proved here.
-/
import Derived.Test.YtbhocajmcfdffaaDoorRefG
namespace Go.Proofs.YtbhocajmcfdffaaDoor.R
open Go.RowKit Go.Shelf

set_option maxHeartbeats 400000 in
theorem ahead_at (b s cc p n f x : Nat) (k : Int) (w : World) (hn : Hid (n = 2 ^ p)) (h3 : 3 ≤ p) (hp : p ≤ 43) (hf : f < n) (hx : x < n) (c0 : w.cell? ⟨b, 0, none⟩ = some (.slice (some ⟨s, 0, none⟩) n cc)) :
    Calls Tryd.prog 89 #[.pointer (some ⟨b, 0, none⟩), .int .u64 k, .int .i64 f, .int .i64 x] w fun e w' => e = .returned (.bool (decide (farN n (homeP p k) f < farN n (homeP p k) x))) ∧ w' = w := by
  have hhome := rhome_yes k p n h3 (by omega) (by unfold Hid; rw [hn.out]; simp) w
  have ha : homeP p k < n := by rw [hn.out]; exact homeP_lt p (by omega) k
  have hnb : n ≤ 8796093022208 := by rw [hn.out]; exact Nat.pow_le_pow_right (n := 2) (by decide) hp
  generalize homeP p k = a at *
  have hfx := far_lt ha hx
  have hwx := wrap_far ha hx
  have hwf := wrap_far ha hf
  have hff := far_lt ha hf
  generalize hFX : farN n a x = X at *
  generalize hFF : farN n a f = F at *
  have HX : Hid (wrapN n (a + X) = x) := hwx
  have HF : Hid (wrapN n (a + F) = f) := hwf
  clear hwx hwf hFX hFF
  go_enter Tryd.func89, Tryd.ntmps89
  go_wp2_with fail
  refine hhome.mono ?_
  rintro e w' ⟨rfl, hw'⟩
  replace hw' := hw'.symm
  subst hw'
  go_wp2_with fail
  go_loop [9] (fun i => ∃ j : Nat, j ≤ X ∧ i = .int .i64 (wrapN n (a + j)) ∧ Hid (∀ q, q < j → q ≠ F)) (fun i => X - farN n a (intOf i).toNat)
  case atStart => exact ⟨0, by omega, by unfold wrapN; rw [if_pos (by omega)]; rfl, fun q hq => by omega⟩
  case round =>
    obtain ⟨j, hj, rfl, HQ⟩ := hrel
    have hjn : wrapN n (a + j) < n := wrap_lt (by omega)
    have hnext := behind_at b s cc n (wrapN n (a + j)) w hjn (by omega) c0
    rw [show wrapN n (wrapN n (a + j) + 1) = wrapN n (a + (j + 1)) by unfold wrapN; split <;> split <;> split <;> omega] at hnext
    have hfar : farN n a (wrapN n (a + j)) = j := far_wrap ha (by omega)
    by_cases hlt : j < X
    · have hnx : ¬ wrapN n (a + j) = x := fun e => by
        have := wrap_inj ha (by omega) (by omega) (e.trans HX.out.symm)
        omega
      by_cases hjF : j = F
      · have hres : Hid (decide (F < X) = true) := by unfold Hid; simp; omega
        have HR : wrapN n (a + j) = f := by rw [hjF]; exact HF.out
        clear hnext
        rw [HR] at hnx hfar hjn ⊢
        have hnx1 : ¬ (f : Int) = (x : Int) := by omega
        clear HR hfar
        go_wp2_with fail
        go_ret
        exact ⟨by rw [hres.out]; rfl, rfl⟩
      · have hnf : ¬ wrapN n (a + j) = f := fun e => by
          have := wrap_inj ha (by omega) (by omega) (e.trans HF.out.symm)
          omega
        have hfar2 : farN n a (wrapN n (a + (j + 1))) = j + 1 := far_wrap ha (by omega)
        generalize hy : wrapN n (a + j) = y at *
        generalize hz : wrapN n (a + (j + 1)) = z at *
        have HZ : Hid (wrapN n (a + (j + 1)) = z) := hz
        have HFar : Hid (farN n a y = j ∧ farN n a z = j + 1) := ⟨hfar, hfar2⟩
        have hnx1 : ¬ (y : Int) = (x : Int) := by omega
        have hnf1 : ¬ (y : Int) = (f : Int) := by omega
        clear hy hz hfar hfar2
        go_wp2_with fail
        refine hnext.mono ?_
        rintro e w' ⟨rfl, hw'⟩
        replace hw' := hw'.symm
        subst hw'
        go_wp2_with fail
        go_round
        case rel => exact ⟨j + 1, by omega, by rw [HZ.out], fun q hq => by
          by_cases e : q = j
          · omega
          · exact HQ.out q (by omega)⟩
        case measure => simp [intOf, HFar.out.1, HFar.out.2]; omega
    · obtain rfl : j = X := by omega
      have hres : Hid (decide (F < j) = false) := by
        unfold Hid
        simp
        apply Classical.byContradiction
        intro hc
        exact HQ.out F (by omega) rfl
      have HR : wrapN n (a + j) = x := HX.out
      clear hnext
      rw [HR] at hfar hjn ⊢
      clear HR hfar
      go_wp2_with fail
      go_ret
      exact ⟨by rw [hres.out]; rfl, rfl⟩

set_option maxRecDepth 100000 in
set_option maxHeartbeats 400000 in
theorem take_nil (k : Int) (w : World) : Calls Tryd.prog 53 #[.pointer none, .int .u64 k] w fun e w' => e = .returned (.tuple #[.int .u64 0, .bool false]) ∧ w' = w := by
  go_enter Tryd.func53, Tryd.ntmps53
  go_wp2
  go_ret2
  exact ⟨rfl, rfl⟩
set_option maxRecDepth 100000 in
set_option maxHeartbeats 400000 in
theorem take_out (b s p : Nat) (K : List (Option Int)) (O : List Int) (vf : Int → Int) (v : Value) (k : Int) (w : World) (h : Fine w b s p K O vf v) (hk : k ∉ O) :
    Calls Tryd.prog 53 #[.pointer (some ⟨b, 0, none⟩), .int .u64 k] w fun e w' => e = .returned (.tuple #[.int .u64 0, .bool false]) ∧ w' = w := by
  have hf := h.look k
  obtain ⟨cc, c0⟩ := h.tab.c0
  have hsl := h.slotlt k
  have hc0 := h.tab.cs _ 0 hsl (by decide)
  rw [Nat.add_zero, h.inv.slot_out hk, refCell_none0] at hc0
  have hpw := h.pow
  generalize slotN (2 ^ p) K (homeP p k) k = x at *
  generalize lookN (2 ^ p) K (homeP p k) k + 1 = L at *
  clear h hk
  go_enter Tryd.func53, Tryd.ntmps53
  go_wp2_with fail
  refine hf.mono ?_
  rintro e w' ⟨rfl, hw'⟩
  replace hw' := hw'.symm
  subst hw'
  go_wp2_with fail
  go_ret2
  exact ⟨rfl, rfl⟩

theorem row_base {w : World} {base base' size n : Nat} {e : TypeId} {v : Value} {xs : List Value} (h : w.ownsRow base e size v n xs) (hb : base' ≤ base) : w.ownsRow base' e size v n xs := by
  refine ⟨h.1, ?_⟩
  rcases h.2 with h1 | ⟨g, cap, cur, rfl, h2, h3⟩
  · exact .inl h1
  · exact .inr ⟨g, cap, cur, rfl, Nat.le_trans hb h2, h3⟩
/-- A slot is stored. -/
theorem RefAt.slot {w : World} {b s : Nat} {K : List (Option Int)} {O : List Int} {vf : Int → Int} {v : Value} {x : Nat} (h : RefAt w b s K O vf v) (hx : x < K.length) (o : Option Int) (W : World)
    (hl : Like W (((w.setCell ⟨s, x * 3, none⟩ (refCell vf o 0)).setCell ⟨s, x * 3 + 1, none⟩ (refCell vf o 1)).setCell ⟨s, x * 3 + 2, none⟩ (refCell vf o 2))) : RefAt W b s (K.set x o) O vf v ∧ Keeps (fun q => q = s) w W := by
  have hoth : ∀ q, q ≠ s → W.heap[q]? = w.heap[q]? := fun q hq => by
    rw [hl.heap]
    exact (Below.heap_setCell _ _ _ _ hq).trans ((Below.heap_setCell _ _ _ _ hq).trans (Below.heap_setCell _ _ _ _ hq))
  refine ⟨⟨?_, ?_, ?_, h.bs⟩, ?_⟩
  · rw [List.length_set, hoth b h.bs]
    exact h.tab
  · obtain ⟨ex, hs⟩ := h.slots
    refine ⟨ex, ?_⟩
    rw [hl.heap, ← refCells_put (vf := vf) hx o (fun _ _ _ _ => rfl), ← set_app _ _ _ _ (by simp [refCells_size]; omega), ← set_app _ _ _ _ (by simp [refCells_size]; omega), ← set_app _ _ _ _ (by rw [refCells_size]; omega)]
    exact block_set (block_set (block_set hs _ _) _ _) _ _
  · exact row_of_block h.row (fun q hq => hoth q (fun e => h.rs (e ▸ hq)))
  · exact hl.keeps ((((Keeps.refl (fun q => q = s) w).setCell (p := ⟨s, _, none⟩) (.inr rfl) _).setCell (p := ⟨s, _, none⟩) (.inr rfl) _).setCell (p := ⟨s, _, none⟩) (.inr rfl) _)

set_option maxRecDepth 100000 in
set_option maxHeartbeats 1000000 in
theorem take_in (b s p : Nat) (K : List (Option Int)) (O : List Int) (vf : Int → Int) (v : Value) (k : Int) (w : World) (h : Fine w b s p K O vf v) (h1 : 1 ≤ w.heap.size) (hk : k ∈ O) :
    Calls Tryd.prog 53 #[.pointer (some ⟨b, 0, none⟩), .int .u64 k] w fun e w' => e = .returned (.tuple #[.int .u64 (vf k), .bool true]) ∧ ∃ v',
      Fine w' b s p (takeN (2 ^ p) (homeP p) K (slotN (2 ^ p) K (homeP p k) k)) (O.filter (fun q => decide (q ≠ k))) vf v' ∧ Keeps (ROwn b s v) w w' ∧ ∀ q, some q = v'.ownBlock → w.heap.size ≤ q := by
  have hf := h.look k
  obtain ⟨cc, c0⟩ := h.tab.c0
  have hsl := h.slotlt k
  have hin := h.inv.slot_in hk
  have hc0 := h.tab.cs _ 0 hsl (by decide)
  have hc1 := h.tab.cs _ 1 hsl (by decide)
  have hc2 := h.tab.cs _ 2 hsl (by decide)
  rw [Nat.add_zero, hin, refCell_some0] at hc0
  rw [hin, refCell_some1] at hc1
  rw [hin, refCell_some2] at hc2
  have hfz := h.tab.fs
  have hf0 := hfz (slotN (2 ^ p) K (homeP p k) k * 3)
  have hf1 := hfz (slotN (2 ^ p) K (homeP p k) k * 3 + 1)
  have hf2 := hfz (slotN (2 ^ p) K (homeP p k) k * 3 + 2)
  have hpw := h.pow
  have hbs := h.tab.bs
  have hsb := Ne.symm hbs
  have hlen : K.length = 2 ^ p := h.inv.len
  obtain ⟨g0, g1, g2, g3⟩ := gap_spec (by omega : slotN (2 ^ p) K (homeP p k) k < 2 ^ p) hin h.inv.free
  have hmid := mid_all h.inv (by omega) hin g0 g1 g2 g3
  have hinv := h.inv.take (by omega) hin
  generalize hD : gapN (2 ^ p) K (slotN (2 ^ p) K (homeP p k) k) = D at *
  have HTK : Hid (takeN (2 ^ p) (homeP p) K (slotN (2 ^ p) K (homeP p k) k) = (shiftN (2 ^ p) (homeP p) K (slotN (2 ^ p) K (homeP p k) k) (D - 1)).1) := by
    unfold Hid takeN
    rw [hD]
  generalize hx : slotN (2 ^ p) K (homeP p k) k = x at *
  generalize lookN (2 ^ p) K (homeP p k) k + 1 = L at *
  generalize hn : 2 ^ p = n at *
  generalize vf k = V at *
  obtain ⟨hT0, hK0⟩ := h.tab.slot (by omega : x < K.length) none _ (Like.refl _)
  rw [hlen] at c0 hsl hpw
  have hrow0 := h.tab.row
  have hlts := h.tab.lts
  have HP : Hid (3 ≤ p ∧ p ≤ 43 ∧ n = 2 ^ p ∧ 4 * O.length ≤ 3 * n ∧ O.length ≤ 4398046511104 ∧ Inv n (homeP p) K O) := ⟨h.p3, h.p43, hn.symm, by rw [← hn]; exact h.load, h.many, by rw [← hn]; exact hn ▸ h.inv⟩
  have HB : Hid (∃ ct, w.heap[b]? = some (.cells #[.slice (some ⟨s, 0, none⟩) K.length ct, v] 48 (0, 0))) := h.tab.tab
  clear h
  simp only [refCell] at hT0 hK0
  go_enter Tryd.func53, Tryd.ntmps53
  go_wp2_with fail
  refine hf.mono ?_
  rintro e w' ⟨rfl, hw'⟩
  replace hw' := hw'.symm
  subst hw'
  go_wp2_with fail
  generalize ((w.setCell ⟨s, x * 3, none⟩ (.bool false)).setCell ⟨s, x * 3 + 1, none⟩ (.int .u64 0)).setCell ⟨s, x * 3 + 2, none⟩ (.int .u64 0) = W1 at *
  obtain ⟨cc, c01⟩ := hT0.c0
  rw [List.length_set, hlen] at c01
  refine (behind_at b s cc n x W1 hsl (by omega) c01).mono ?_
  rintro e w' ⟨rfl, hw'⟩
  replace hw' := hw'.symm
  subst hw'
  clear c0 hc0 hc1 hc2 hf0 hf1 hf2 hfz hf c01
  go_wp2_with fail
  go_loopw [9, 10] (fun fr i wr => ∃ (j y g : Nat), j < D ∧ i = .int .i64 y ∧ fr = .int .i64 g ∧ Hid (y = wrapN n (x + (j + 1))) ∧ Hid (g = (shiftN n (homeP p) K x j).2) ∧ RefAt wr b s (shiftN n (homeP p) K x j).1 O vf v ∧ Keeps (fun q => q = s) w wr)
    (fun _ i _ => n - farN n x (intOf i).toNat)
  case atStart => exact ⟨0, _, _, g0, rfl, rfl, rfl, rfl, hT0, hK0⟩
  case round =>
    clear hT0 hK0
    obtain ⟨j, y, g, hj, rfl, rfl, HY, HG, hT, hK⟩ := hrel
    have M := hmid j hj
    have hlj : (shiftN n (homeP p) K x j).1.length = n := M.len
    obtain ⟨cc, c0⟩ := hT.c0
    rw [hlj] at c0
    have hyn : y < n := by rw [HY.out]; exact wrap_lt (by omega)
    have hcy0 := hT.cs y 0 (by omega) (by decide)
    have hcy1 := hT.cs y 1 (by omega) (by decide)
    have hcy2 := hT.cs y 2 (by omega) (by decide)
    simp only [Nat.add_zero] at hcy0
    have hfz := hT.fs
    have hsame := M.same (j + 1) (by omega) (by omega)
    rw [← HY.out] at hsame
    have hfy : farN n x y = j + 1 := by rw [HY.out]; exact far_wrap hsl (by omega)
    rcases Nat.lt_or_ge (j + 1) D with hlt | hge
    · obtain ⟨q, hq⟩ := g3 (j + 1) (by omega) hlt
      have hq1 : sl (shiftN n (homeP p) K x j).1 y = some q := by rw [hsame, HY.out]; exact hq
      rw [hq1] at hcy0 hcy1 hcy2
      rw [refCell_some0] at hcy0
      rw [refCell_some1] at hcy1
      rw [refCell_some2] at hcy2
      have hgn : g < n := by
        obtain ⟨gg, e1, e2⟩ := M.gap
        rw [HG.out, e2]
        exact wrap_lt (by omega)
      have hgy : g ≠ y := by
        intro e
        have := M.gone
        rw [← HG.out, e, hq1] at this
        cases this
      have hah := ahead_at b s cc p n g y q wr HP.out.2.2.1 HP.out.1 HP.out.2.1 hgn hyn c0
      have hstep : shiftN n (homeP p) K x (j + 1) = if farN n (homeP p q) g < farN n (homeP p q) y then (((shiftN n (homeP p) K x j).1.set g (some q)).set y none, y) else shiftN n (homeP p) K x j := by
        show shiftStep n (homeP p) (shiftN n (homeP p) K x j) (wrapN n (x + (j + 1))) = _
        unfold shiftStep
        rw [← HY.out, hq1, ← HG.out]
      have hy2 : wrapN n (y + 1) = wrapN n (x + (j + 1 + 1)) := by
        rw [HY.out]
        unfold wrapN
        split <;> split <;> split <;> omega
      have HY2 : Hid (wrapN n (y + 1) = wrapN n (x + (j + 1 + 1))) := hy2
      have hfy2 : farN n x (wrapN n (y + 1)) = j + 1 + 1 := by rw [hy2]; exact far_wrap hsl (by omega)
      have hnext := fun (ce : Nat) (W : World) (hc : W.cell? ⟨b, 0, none⟩ = some (.slice (some ⟨s, 0, none⟩) n ce)) => behind_at b s ce n y W hyn (by omega) hc
      clear hy2
      generalize wrapN n (y + 1) = z at *
      by_cases hm : farN n (homeP p q) g < farN n (homeP p q) y
      · rw [decide_eq_true hm] at hah
        have hcg0 := hT.cs g 0 (by omega) (by decide)
        have hcg1 := hT.cs g 1 (by omega) (by decide)
        have hcg2 := hT.cs g 2 (by omega) (by decide)
        simp only [Nat.add_zero] at hcg0
        generalize refCell vf (sl (shiftN n (homeP p) K x j).1 g) 0 = G0 at *
        generalize refCell vf (sl (shiftN n (homeP p) K x j).1 g) 1 = G1 at *
        generalize refCell vf (sl (shiftN n (homeP p) K x j).1 g) 2 = G2 at *
        have fg0 := hfz (g * 3)
        have fg1 := hfz (g * 3 + 1)
        have fg2 := hfz (g * 3 + 2)
        have HT2 : Hid (∀ W, Like W (((wr.setCell ⟨s, g * 3, none⟩ (.bool true)).setCell ⟨s, g * 3 + 1, none⟩ (.int .u64 q)).setCell ⟨s, g * 3 + 2, none⟩ (.int .u64 (vf q))) → RefAt W b s ((shiftN n (homeP p) K x j).1.set g (some q)) O vf v ∧ Keeps (fun q => q = s) wr W) := fun W hl => hT.slot (by omega) (some q) W hl
        have hcyy : Hid (sl ((shiftN n (homeP p) K x j).1.set g (some q)) y = some q) := by
          unfold Hid
          rw [sl_set (by omega), if_neg (fun e => hgy e.symm), hq1]
        rw [if_pos hm] at hstep
        have HS1 : Hid ((shiftN n (homeP p) K x (j + 1)).1 = ((shiftN n (homeP p) K x j).1.set g (some q)).set y none) := by unfold Hid; rw [hstep]
        have HS2 : Hid (y = (shiftN n (homeP p) K x (j + 1)).2) := by unfold Hid; rw [hstep]
        have HYY : Hid (z = wrapN n (x + (j + 1 + 1))) := HY2
        clear hfz hstep M hsame hq1 hq hmid g3 hT
        go_wp2_with (go_at_call 89; refine hah.mono ?_; rintro e w' ⟨rfl, hw'⟩; replace hw' := hw'.symm; subst hw')
        go_region
        obtain ⟨hT2, hK2⟩ := HT2.out ((((wr.setCell ⟨s, g * 3, none⟩ (.bool true)).setCell ⟨s, g * 3 + 1, none⟩ (.int .u64 q)).setCell ⟨s, g * 3 + 2, none⟩ (.int .u64 (vf q))).drew) ⟨rfl, rfl, rfl, rfl⟩
        generalize (((wr.setCell ⟨s, g * 3, none⟩ (.bool true)).setCell ⟨s, g * 3 + 1, none⟩ (.int .u64 q)).setCell ⟨s, g * 3 + 2, none⟩ (.int .u64 (vf q))).drew = W2 at hT2 hK2 ⊢
        clear c0 hcy0 hcy1 hcy2 hcg0 hcg1 hcg2 fg0 fg1 fg2 hah HT2
        have hl2 : ((shiftN n (homeP p) K x j).1.set g (some q)).length = n := by rw [List.length_set, hlj]
        obtain ⟨cc, c0⟩ := hT2.c0
        rw [hl2] at c0
        have hcy0 := hT2.cs y 0 (by omega) (by decide)
        have hcy1 := hT2.cs y 1 (by omega) (by decide)
        have hcy2 := hT2.cs y 2 (by omega) (by decide)
        simp only [Nat.add_zero] at hcy0
        rw [hcyy.out] at hcy0 hcy1 hcy2
        rw [refCell_some0] at hcy0
        rw [refCell_some1] at hcy1
        rw [refCell_some2] at hcy2
        have fy0 := hT2.fs (y * 3)
        have fy1 := hT2.fs (y * 3 + 1)
        have fy2 := hT2.fs (y * 3 + 2)
        have HT3 := hT2.slot (by omega : y < _) none
        simp only [refCell] at HT3
        go_wp2_with fail
        obtain ⟨hT3, hK3⟩ := HT3 (((W2.setCell ⟨s, y * 3, none⟩ (.bool false)).setCell ⟨s, y * 3 + 1, none⟩ (.int .u64 0)).setCell ⟨s, y * 3 + 2, none⟩ (.int .u64 0)) (Like.refl _)
        generalize ((W2.setCell ⟨s, y * 3, none⟩ (.bool false)).setCell ⟨s, y * 3 + 1, none⟩ (.int .u64 0)).setCell ⟨s, y * 3 + 2, none⟩ (.int .u64 0) = W3 at hT3 hK3 ⊢
        obtain ⟨ce, c03⟩ := hT3.c0
        rw [List.length_set, hl2] at c03
        refine (hnext _ W3 c03).mono ?_
        rintro e w' ⟨rfl, hw'⟩
        replace hw' := hw'.symm
        subst hw'
        clear c0 hcy0 hcy1 hcy2 fy0 fy1 fy2 HT3 c03
        go_wp2_with fail
        go_roundw
        case rel => exact ⟨j + 1, z, y, hlt, rfl, rfl, HYY, HS2, by rw [HS1.out]; exact hT3, (hK.trans hK2).trans hK3⟩
        case measure => simp [intOf, hfy, hfy2]; omega
      · rw [decide_eq_false hm] at hah
        rw [if_neg hm] at hstep
        rw [← hstep] at hT HG
        have HYY : Hid (z = wrapN n (x + (j + 1 + 1))) := HY2
        clear hfz hstep M hsame hq1 hq hmid g3
        generalize vf q = U at *
        go_wp2_with (first | (go_at_call 89; refine hah.mono ?_; rintro e w' ⟨rfl, hw'⟩; replace hw' := hw'.symm; subst hw') | (go_at_call 88; refine (hnext _ _ c0).mono ?_; rintro e w' ⟨rfl, hw'⟩; replace hw' := hw'.symm; subst hw'))
        go_roundw
        case rel => exact ⟨j + 1, z, g, hlt, rfl, rfl, HYY, HG, hT, hK⟩
        case measure => simp [intOf, hfy, hfy2]; omega
    · have hjD : j = D - 1 := by omega
      have hend : sl (shiftN n (homeP p) K x j).1 y = none := by rw [hsame, HY.out, show j + 1 = D by omega]; exact g2
      rw [hend, refCell_none0] at hcy0
      have hTK : RefAt wr b s (takeN n (homeP p) K x) O vf v := by rw [HTK.out, ← hjD]; exact hT
      have c1 := hTK.c1
      have hOl := HP.out.2.2.2.2.1
      obtain ⟨av, cv, rfl⟩ := row_form hrow0
      have hlow : ∀ q, ROwn b s (.slice av O.length cv) q → q < w.heap.size := fun q hq => by
        rcases hq with rfl | rfl | hq
        · exact lt_of_block HB.out.choose_spec
        · exact hlts
        · exact (hrow0.lt q hq.symm).2
      obtain ⟨W1, hW1⟩ : ∃ W, W = wr := ⟨_, rfl⟩
      subst hW1
      clear hend hsame hfz hcy1 hcy2 M hT hmid g3 g2 HTK
      go_wp2_with fail
      go_loopw [11, 12] (fun r i wr => ∃ m : Nat, m ≤ O.length ∧ i = .int .i64 m ∧ wr.ownsRow w.heap.size 25 1 r ((O.take m).filter (fun q => decide (q ≠ k))).length (wordsV ((O.take m).filter (fun q => decide (q ≠ k)))) ∧ RefAt wr b s (takeN n (homeP p) K x) O vf (.slice av O.length cv) ∧ Keeps (fun q => q = s) w wr)
        (fun _ i _ => O.length - (intOf i).toNat)
      case atStart => exact ⟨0, by omega, rfl, World.ownsRow_nil _ _ _ _, hTK, hK⟩
      case round =>
        clear hTK hK c1
        obtain ⟨m, hm, rfl, hrow, hT, hK⟩ := hrel
        have c1 := hT.c1
        by_cases hlt : m < O.length
        · obtain ⟨gg, off, rfl, hcell⟩ := (hT.reads hOl).at hlt
          have htk : O.take (m + 1) = O.take m ++ [oat O m] := by
            rw [List.take_succ_eq_append_getElem hlt]
            simp [oat, hlt]
          have hlf := List.length_filter_le (fun q => decide (q ≠ k)) (O.take m)
          rw [List.length_take] at hlf
          by_cases he : oat O m = k
          · have hfe : (O.take (m + 1)).filter (fun q => decide (q ≠ k)) = (O.take m).filter (fun q => decide (q ≠ k)) := by
              rw [htk, List.filter_append]
              simp [he]
            rw [← hfe] at hrow
            rw [he] at hcell
            clear hfe htk he
            go_wp2_with fail
            go_roundw
            case rel => exact ⟨m + 1, by omega, by go_num, hrow, hT, hK⟩
            case measure => simp [intOf]; omega
          · have hfe : (O.take (m + 1)).filter (fun q => decide (q ≠ k)) = (O.take m).filter (fun q => decide (q ≠ k)) ++ [oat O m] := by
              rw [htk, List.filter_append]
              simp [he]
            have hne : (oat O m != k) = true := by simpa using he
            obtain ⟨ra, rc, rfl⟩ := row_form hrow
            obtain ⟨g2, cap2, w1, hr, ho, hg, hgb⟩ := append_word (oat O m) hrow (by omega) hK.size
            rw [← hfe] at ho
            have hrown : ∀ q, some q = (Value.slice ra ((O.take m).filter (fun q => decide (q ≠ k))).length rc).ownBlock → w.heap.size ≤ q := fun q hq => (hrow.lt q hq.symm).1
            have hKw : Keeps (fun q => some q = (Value.slice ra ((O.take m).filter (fun q => decide (q ≠ k))).length rc).ownBlock) wr w1 := ⟨hg.os, hg.tape, hg.output, by have := hg.size; simp at this; omega, fun q hq hn => (hg.block q (by simp; omega) hn).trans (Below.heap_alloc _ _ _ hq)⟩
            have hT1 := hT.kept hKw (fun q hq e => by have := hlow q hq; have := hrown q e; omega)
            have hK1 := hK.step hKw (fun q hq e => by have := hrown q e; omega)
            have HRR : Hid (_ = _) := hr
            have HLN : Hid (((O.take m).filter (fun q => decide (q ≠ k))).length + 1 = ((O.take (m + 1)).filter (fun q => decide (q ≠ k))).length) := by unfold Hid; rw [hfe]; simp
            clear hr hfe htk he hg hKw hT hK hrow hrown hlf
            generalize oat O m = y at *
            generalize ((O.take m).filter (fun q => decide (q ≠ k))).length = lf at *
            go_wp2_with (at_builtin; refine wpList_append_run rfl _ _ 37 rfl rfl rfl HRR.out ?_; clear HRR)
            go_roundw
            case rel => exact ⟨m + 1, by omega, by go_num, ho, hT1, hK1⟩
            case measure => simp [intOf]; omega
        · obtain rfl : m = O.length := by omega
          rw [List.take_length] at hrow
          have hfb := hT.fb 1
          obtain ⟨ra, rc, rfl⟩ := row_form hrow
          have HF : Hid (∀ W, Like W (wr.setCell ⟨b, 1, none⟩ (.slice ra ((O.filter (fun q => decide (q ≠ k))).length) rc)) → Fine W b s p (takeN n (homeP p) K x) (O.filter (fun q => decide (q ≠ k))) vf (.slice ra ((O.filter (fun q => decide (q ≠ k))).length) rc) ∧ Keeps (ROwn b s (.slice av O.length cv)) w W ∧ ∀ q, some q = (Value.slice ra ((O.filter (fun q => decide (q ≠ k))).length) rc).ownBlock → w.heap.size ≤ q) := fun W hl => by
            have hlo := List.length_filter_le (fun q => decide (q ≠ k)) O
            obtain ⟨e1, e2, e3, e4, e5, e6⟩ := HP.out
            refine ⟨⟨⟨?_, ?_, ?_, hT.bs⟩, by rw [← e3]; exact hinv, by rw [← e3]; omega, e1, e2, by omega⟩, ?_, fun q hq => (hrow.lt q hq.symm).1⟩
            · rw [hl.heap]
              exact hT.tab.imp fun _ e => block_set e 1 _
            · rw [hl.heap]
              exact hT.slots.imp fun _ e => block_other e (Ne.symm hT.bs) 1 _
            · obtain ⟨ct, htb⟩ := hT.tab
              exact row_of_block (row_set (p := ⟨b, 1, none⟩) (row_base hrow h1) htb (by decide) _) (fun q _ => by rw [hl.heap])
            · exact hl.keeps ((hK.mono (T := ROwn b s (.slice av O.length cv)) (fun q _ e => .inr (.inl e))).setCell (p := ⟨b, 1, none⟩) (.inr (.inl rfl)) _)
          clear hinv hT hK hrow
          generalize (O.filter (fun q => decide (q ≠ k))).length = lf at *
          go_wp2_with fail
          go_ret2
          exact ⟨rfl, _, HF.out _ ⟨rfl, rfl, rfl, rfl⟩⟩
end Go.Proofs.YtbhocajmcfdffaaDoor.R
