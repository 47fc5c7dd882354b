/-
  The document's answer: the slots become twice as many; Put at any table that is in order. No statement of the seat is proved here.
-/
import Derived.Test.YtbhocajmcfdffaaDoorRefP
namespace Go.Proofs.YtbhocajmcfdffaaDoor.R
open Go.RowKit Go.Shelf

theorem RefAt.reads {w : World} {b s : Nat} {K : List (Option Int)} {O : List Int} {vf : Int → Int} {v : Value} (h : RefAt w b s K O vf v) (hO : O.length ≤ 4398046511104) : Reads w v O := reads_own (by omega) h.row

set_option maxRecDepth 100000 in
set_option maxHeartbeats 1000000 in
theorem grow_at (b s p : Nat) (K : List (Option Int)) (O : List Int) (vf : Int → Int) (v : Value) (w : World) (h : Fine w b s p K O vf v) (hp : p < 43) :
    Calls Tryd.prog 85 #[.pointer (some ⟨b, 0, none⟩)] w fun e w' => (∃ u, e = .returned u) ∧ ∃ ns, w.heap.size ≤ ns ∧
      RefAt w' b ns (fillN (2 ^ (p + 1)) (homeP (p + 1)) O) O vf v ∧ Keeps (fun k => k = b) w w' := by
  have hpow : 2 ^ (p + 1) = 2 * 2 ^ p := by rw [Nat.pow_succ]; omega
  have hKl : K.length = 2 ^ p := h.inv.len
  have hpw := h.pow
  obtain ⟨cc, htab⟩ := h.tab.tab
  obtain ⟨ex, hslots⟩ := h.tab.slots
  have c0 : w.cell? ⟨b, 0, none⟩ = some (.slice (some ⟨s, 0, none⟩) K.length cc) := by rw [cell_of_block htab]; rfl
  have c1 := h.tab.c1
  rw [hKl] at c0 hpw
  have fb := h.tab.fb 0
  have hlb := h.tab.ltb
  have hmk := run_rslots vf (2 ^ (p + 1)) (show 2 ^ (p + 1) ≤ 2 ^ 43 from Nat.pow_le_pow_right (by decide) (by omega))
  have hload := h.load
  have hn8 : 8 ≤ 2 ^ p := Nat.pow_le_pow_right (n := 2) (by decide) h.p3
  have hmany := h.many
  generalize hn' : 2 ^ (p + 1) = n' at *
  have Hn : Hid (2 ^ (p + 1) = n') := hn'
  clear hn'
  generalize hnn : 2 ^ p = n at *
  have Hnn : Hid (2 ^ p = n) := hnn
  clear hnn
  have Hp : Hid (n' = 2 * n) := hpow
  have hcast : (n' : Int) = 2 * (n : Int) := by omega
  have hmk2 : ∀ w : World, (Instr.makeSlice 46 (.int .i64 (2 * (n : Int))) (.int .i64 (2 * (n : Int)))).run Tryd.prog w =
    .ok (.slice (some ⟨w.heap.size, 0, none⟩) n' n') (w.alloc (.cells (refCells vf (List.replicate n' none)) 95)) := fun w => by rw [← hcast]; exact hmk w
  clear hmk hcast hpow hKl
  have hwr : IntKind.i64.wrap (2 * (n : Int)) = 2 * (n : Int) := by rw [IntKind.wrap_i64]; omega
  generalize hcs : refCells vf (List.replicate n' none) = cs at *
  have HC : Hid (refCells vf (List.replicate n' none) = cs) := hcs
  clear hcs
  obtain ⟨av, cv, rfl⟩ := row_form h.tab.row
  go_enter Tryd.func85, Tryd.ntmps85
  go_wp2_with fail
  have hlt_s := h.tab.lts
  have ht0 : (((w.setCell ⟨b, 0, none⟩ (.slice (some ⟨w.heap.size + 1, 0, none⟩) n' n')).alloc (.cells #[.slice (some ⟨s, 0, none⟩) n cc, .slice none 0 0] 48)).alloc (.cells cs 95)).heap[b]? = some (.cells #[.slice (some ⟨w.heap.size + 1, 0, none⟩) n' n', .slice av O.length cv] 48 (0, 0)) :=
    alloc_old (alloc_old (block_set htab 0 _) _) _
  have ht1 := alloc_old (alloc_block (w.setCell ⟨b, 0, none⟩ (.slice (some ⟨w.heap.size + 1, 0, none⟩) n' n')) (.cells #[.slice (some ⟨s, 0, none⟩) n cc, .slice none 0 0] 48)) (.cells cs 95)
  have ht2 := alloc_block ((w.setCell ⟨b, 0, none⟩ (.slice (some ⟨w.heap.size + 1, 0, none⟩) n' n')).alloc (.cells #[.slice (some ⟨s, 0, none⟩) n cc, .slice none 0 0] 48)) (.cells cs 95)
  have ht3 : (((w.setCell ⟨b, 0, none⟩ (.slice (some ⟨w.heap.size + 1, 0, none⟩) n' n')).alloc (.cells #[.slice (some ⟨s, 0, none⟩) n cc, .slice none 0 0] 48)).alloc (.cells cs 95)).heap[s]? = _ :=
    alloc_old (alloc_old (block_other hslots (Ne.symm h.tab.bs) 0 _) _) _
  simp only [World.size_alloc, World.size_setCell] at ht1 ht2
  have hK0 : Keeps (fun q => q = b) w (((w.setCell ⟨b, 0, none⟩ (.slice (some ⟨w.heap.size + 1, 0, none⟩) n' n')).alloc (.cells #[.slice (some ⟨s, 0, none⟩) n cc, .slice none 0 0] 48)).alloc (.cells cs 95)) :=
    (((Keeps.refl (fun q => q = b) w).setCell (p := ⟨b, 0, none⟩) (.inr rfl) _).alloc _).alloc _
  generalize ((w.setCell ⟨b, 0, none⟩ (.slice (some ⟨w.heap.size + 1, 0, none⟩) n' n')).alloc (.cells #[.slice (some ⟨s, 0, none⟩) n cc, .slice none 0 0] 48)).alloc (.cells cs 95) = W0 at ht0 ht1 ht2 ht3 hK0 ⊢
  have hT0 : RefAt W0 b (w.heap.size + 1) (fillN n' (homeP (p + 1)) (O.take 0)) O vf (.slice av O.length cv) :=
    ⟨⟨_, by rw [show (fillN n' (homeP (p + 1)) (O.take 0)).length = n' by simp [fillN]]; exact ht0⟩, ⟨#[], by rw [Array.append_empty, show refCells vf (fillN n' (homeP (p + 1)) (O.take 0)) = cs from HC.out]; exact ht2⟩,
      row_of_block h.tab.row (fun q hq => hK0.block q (h.tab.row.lt q hq.symm).2 (fun e => h.tab.rb (e ▸ hq))), by omega⟩
  have hW0 : RefAt W0 w.heap.size s K [] vf (.slice none 0 0) :=
    ⟨⟨cc, by rw [show K.length = n by rw [h.inv.len, Hnn.out]]; exact ht1⟩, ⟨ex, ht3⟩, World.ownsRow_nil _ _ _ _, by omega⟩
  have HI : Hid (Inv (2 ^ p) (homeP p) K O ∧ 3 ≤ p ∧ O.Nodup) := ⟨h.inv, h.p3, h.inv.nodup⟩
  clear ht0 ht1 ht2 ht3 c0 c1 fb h hmk2 hwr htab hslots
  go_loopw [4] (fun i wr => ∃ k : Nat, k ≤ O.length ∧ i = .int .i64 k ∧ RefAt wr b (w.heap.size + 1) (fillN n' (homeP (p + 1)) (O.take k)) O vf (.slice av O.length cv) ∧ RefAt wr w.heap.size s K [] vf (.slice none 0 0) ∧ Keeps (fun q => q = b) w wr) (fun i _ => O.length - (intOf i).toNat)
  case atStart => exact ⟨0, by omega, rfl, hT0, hW0, hK0⟩
  case round =>
    clear hT0 hW0 hK0
    obtain ⟨k, hk, rfl, hT, hW, hK⟩ := hrel
    have c1 := hT.c1
    by_cases hlt : k < O.length
    · obtain ⟨g, off, rfl, hcell⟩ := (hT.reads hmany).at hlt
      have hmem := oat_mem hlt
      have htk : O.take (k + 1) = O.take k ++ [oat O k] := by
        rw [List.take_succ_eq_append_getElem hlt]
        simp [oat, hlt]
      have hget := get_gen w.heap.size s p K O [] vf _ (oat O k) wr hW HI.out.1 HI.out.2.1 (by omega)
      rw [if_pos hmem, decide_eq_true hmem] at hget
      have hfill : Inv n' (homeP (p + 1)) (fillN n' (homeP (p + 1)) (O.take k)) (O.take k) :=
        Inv.fill (fun q => by rw [← Hn.out]; exact homeP_lt _ (by omega) q) (by have := Hp.out; omega) _ _ rfl (HI.out.2.2.sublist (List.take_sublist _ _)) (by have := Hp.out; simp; omega)
      obtain ⟨cc, c0⟩ := hT.c0
      rw [hfill.len] at c0
      have hlook : ∀ m, Calls Tryd.prog 60 #[.pointer (some ⟨b, 0, none⟩), .int .u64 (oat O k)] (wr.drewN m) fun e w' =>
        e = .returned (.tuple #[.int .i64 (slotN n' (fillN n' (homeP (p + 1)) (O.take k)) (homeP (p + 1) (oat O k)) (oat O k)), .int .i64 (lookN n' (fillN n' (homeP (p + 1)) (O.take k)) (homeP (p + 1) (oat O k)) (oat O k) + 1 : Nat)]) ∧ w' = wr.drewN m := fun m =>
          look_gen b _ (p + 1) n' _ O vf _ (oat O k) (wr.drewN m) (hT.like (like_drewN wr m)) Hn.out.symm (by have := HI.out.2.1; omega) (by omega) hfill.len hfill.free
      have hsl : slotN n' (fillN n' (homeP (p + 1)) (O.take k)) (homeP (p + 1) (oat O k)) (oat O k) < n' := slot_lt (hfill.home _) _ hfill.free
      have hc0 := hT.cs _ 0 (by rw [hfill.len]; exact hsl) (by decide)
      have hc1 := hT.cs _ 1 (by rw [hfill.len]; exact hsl) (by decide)
      have hc2 := hT.cs _ 2 (by rw [hfill.len]; exact hsl) (by decide)
      simp only [Nat.add_zero] at hc0
      have hf0 := hT.fs (slotN n' (fillN n' (homeP (p + 1)) (O.take k)) (homeP (p + 1) (oat O k)) (oat O k) * 3)
      have hf1 := hT.fs (slotN n' (fillN n' (homeP (p + 1)) (O.take k)) (homeP (p + 1) (oat O k)) (oat O k) * 3 + 1)
      have hf2 := hT.fs (slotN n' (fillN n' (homeP (p + 1)) (O.take k)) (homeP (p + 1) (oat O k)) (oat O k) * 3 + 2)
      have hput := refCells_put (vf := vf) (vf' := vf) (K := fillN n' (homeP (p + 1)) (O.take k)) (x := slotN n' (fillN n' (homeP (p + 1)) (O.take k)) (homeP (p + 1) (oat O k)) (oat O k)) (by rw [hfill.len]; exact hsl) (some (oat O k)) (fun _ _ _ _ => rfl)
      rw [refCell_some0, refCell_some1, refCell_some2, ← fillN_snoc, ← htk] at hput
      have hnl : (fillN n' (homeP (p + 1)) (O.take (k + 1))).length = n' := by rw [htk, fillN_snoc, List.length_set, hfill.len]
      have HT : Hid (∀ W, Like W (((wr.setCell ⟨w.heap.size + 1, slotN n' (fillN n' (homeP (p + 1)) (O.take k)) (homeP (p + 1) (oat O k)) (oat O k) * 3, none⟩ (.bool true)).setCell ⟨w.heap.size + 1, slotN n' (fillN n' (homeP (p + 1)) (O.take k)) (homeP (p + 1) (oat O k)) (oat O k) * 3 + 1, none⟩ (.int .u64 (oat O k))).setCell ⟨w.heap.size + 1, slotN n' (fillN n' (homeP (p + 1)) (O.take k)) (homeP (p + 1) (oat O k)) (oat O k) * 3 + 2, none⟩ (.int .u64 (vf (oat O k)))) →
          RefAt W b (w.heap.size + 1) (fillN n' (homeP (p + 1)) (O.take (k + 1))) O vf (.slice (some ⟨g, off, none⟩) O.length cv) ∧ RefAt W w.heap.size s K [] vf (.slice none 0 0) ∧ Keeps (fun q => q = b) w W) := fun W hl => by
        have hoth : ∀ q, q ≠ w.heap.size + 1 → W.heap[q]? = wr.heap[q]? := fun q hq => by
          rw [hl.heap]
          exact (Below.heap_setCell _ _ _ _ hq).trans ((Below.heap_setCell _ _ _ _ hq).trans (Below.heap_setCell _ _ _ _ hq))
        refine ⟨⟨?_, ?_, ?_, hT.bs⟩, ⟨hW.tab.imp fun _ e => (hoth _ (by omega)).trans e, hW.slots.imp fun _ e => (hoth _ (by omega)).trans e, World.ownsRow_nil _ _ _ _, hW.bs⟩, ?_⟩
        · rw [hoth b (by omega), hnl, ← hfill.len]
          exact hT.tab
        · obtain ⟨ex2, hs2⟩ := hT.slots
          refine ⟨ex2, ?_⟩
          rw [hl.heap, ← hput, ← set_app _ _ _ _ (by simp [refCells_size, hfill.len]; omega), ← set_app _ _ _ _ (by simp [refCells_size, hfill.len]; omega), ← set_app _ _ _ _ (by rw [refCells_size, hfill.len]; omega)]
          exact block_set (block_set (block_set hs2 _ _) _ _) _ _
        · exact row_of_block hT.row (fun q hq => hoth q (fun e => hT.rs (e ▸ hq)))
        · exact hl.keeps (((hK.setCell (p := ⟨w.heap.size + 1, _, none⟩) (.inl (by show w.heap.size ≤ w.heap.size + 1; omega)) _).setCell (p := ⟨w.heap.size + 1, _, none⟩) (.inl (by show w.heap.size ≤ w.heap.size + 1; omega)) _).setCell (p := ⟨w.heap.size + 1, _, none⟩) (.inl (by show w.heap.size ≤ w.heap.size + 1; omega)) _)
      clear hput hnl htk hfill hmem hT hW hK
      generalize refCell vf (sl (fillN n' (homeP (p + 1)) (O.take k)) (slotN n' (fillN n' (homeP (p + 1)) (O.take k)) (homeP (p + 1) (oat O k)) (oat O k))) 0 = R0 at *
      generalize refCell vf (sl (fillN n' (homeP (p + 1)) (O.take k)) (slotN n' (fillN n' (homeP (p + 1)) (O.take k)) (homeP (p + 1) (oat O k)) (oat O k))) 1 = R1 at *
      generalize refCell vf (sl (fillN n' (homeP (p + 1)) (O.take k)) (slotN n' (fillN n' (homeP (p + 1)) (O.take k)) (homeP (p + 1) (oat O k)) (oat O k))) 2 = R2 at *
      generalize slotN n' (fillN n' (homeP (p + 1)) (O.take k)) (homeP (p + 1) (oat O k)) (oat O k) = x at *
      generalize lookN n' (fillN n' (homeP (p + 1)) (O.take k)) (homeP (p + 1) (oat O k)) (oat O k) + 1 = L at *
      generalize vf (oat O k) = V at *
      generalize oat O k = y at *
      go_wp2_with fail
      refine hget.mono ?_
      rintro e w' ⟨rfl, m, hw'⟩
      subst hw'
      go_wp2_with fail
      refine (hlook m).mono ?_
      rintro e w' ⟨rfl, hw'⟩
      subst hw'
      go_wp2_with fail
      go_region
      all_goals go_wp2_with fail
      all_goals go_roundw
      case rel => exact ⟨k + 1, by omega, by go_num, HT.out _ ⟨rfl, rfl, rfl, rfl⟩⟩
      case measure => simp [intOf]; omega
    · obtain rfl : k = O.length := by omega
      rw [List.take_length] at hT
      go_wp2_with fail
      go_end0
      exact ⟨⟨_, rfl⟩, _, by omega, hT, hK⟩

section
variable {w w' : World} {b s p : Nat} {K : List (Option Int)} {O : List Int} {vf : Int → Int} {v : Value}
theorem Fine.doubled (h : Fine w b s p K O vf v) (hp : p < 43) {s' : Nat} (hT : RefAt w' b s' (fillN (2 ^ (p + 1)) (homeP (p + 1)) O) O vf v) : Fine w' b s' (p + 1) (fillN (2 ^ (p + 1)) (homeP (p + 1)) O) O vf v := by
  have hpow : 2 ^ (p + 1) = 2 * 2 ^ p := by rw [Nat.pow_succ]; omega
  have h1 := h.load
  have h3 := h.p3
  have h8 : 8 ≤ 2 ^ p := Nat.pow_le_pow_right (n := 2) (by decide) h3
  exact ⟨hT, Inv.fill (fun k => homeP_lt _ (by omega) k) (by omega) _ O rfl h.inv.nodup (by omega), by omega, by omega, by omega, h.many⟩
end

set_option maxRecDepth 100000 in
set_option maxHeartbeats 1000000 in
theorem put_grow (b s p : Nat) (K : List (Option Int)) (O : List Int) (vf : Int → Int) (v : Value) (k u : Int) (w : World) (h : Fine w b s p K O vf v) (hk : k ∉ O) (hl : ¬ 4 * (O.length + 1) ≤ 3 * 2 ^ p) (hp : p < 43) (hmo : O.length < 4398046511104) :
    Calls Tryd.prog 48 #[.pointer (some ⟨b, 0, none⟩), .int .u64 k, .int .u64 u] w fun e w' => e = .returned (.tuple #[.int .u64 0, .bool false, .int .i64 0]) ∧ ∃ ns v', w.heap.size ≤ ns ∧
      Fine w' b ns (p + 1) ((fillN (2 ^ (p + 1)) (homeP (p + 1)) O).set (slotN (2 ^ (p + 1)) (fillN (2 ^ (p + 1)) (homeP (p + 1)) O) (homeP (p + 1) k) k) (some k)) (O ++ [k]) (upd vf k u) v' ∧ Keeps (ROwn b s v) w w' ∧ ∀ q, some q = v'.ownBlock → some q = v.ownBlock ∨ w.heap.size ≤ q := by
  have hf := h.look k
  obtain ⟨cc, c0⟩ := h.tab.c0
  have c1 := h.tab.c1
  have hsl := h.slotlt k
  have hout := h.inv.slot_out hk
  have hc0 := h.tab.cs _ 0 hsl (by decide)
  rw [Nat.add_zero, hout, refCell_none0] at hc0
  have hpw := h.pow
  obtain ⟨a, c, rfl⟩ := row_form h.tab.row
  have hKl : Hid (K.length = 2 ^ p) := h.inv.len
  have hload : 4 * ((O.length : Int) + 1) > 3 * (K.length : Int) := by rw [hKl.out]; omega
  have hgrow : ∀ m, Calls Tryd.prog 85 #[.pointer (some ⟨b, 0, none⟩)] (w.drewN m) fun e w' => (∃ u, e = .returned u) ∧ ∃ ns, w.heap.size ≤ ns ∧
      Hid (Fine w' b ns (p + 1) (fillN (2 ^ (p + 1)) (homeP (p + 1)) O) O vf (.slice a O.length c)) ∧ Keeps (fun k => k = b) w w' := fun m =>
    (grow_at b s p K O vf _ (w.drewN m) (h.like (like_drewN w m)) hp).mono fun _ _ ⟨h1, ns, h2, h3, h4⟩ => ⟨h1, ns, h2, h.doubled hp h3, ⟨h4.os, h4.tape, h4.output, h4.size, h4.block⟩⟩
  have HL : Hid (4 * (O.length + 1) ≤ 3 * 2 ^ (p + 1)) := by
    have := h.load
    have : 2 ^ (p + 1) = 2 * 2 ^ p := by rw [Nat.pow_succ]; omega
    have h8 : 8 ≤ 2 ^ p := Nat.pow_le_pow_right (n := 2) (by decide) h.p3
    unfold Hid
    omega
  have HP3 : Hid (3 ≤ p) := h.p3
  generalize slotN (2 ^ p) K (homeP p k) k = x at *
  generalize lookN (2 ^ p) K (homeP p k) k + 1 = L at *
  clear h hout hl
  go_enter Tryd.func48, Tryd.ntmps48
  go_wp2_with fail
  refine hf.mono ?_
  rintro e w' ⟨rfl, hw'⟩
  replace hw' := hw'.symm
  subst hw'
  go_wp2_with fail
  go_quiet (fail)
  go_wp2_with fail
  refine (hgrow _).mono ?_
  rintro e w2 ⟨⟨_, rfl⟩, ns, hns, hG, hK2⟩
  replace hG := hG.out
  clear hgrow hf c0 c1 hsl hc0 hpw hload hKl
  have hf := hG.look k
  obtain ⟨cc, c0⟩ := hG.tab.c0
  have c1 := hG.tab.c1
  have hsl := hG.slotlt k
  have hc0 := hG.tab.cs _ 0 hsl (by decide)
  simp only [Nat.add_zero] at hc0
  have hc1 := hG.tab.cs _ 1 hsl (by decide)
  have hc2 := hG.tab.cs _ 2 hsl (by decide)
  have hfz := hG.tab.fs
  have hpw := hG.pow
  have hbs := hG.tab.bs
  have hsb := Ne.symm hbs
  have hfb := hG.tab.fb 1
  have hf0 := hfz (slotN (2 ^ (p + 1)) (fillN (2 ^ (p + 1)) (homeP (p + 1)) O) (homeP (p + 1) k) k * 3)
  have hf1 := hfz (slotN (2 ^ (p + 1)) (fillN (2 ^ (p + 1)) (homeP (p + 1)) O) (homeP (p + 1) k) k * 3 + 1)
  have hf2 := hfz (slotN (2 ^ (p + 1)) (fillN (2 ^ (p + 1)) (homeP (p + 1)) O) (homeP (p + 1) k) k * 3 + 2)
  have hr0 := ref_comes hG.tab hsl (fun y => fun e => hk ((hG.inv.mem k).2 ⟨y, e⟩)) k u hmo 0
  have hinv := hG.inv.put hk (by have := HL.out; omega)
  have HF : Hid (∀ W v', RefAt W b ns ((fillN (2 ^ (p + 1)) (homeP (p + 1)) O).set (slotN (2 ^ (p + 1)) (fillN (2 ^ (p + 1)) (homeP (p + 1)) O) (homeP (p + 1) k) k) (some k)) (O ++ [k]) (upd vf k u) v' → Fine W b ns (p + 1) ((fillN (2 ^ (p + 1)) (homeP (p + 1)) O).set (slotN (2 ^ (p + 1)) (fillN (2 ^ (p + 1)) (homeP (p + 1)) O) (homeP (p + 1) k) k) (some k)) (O ++ [k]) (upd vf k u) v') := fun W v' hT =>
    ⟨hT, hinv, by have := HL.out; simp; omega, by have := HP3.out; omega, by omega, by simp; omega⟩
  have hsub : Hid (∀ W, Keeps (ROwn b ns (.slice a O.length c)) w2 W → Keeps (ROwn b s (.slice a O.length c)) w W) := fun W h2 =>
    (hK2.mono (T := ROwn b s (.slice a O.length c)) (fun q _ e => .inl e)).step h2 (fun q hq e => by
      rcases e with e | e | e
      · exact .inl e
      · omega
      · exact .inr (.inr e))
  have hsz2 := hK2.size
  clear hinv hfz hG hK2
  generalize refCell vf (sl (fillN (2 ^ (p + 1)) (homeP (p + 1)) O) (slotN (2 ^ (p + 1)) (fillN (2 ^ (p + 1)) (homeP (p + 1)) O) (homeP (p + 1) k) k)) 0 = R0 at *
  generalize refCell vf (sl (fillN (2 ^ (p + 1)) (homeP (p + 1)) O) (slotN (2 ^ (p + 1)) (fillN (2 ^ (p + 1)) (homeP (p + 1)) O) (homeP (p + 1) k) k)) 1 = R1 at *
  generalize refCell vf (sl (fillN (2 ^ (p + 1)) (homeP (p + 1)) O) (slotN (2 ^ (p + 1)) (fillN (2 ^ (p + 1)) (homeP (p + 1)) O) (homeP (p + 1) k) k)) 2 = R2 at *
  generalize hX : slotN (2 ^ (p + 1)) (fillN (2 ^ (p + 1)) (homeP (p + 1)) O) (homeP (p + 1) k) k = x2 at *
  have HX : Hid (slotN (2 ^ (p + 1)) (fillN (2 ^ (p + 1)) (homeP (p + 1)) O) (homeP (p + 1) k) k = x2) := hX
  generalize lookN (2 ^ (p + 1)) (fillN (2 ^ (p + 1)) (homeP (p + 1)) O) (homeP (p + 1) k) k + 1 = L2 at *
  generalize hKK : fillN (2 ^ (p + 1)) (homeP (p + 1)) O = KK at *
  have HKK : Hid (fillN (2 ^ (p + 1)) (homeP (p + 1)) O = KK) := hKK
  clear hX hKK
  obtain ⟨g, cap, w3, hr, d1, d2, hend⟩ := hr0
  replace hr : (Builtin.append_ #[37, 37] 37 #[.slice a O.length c, .slice (some ⟨w2.heap.size, 0, none⟩) 1 1]).run Tryd.prog ((((w2.setCell ⟨ns, x2 * 3, none⟩ (.bool true)).setCell ⟨ns, x2 * 3 + 1, none⟩ (.int .u64 k)).setCell ⟨ns, x2 * 3 + 2, none⟩ (.int .u64 u)).alloc (.cells #[.int .u64 k] 25)) = .ok (.slice (some ⟨g, 0, none⟩) (O.length + 1) cap) w3 := hr
  have HRR : Hid (_ = _) := hr
  clear hr
  go_wp2_with fail
  refine hf.mono ?_
  rintro e w' ⟨rfl, hw'⟩
  replace hw' := hw'.symm
  subst hw'
  go_wp2_with (at_builtin; refine wpList_append_run rfl _ _ 37 rfl rfl rfl HRR.out ?_; clear HRR)
  go_ret3
  obtain ⟨q1, q2, q3⟩ := hend.out _ ⟨rfl, rfl, rfl, rfl⟩
  refine ⟨rfl, ns, _, hns, ?_, hsub.out _ q2, fun q hq => (q3 q hq).imp id (fun e => by omega)⟩
  rw [HKK.out, HX.out]
  exact HF.out _ _ q1

/-- Put, at any table that is in order and not too great. -/
theorem put_at (b s p : Nat) (K : List (Option Int)) (O : List Int) (vf : Int → Int) (v : Value) (k u : Int) (w : World) (h : Fine w b s p K O vf v) (hO : O.length < 4398046511104) :
    Calls Tryd.prog 48 #[.pointer (some ⟨b, 0, none⟩), .int .u64 k, .int .u64 u] w fun e w' => e = .returned (.tuple #[.int .u64 (if k ∈ O then vf k else 0), .bool (decide (k ∈ O)), .int .i64 0]) ∧ ∃ s' v',
      Fine w' b s' (putP p K O k).1 (putP p K O k).2 (putO O k) (upd vf k u) v' ∧ Keeps (ROwn b s v) w w' ∧ ∀ q, ROwn b s' v' q → ROwn b s v q ∨ w.heap.size ≤ q := by
  unfold putP putO
  by_cases hk : k ∈ O
  · simp only [if_pos hk, decide_eq_true hk]
    exact (put_in b s p K O vf v k u w h hk).mono fun _ _ ⟨h1, h2, h3⟩ => ⟨h1, s, v, h2, h3, fun q hq => .inl hq⟩
  · simp only [if_neg hk, decide_eq_false hk]
    by_cases hl : 4 * (O.length + 1) ≤ 3 * 2 ^ p
    · simp only [if_pos hl]
      refine (put_out b s p K O vf v k u w h hk hl hO).mono fun _ _ ⟨h1, v', h2, h3, h4⟩ => ⟨h1, s, v', h2, h3, ?_⟩
      rintro q (e | e | e)
      · exact .inl (.inl e)
      · exact .inl (.inr (.inl e))
      · exact (h4 q e).imp (fun e => .inr (.inr e)) id
    · simp only [if_neg hl]
      have hp : p < 43 := by
        apply Classical.byContradiction
        intro hc
        have : 2 ^ 43 ≤ 2 ^ p := Nat.pow_le_pow_right (by decide) (by omega)
        omega
      refine (put_grow b s p K O vf v k u w h hk hl hp hO).mono fun _ _ ⟨h1, ns, v', h2, h3, h4, h5⟩ => ⟨h1, ns, v', h3, h4, ?_⟩
      rintro q (e | e | e)
      · exact .inl (.inl e)
      · exact .inr (by omega)
      · exact (h5 q e).imp (fun e => .inr (.inr e)) id
end Go.Proofs.YtbhocajmcfdffaaDoor.R
