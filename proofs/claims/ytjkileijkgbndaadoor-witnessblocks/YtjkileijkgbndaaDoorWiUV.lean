/-
  No statement of the seat is proved here. (Several texts in one: WiU, WiP, WiV.)
-/
import Derived.Test.YtjkileijkgbndaaDoorWiNS
import Derived.Test.YtjkileijkgbndaaDoorEvDf
import Derived.Test.YtjkileijkgbndaaDoorWiM
import Derived.Deep.QuietTactic
import Derived.BigQuiet
import Derived.Test.YtjkileijkgbndaaDoorWiT
import Derived.Deep.MidRow

/- Walks of lent, kept, known (package parleylaw15), of the document's Wrong. No statement of the seat is proved here. -/
namespace Go.Proofs.YtjkileijkgbndaaDoor
open Go.RowKit Go.Shelf

/-- The mark behind what is lent. -/
def mrkW : Ev := ⟨0, 99, 0, 0, false, 0⟩
set_option maxRecDepth 100000 in
set_option maxHeartbeats 4000000 in
theorem lentW_any (v : Value) (L : List Ev) (w : World) (hv : EvsAt w v L) :
    Calls Tryd.prog 6 #[v] w fun ex w' => ∃ b cap, ex = .returned (.slice b L.length cap) ∧ L.length + 1 ≤ cap ∧ OwnR Ev.cl 6 50 w' w.heap.size (.slice b (L.length + 1) cap) (L ++ [mrkW]) ∧ Keeps (fun _ => False) w w' := by
  have hbig := hv.big
  obtain ⟨v1, X1, r1, o1, gr1⟩ := (OwnR.nil Ev.cl 6 50 w).app ev_len ev_one (by decide) Tryd.underlying22 info_ev rfl (by decide) (ty := 22) _ L hv.els (by simp; omega)
  have k1 := OwnR.kept gr1 (Keeps.refl _ w) (OwnR.nil Ev.cl 6 50 w)
  simp only [List.nil_append] at o1
  have ka := (Keeps.refl (fun _ => False) X1).alloc (.cells mrkW.cells 50)
  have ba := (MapKept.heap_alloc X1 (.cells mrkW.cells 50)).1
  have o1' := o1.keeps ka (fun _ _ f => f)
  have hM : ElsAt Ev.cl 6 (X1.alloc (.cells mrkW.cells 50)) (.slice (some ⟨X1.heap.size, 0, none⟩) 1 1) [mrkW] := ⟨some ⟨X1.heap.size, 0, none⟩, 1, rfl, by simp, fun k hk => ⟨X1.heap.size, 0, rfl, fun f x hx => by
    obtain rfl : k = 0 := by simpa using hk
    rw [show 0 + 0 * 6 + f = f by omega, cell_of_block ba]
    have : mrkW.cells[f]? = (Ev.cl mrkW)[f]? := by simp [Ev.cl]
    rw [this]; exact hx⟩⟩
  obtain ⟨v2, X2, r2, o2, gr2⟩ := o1'.app ev_len ev_one (by decide) Tryd.underlying22 info_ev rfl (by decide) (ty := 22) _ [mrkW] hM (by simp; omega)
  have k2 := OwnR.kept gr2 (k1.trans ka) o1'
  obtain ⟨g2, cap2, cur, rfl, hg2, hb2, hcur⟩ := o2.at (by simp)
  have hlc : L.length + 1 ≤ cap2 := by
    obtain ⟨a', c', hv', hl', _⟩ := (o2.els ev_len).form
    simp only [Value.slice.injEq] at hv'
    obtain ⟨-, -, rfl⟩ := hv'
    simpa using hl'
  simp only [List.length_append, List.length_cons, List.length_nil] at r2 o2
  have HR1 : Hid _ := r1
  have HR2 : Hid _ := r2
  have HO : Hid (OwnR Ev.cl 6 50 X2 w.heap.size _ _) := o2
  obtain ⟨a, cap, rfl, hcap⟩ := hv.els.shape
  have hl1 : (L.length : Int) ≤ (cap2 : Int) := by omega
  have hl2 : L.length ≤ cap2 := by omega
  clear o1 o2 o1' gr1 gr2 r1 r2 hM ka ba hv hb2 hcur hg2
  unfold mrkW at HR2
  dsimp only [Ev.cells] at HR2
  go_enter Tryd.func6, Tryd.ntmps6
  go_wp2_with (first | (at_builtin; refine wpList_append_run rfl _ _ 22 rfl rfl rfl HR1.out ?_; clear HR1) | (at_builtin; refine wpList_append_run rfl _ _ 22 rfl rfl rfl HR2.out ?_; clear HR2))
  go_ret
  exact ⟨_, _, rfl, hlc, HO.out, k2⟩
set_option maxRecDepth 100000 in
set_option maxHeartbeats 4000000 in
theorem keptW_any (v : Value) (L : List Ev) (b : Option Addr) (cap : Nat) (hc : L.length + 1 ≤ cap) (w : World) (hm : ElsAt Ev.cl 6 w (.slice b (L.length + 1) cap) (L ++ [mrkW])) (hv : ElsAt Ev.cl 6 w v L) (hL : L.length ≤ 4611686018427) :
    Calls Tryd.prog 11 #[.slice b L.length cap, v] w fun ex w' => ex = .returned (.bool true) ∧ Keeps (fun _ => False) w w' := by
  have h5 := hm.take L.length (by simp)
  rw [List.take_left' rfl] at h5
  have SM := rsev_any (.slice b L.length cap) v L (by omega) w h5 hv
  have HC : Hid (∀ X, Keeps (fun _ => False) w X → ∃ g off, b = some ⟨g, off, none⟩ ∧ X.cell? ⟨g, off + L.length * 6 + 1, none⟩ = some (.int .i64 99)) := fun X k => by
    obtain ⟨g, off, hb, q⟩ := (hm.keeps ev_ne k).at L.length (by simp)
    refine ⟨g, off, hb, ?_⟩
    have := q 1 (.int .i64 99) (by rw [List.getElem_append_right (Nat.le_refl _)]; simp [mrkW])
    simpa using this
  obtain ⟨a, cp, rfl, _⟩ := hv.shape
  have hw1 : IntKind.i64.wrap ((L.length : Int) + 1) = (L.length : Int) + 1 := by rw [IntKind.wrap_i64]; omega
  have l1 : (0 : Int) ≤ (L.length : Int) + 1 := by omega
  have l2 : (L.length : Int) + 1 ≤ (cap : Int) := by omega
  have l3 : ((L.length : Int) + 1).toNat = L.length + 1 := by omega
  have l4 : (L.length : Int) < ((L.length + 1 : Nat) : Int) := by omega
  have l5 : (L.length : Int) < (L.length : Int) + 1 := by omega
  clear hm hv h5
  go_enter Tryd.func11, Tryd.ntmps11
  go_wp2_with fail
  refine SM.mono ?_
  rintro ex w1 ⟨rfl, k1⟩
  obtain ⟨g, off, rfl, c⟩ := HC.out w1 k1
  go_wp2_with fail
  go_ret
  exact ⟨rfl, k1⟩
set_option maxRecDepth 100000 in
set_option maxHeartbeats 4000000 in
theorem wrongW_any (v : Value) (L : List Ev) (w : World) (hv : EvsAt w v L) : Calls Tryd.prog 7 #[v] w fun ex w' => ex = .returned (.int .i64 (checkL L).2) ∧ Keeps (fun _ => False) w w' := by
  have CK := rcheck_any v L w hv
  obtain ⟨a, cap, rfl, hcap⟩ := hv.els.shape
  clear hv
  generalize checkL L = c at *
  obtain ⟨c1, c2⟩ := c
  unfold odV at CK
  dsimp only at CK ⊢
  go_enter Tryd.func7, Tryd.ntmps7
  go_wp2_with fail
  refine CK.mono ?_
  rintro ex w1 ⟨rfl, k1⟩
  have ka := k1.alloc (.cells #[.int .i64 c1, .int .i64 c2] 52)
  clear CK
  go_wp2_with fail
  go_ret
  exact ⟨rfl, ka⟩
/-- The law's own example. -/
def knL : List Ev := [⟨0, 1, 0, 0, false, 0⟩, ⟨0, 2, 0, 5, false, 0⟩, ⟨0, 3, 1, 6, false, 0⟩, ⟨0, 5, 0, 0, false, 0⟩, ⟨0, 6, 0, 1, false, 0⟩]
def knV : Array Value := (flatV Ev.cl knL).toArray
theorem kn_check : (checkL knL).2 = 0 := by rfl
theorem kn_parts : partsL knL = [⟨0, 1, 0, 4, 1, true, 0, [(0, 5)], [(1, 6)], 0, true⟩] := by rfl
theorem kn_ord : ordK (partsL knL) (partsL knL).length = [0] := by rw [kn_parts]; rfl
theorem kn_wf : ∀ e ∈ knL, e.wf := by
  intro e he
  simp [knL] at he
  rcases he with rfl | rfl | rfl | rfl | rfl <;> simp [Ev.wf]
theorem kn_at {w : World} {g : Nat} (hb : w.heap[g]? = some (.cells knV 50 (0, 0))) : EvsAt w (.slice (some ⟨g, 0, none⟩) 5 5) knL := by
  refine ⟨⟨some ⟨g, 0, none⟩, 5, rfl, by decide, fun k hk => ⟨g, 0, rfl, fun f x hx => ?_⟩⟩, kn_wf, by decide⟩
  have hf : f < 6 := by have := (List.getElem?_eq_some_iff.1 hx).1; simpa using this
  rw [cell_of_block hb, Nat.zero_add]
  have := flatV_at ev_len knL k f hk hf
  unfold knV
  simpa using this.trans hx
set_option maxRecDepth 100000 in
set_option maxHeartbeats 4000000 in
theorem knownW_any (w : World) (hg : Gv w) (h8 : 2 ≤ w.heap.size) : Calls Tryd.prog 5 #[] w fun ex w' => ex = .returned (.bool true) ∧ Keeps (fun _ => False) w w' := by
  have k0 := (Keeps.refl (fun _ => False) w).alloc (.cells knV 50)
  have e0 := kn_at (MapKept.heap_alloc w (.cells knV 50)).1
  have hs0 := k0.size
  have BL := blocks_any _ knL (by decide) kn_check _ e0 (hg.keeps k0) (by omega)
  have WO := fun X (k : Keeps (fun _ => False) (w.alloc (.cells knV 50)) X) => worder_any _ knL (by decide) kn_check X (e0.keeps k) ((hg.keeps k0).keeps k) (by have := k.size; omega)
  rw [kn_ord] at WO
  unfold BlPost at BL
  rw [kn_parts] at BL
  unfold knV knL flatV at *
  simp only [List.flatMap_cons, List.flatMap_nil, List.cons_append, List.nil_append] at *
  clear hg h8 hs0 e0
  go_enter Tryd.func5, Tryd.ntmps5
  go_wp2_with fail
  refine BL.mono ?_
  rintro ex w1 ⟨lv, X, rfl, hB, hX, k1⟩
  obtain ⟨xx, hxx, hxp⟩ : ∃ x : Bx, X = [x] ∧ x.p = ⟨0, 1, 0, 4, 1, true, 0, [(0, 5)], [(1, 6)], 0, true⟩ := by
    cases X with
    | nil => simp at hX
    | cons x X =>
      simp at hX
      obtain ⟨h1, h2⟩ := hX
      subst h2
      exact ⟨x, rfl, h1⟩
  subst hxx
  obtain ⟨p, ⟨ra, rn, rc⟩, ⟨sa, sn, sc⟩⟩ := xx
  dsimp only at hxp
  subst hxp
  have hrn : rn = 1 := by
    obtain ⟨b, c, h⟩ := (hB.rws.rd _ (List.mem_singleton.2 rfl)).form
    simp only [Value.slice.injEq] at h
    exact h.2.1
  have hsn : sn = 1 := by
    obtain ⟨b, c, h⟩ := (hB.rws.wt _ (List.mem_singleton.2 rfl)).form
    simp only [Value.slice.injEq] at h
    exact h.2.1
  subst hrn
  subst hsn
  obtain ⟨lb, lc, rfl⟩ := hB.own.form
  obtain ⟨g, off, hgo, hc⟩ := (hB.own.els cb_len).at 0 (by simp)
  subst hgo
  have HC : Hid (∀ Z, Keeps (fun _ => False) w1 Z → Z.cell? ⟨g, off + 1, none⟩ = some (.int .i64 1) ∧ Z.cell? ⟨g, off + 5, none⟩ = some (.bool true) ∧ Z.cell? ⟨g, off + 4, none⟩ = some (.int .u64 1) ∧ Z.cell? ⟨g, off + 3, none⟩ = some (.int .i64 4) ∧ Z.cell? ⟨g, off + 7, none⟩ = some (.slice ra 1 rc) ∧ Z.cell? ⟨g, off + 8, none⟩ = some (.slice sa 1 sc)) := fun Z kz => by
    have c : ∀ f x, _ → Z.cell? ⟨g, off + 0 * 9 + f, none⟩ = some x := fun f x hf => kz.cellB (fun f => f) (hc f x hf)
    simp only [Nat.zero_mul, Nat.add_zero] at c
    exact ⟨c 1 _ rfl, c 5 _ rfl, c 4 _ rfl, c 3 _ rfl, c 7 _ rfl, c 8 _ rfl⟩
  have WO1 := WO w1 k1
  clear BL WO hB hX hc
  simp only [List.length_cons, List.length_nil, Nat.zero_add]
  go_wp2_with fail
  refine WO1.mono ?_
  rintro ex w2 ⟨u, rfl, hI, k2⟩
  obtain ⟨ub, uc, rfl⟩ := hI.form
  obtain ⟨d1, d5, d4, d3, d7, d8⟩ := HC.out w2 k2
  have K2 := (k0.trans k1).trans k2
  clear WO1 hI k1 k2 k0
  simp only [natI, List.map_cons, List.map_nil, List.length_cons, List.length_nil, Nat.zero_add]
  go_wp2_with fail
  go_ret
  exact ⟨rfl, K2⟩
end Go.Proofs.YtjkileijkgbndaaDoor


/- A walk of Ahead (package witness). No statement of the seat is proved here. -/
namespace Go.Proofs.YtjkileijkgbndaaDoor
open Go.RowKit Go.Shelf

set_option maxRecDepth 100000 in
set_option maxHeartbeats 8000000 in
theorem ahead_no (v : Value) (L : List Ev) (a b : Int) (hz : (checkL L).2 ≠ 0) (w : World) (hv : EvsAt w v L) (hg : Gv w) (h8 : 2 ≤ w.heap.size) : Calls Tryd.prog 10 #[v, .int .i64 a, .int .i64 b] w fun ex w' => ex = .returned (.bool false) ∧ Keeps (fun _ => False) w w' := by
  have GA := gather_no v L hz w hv hg h8
  obtain ⟨va, cap, rfl, hcap⟩ := hv.els.shape
  clear hv hg
  generalize (checkL L).2 = c2 at *
  have hzb : (c2 == 0) = false := by rw [beq_eq_false_iff_ne]; exact hz
  have hzn : (c2 != 0) = true := by rw [bne_iff_ne]; exact hz
  go_enter Tryd.func10, Tryd.ntmps10
  go_wp2_with fail
  refine GA.mono ?_
  rintro ex w1 ⟨rfl, k1⟩
  clear GA
  go_wp2_with fail
  go_ret
  exact ⟨rfl, k1⟩
set_option maxRecDepth 100000 in
set_option maxHeartbeats 8000000 in
theorem ahead_any (v : Value) (L : List Ev) (a b : Int) (hL : L.length ≤ 60000) (hz : (checkL L).2 = 0) (w : World) (hv : EvsAt w v L) (hg : Gv w) (h8 : 2 ≤ w.heap.size) : Calls Tryd.prog 10 #[v, .int .i64 a, .int .i64 b] w fun ex w' => ex = .returned (.bool (aheadB (partsL L) a b)) ∧ Keeps (fun _ => False) w w' := by
  have GA := gather_any v L hL hz w hv hg h8
  obtain ⟨va, cap, rfl, hcap⟩ := hv.els.shape
  clear hv hg hz
  obtain ⟨an, han⟩ : ∃ an, an = aheadB (partsL L) a b := ⟨_, rfl⟩
  rw [← han]
  have HA : Hid (an = aheadB (partsL L) a b) := han
  clear han
  go_enter Tryd.func10, Tryd.ntmps10
  go_wp2_with fail
  refine GA.mono ?_
  rintro ex w1 ⟨rb, mb, bs, pv, pl, X, rfl, hrw, hrb, bR, PR, hX, k1⟩
  clear GA
  have hat : ∀ k (hk : k < X.length), at0 (partsL L) k = (X[k]).p := fun k hk => by rw [← hX]; simp [at0, hk]
  have hXl : (partsL L).length = X.length := by rw [← hX]; simp
  obtain ⟨pa, pc, rfl⟩ := PR.own.form
  have cr : w1.cell? ⟨rb, 0, none⟩ = some (.slice pa X.length pc) := by rw [cell_of_block bR]; rfl
  have HE : Hid (ElsAt Bx.cp 11 w1 (.slice pa X.length pc) X) := PR.own.els cp_len
  have H1 := has_any rb X.length pc pa a w1 cr
  have H2 := has_any rb X.length pc pa b w1 cr
  unfold aheadB at HA
  rw [hXl] at HA
  generalize partsL L = l at *
  clear PR hX hXl bR
  by_cases ha : 0 ≤ a ∧ a < X.length
  · have ea : decide (0 ≤ a ∧ a < (X.length : Int)) = true := by simpa using ha
    rw [ea] at H1
    by_cases hb : 0 ≤ b ∧ b < X.length
    · have eb : decide (0 ≤ b ∧ b < (X.length : Int)) = true := by simpa using hb
      rw [eb] at H2
      obtain ⟨an', rfl⟩ : ∃ n : Nat, a = n := ⟨a.toNat, by omega⟩
      obtain ⟨bn, rfl⟩ : ∃ n : Nat, b = n := ⟨b.toNat, by omega⟩
      obtain ⟨a0, a1⟩ := ha
      obtain ⟨b0, b1⟩ := hb
      obtain ⟨g, off, rfl, hca⟩ := HE.out.at an' (by omega)
      obtain ⟨g', off', hgo, hcb⟩ := HE.out.at bn (by omega)
      simp only [Option.some.injEq, Addr.mk.injEq, and_true] at hgo
      obtain ⟨rfl, rfl⟩ := hgo
      have c1 := hca 1 _ rfl
      have c3 := hca 3 _ rfl
      have d2 := hcb 2 _ rfl
      rw [← hat _ (by omega)] at c1 c3 d2
      have hA2 : an = decide ((at0 l an').kd ≠ 5 ∧ (at0 l an').la < (at0 l bn).fi) := by
        rw [HA.out]; simp only [Int.toNat_natCast]; congr 1; simp [a1, b1]
      generalize (at0 l an').kd = kd at *
      generalize (at0 l an').la = la at *
      generalize (at0 l bn).fi = fi at *
      clear hca hcb HE HA hat
      go_wp2_with fail
      refine H1.mono ?_
      rintro ex w' ⟨rfl, rfl⟩
      clear H1
      go_wp2_with fail
      refine H2.mono ?_
      rintro ex w' ⟨rfl, rfl⟩
      clear H2
      by_cases h5 : kd = 5
      · subst h5
        obtain rfl : an = false := by rw [hA2]; simp
        clear hA2
        go_wp2_with fail
        go_quiet (fail)
        go_wp2_with fail
        go_ret
        exact ⟨rfl, k1.drewN _⟩
      · have h5b : (kd == 5) = false := by rw [beq_eq_false_iff_ne]; exact h5
        have h5n : (kd != 5) = true := by rw [bne_iff_ne]; exact h5
        have hA3 : an = decide (la < fi) := by rw [hA2]; simp [h5]
        subst hA3
        clear hA2
        go_wp2_with fail
        go_quiet (fail)
        go_wp2_with fail
        go_ret
        exact ⟨rfl, k1.drewN _⟩
    · have eb : decide (0 ≤ b ∧ b < (X.length : Int)) = false := by simpa using hb
      rw [eb] at H2
      obtain rfl : an = false := by rw [HA.out]; simp; intro _ _ h1 h2; exact absurd ⟨h1, h2⟩ hb
      clear HA HE hat
      go_wp2_with fail
      refine H1.mono ?_
      rintro ex w' ⟨rfl, rfl⟩
      clear H1
      go_wp2_with fail
      refine H2.mono ?_
      rintro ex w' ⟨rfl, rfl⟩
      clear H2
      go_wp2_with fail
      go_ret
      exact ⟨rfl, k1⟩
  · have ea : decide (0 ≤ a ∧ a < (X.length : Int)) = false := by simpa using ha
    rw [ea] at H1
    obtain rfl : an = false := by rw [HA.out]; simp; intro h1 h2; exact absurd ⟨h1, h2⟩ ha
    clear HA HE hat
    go_wp2_with fail
    refine H1.mono ?_
    rintro ex w' ⟨rfl, rfl⟩
    clear H1
    go_wp2_with fail
    go_ret
    exact ⟨rfl, k1⟩
end Go.Proofs.YtjkileijkgbndaaDoor


/- Blocks that are written over. No statement of the seat is proved here. -/
namespace Go.Proofs.YtjkileijkgbndaaDoor
open Go.RowKit Go.Shelf

theorem RwL.keepsX {c : Bx → List Value} {sz : Nat} {t : TypeId} {w w' : World} {base : Nat} {v : Value} {X : List Bx} {S : Nat → Prop} (h : RwL c sz t w base v X) (k : Keeps S w w') (hs : ∀ q, (v.ownBlock = some q ∨ q ∈ ows X) → ¬ S q) : RwL c sz t w' base v X :=
  ⟨h.own.keeps k fun g hg => hs g (.inl hg), h.rws.keeps k fun q hq => hs q (.inr hq), h.ap⟩
/-- Cells that are stored leave every block its size and its kind. -/
theorem block_any {w : World} {b : Nat} {cur : Array Value} {t : TypeId} {fr : Nat × Nat} (h : w.heap[b]? = some (.cells cur t fr)) (q o : Nat) (v : Value) : ∃ cur', (w.setCell ⟨q, o, none⟩ v).heap[b]? = some (.cells cur' t fr) ∧ cur'.size = cur.size := by
  by_cases hq : q = b
  · subst hq
    exact ⟨_, block_set h o v, by simp⟩
  · have k : Keeps (fun x => x = q) w (w.setCell ⟨q, o, none⟩ v) := Keeps.setCell (S := fun x => x = q) (p := ⟨q, o, none⟩) (Keeps.refl _ w) (.inr rfl) v
    exact ⟨cur, (k.block b (lt_of_block h) (fun e => hq e.symm)).trans h, rfl⟩
theorem blocks_cells {b : Nat} {t : TypeId} {fr : Nat × Nat} (q : Nat) : ∀ (vs : List Value) (o : Nat) (w : World) (cur : Array Value), w.heap[b]? = some (.cells cur t fr) → ∃ cur', (w.setCells q o vs).heap[b]? = some (.cells cur' t fr) ∧ cur'.size = cur.size
  | [], _, _, cur, h => ⟨cur, h, rfl⟩
  | v :: vs, o, w, cur, h => by
    obtain ⟨c1, h1, h2⟩ := block_any h q o v
    obtain ⟨c2, h3, h4⟩ := blocks_cells q vs (o + 1) _ c1 h1
    exact ⟨c2, h3, by omega⟩
theorem far_cells {b : Nat} {t : TypeId} {fr : Nat × Nat} : ∀ (vs : List Value) (o : Nat) (w : World) (cur : Array Value), w.heap[b]? = some (.cells cur t fr) → ∃ cur', (w.setCells b o vs).heap[b]? = some (.cells cur' t fr) ∧ cur'.size = cur.size ∧ ∀ j, (j < o ∨ o + vs.length ≤ j) → cur'[j]? = cur[j]?
  | [], _, _, cur, h => ⟨cur, h, rfl, fun _ _ => rfl⟩
  | v :: vs, o, w, cur, h => by
    have h1 : (w.setCell ⟨b, o, none⟩ v).heap[b]? = _ := block_set h o v
    obtain ⟨c2, h3, h4, h5⟩ := far_cells vs (o + 1) _ _ h1
    refine ⟨c2, h3, by simpa using h4, fun j hj => ?_⟩
    rw [h5 j (by simp only [List.length_cons] at hj; omega), Array.getElem?_setIfInBounds, if_neg (by simp only [List.length_cons] at hj; omega)]
/-- A row that is there, whatever is in it. -/
structure RT (w : World) (s : Sl) (n : Nat) : Prop where
  len : s.n = n
  at' : 0 < n → ∃ q cur, s.a = some ⟨q, 0, none⟩ ∧ w.heap[q]? = some (.cells cur 47 (0, 0)) ∧ n * 3 ≤ cur.size
theorem rt_of {w : World} {base : Nat} {s : Sl} {L : List (Int × Int)} (h : EnR w base s.v L) : RT w s L.length := by
  obtain ⟨b, cp, hv⟩ := h.form
  simp only [Value.slice.injEq] at hv
  refine ⟨hv.2.1, fun hn => ?_⟩
  obtain ⟨g, cap, cur, h1, h2, h3, h4⟩ := h.at hn
  simp only [Value.slice.injEq] at h1
  exact ⟨g, cur, h1.1, h3, h4⟩
theorem RT.cells {w : World} {s : Sl} {n : Nat} (h : RT w s n) (q o : Nat) (vs : List Value) : RT (w.setCells q o vs) s n := by
  refine ⟨h.len, fun hn => ?_⟩
  obtain ⟨b, cur, h1, h2, h3⟩ := h.at' hn
  obtain ⟨c2, h4, h5⟩ := blocks_cells q vs o w cur h2
  exact ⟨b, c2, h1, h4, by omega⟩
/-- Blocks of which the first ones are written over. -/
structure Spo (wX wr : World) (B0 B1 g : Nat) (X : List Bx) (i : Nat) : Prop where
  kp : Keeps (fun q => B0 ≤ q ∧ q < B1) wX wr
  main : ∃ cur, wr.heap[g]? = some (.cells cur 43 (0, 0)) ∧ X.length * 9 ≤ cur.size ∧ ∀ j (hj : j < X.length), i ≤ j → cur[j * 9 + 7]? = some (X[j]).r.v ∧ cur[j * 9 + 8]? = some (X[j]).s.v
  rows : ∀ x ∈ X, RT wr x.r x.p.rs.length ∧ RT wr x.s x.p.ws.length
  gb : B0 ≤ g ∧ g < B1
  ob : ∀ q ∈ ows X, B0 ≤ q ∧ q < B1 ∧ q ≠ g
theorem Spo.start {w wX : World} {B0 g N cap : Nat} {X : List Bx} (h : Bls w B0 (.slice (some ⟨g, 0, none⟩) N cap) X) (k : Keeps (fun _ => False) w wX) (hN : N = X.length) (h0 : 0 < X.length) : Spo wX wX B0 w.heap.size g X 0 := by
  subst hN
  obtain ⟨g2, cap', cur, h1, h2, h3, h4⟩ := h.own.at h0
  simp only [Value.slice.injEq, Option.some.injEq, Addr.mk.injEq, and_true] at h1
  obtain ⟨rfl, -⟩ := h1
  have hb := (k.block g (lt_of_block h3) (fun f => f)).trans h3
  refine ⟨Keeps.refl _ _, ⟨cur, hb, h4, fun j hj _ => ?_⟩, fun x hx => ⟨rt_of ((h.rws.rd x hx).keeps k (fun _ _ f => f)), rt_of ((h.rws.wt x hx).keeps k (fun _ _ f => f))⟩, own_block h.own.own rfl |>.symm, fun q hq => ?_⟩
  · obtain ⟨g', off', hgo, q⟩ := (h.own.els cb_len).at j hj
    simp only [Option.some.injEq, Addr.mk.injEq, and_true] at hgo
    obtain ⟨rfl, rfl⟩ := hgo
    have c7 := q 7 _ rfl
    have c8 := q 8 _ rfl
    rw [cell_of_block h3] at c7 c8
    exact ⟨by simpa using c7, by simpa using c8⟩
  · have := h.rws.young hq
    exact ⟨this.2, this.1, fun e => h.ap g rfl (e ▸ hq)⟩
theorem Spo.startB {w : World} {B0 B1 g N cap : Nat} {X : List Bx} (h : Bls w B0 (.slice (some ⟨g, 0, none⟩) N cap) X) (hb : ∀ q, ((Value.slice (some ⟨g, 0, none⟩) N cap).ownBlock = some q ∨ q ∈ ows X) → q < B1) (hN : N = X.length) (h0 : 0 < X.length) : Spo w w B0 B1 g X 0 := by
  have s := Spo.start h (Keeps.refl _ _) hN h0
  exact ⟨Keeps.refl _ _, s.main, s.rows, ⟨s.gb.1, hb g (.inl rfl)⟩, fun q hq => ⟨(s.ob q hq).1, hb q (.inr hq), (s.ob q hq).2.2⟩⟩
theorem Spo.row {wX wr : World} {B0 B1 g i : Nat} {X : List Bx} (h : Spo wX wr B0 B1 g X i) {q : Nat} (hq : q ∈ ows X) (o : Nat) (vs : List Value) : Spo wX (wr.setCells q o vs) B0 B1 g X i := by
  obtain ⟨b0, b1, hne⟩ := h.ob q hq
  obtain ⟨cur, m1, m2, m3⟩ := h.main
  have k : Keeps (fun x => x = q) wr (wr.setCells q o vs) := keeps_cells (S := fun x => x = q) (.inr rfl) vs o wr (Keeps.refl _ _)
  refine ⟨h.kp.trans (k.mono fun x _ e => by omega), ⟨cur, (k.block g (lt_of_block m1) (fun e => hne e.symm)).trans m1, m2, m3⟩, fun x hx => ⟨(h.rows x hx).1.cells q o vs, (h.rows x hx).2.cells q o vs⟩, h.gb, h.ob⟩
theorem Spo.elem {wX wr : World} {B0 B1 g i : Nat} {X : List Bx} (h : Spo wX wr B0 B1 g X i) (vs : List Value) (hv : vs.length = 9) : Spo wX (wr.setCells g (i * 9) vs) B0 B1 g X (i + 1) := by
  obtain ⟨cur, m1, m2, m3⟩ := h.main
  have k : Keeps (fun x => x = g) wr (wr.setCells g (i * 9) vs) := keeps_cells (S := fun x => x = g) (.inr rfl) vs _ wr (Keeps.refl _ _)
  obtain ⟨c2, n1, n2, n3⟩ := far_cells vs (i * 9) wr cur m1
  have hg := h.gb
  refine ⟨h.kp.trans (k.mono fun x _ e => by omega), ⟨c2, n1, by omega, fun j hj hij => ?_⟩, fun x hx => ⟨(h.rows x hx).1.cells g _ vs, (h.rows x hx).2.cells g _ vs⟩, h.gb, h.ob⟩
  rw [n3 _ (by omega), n3 _ (by omega)]
  exact m3 j hj (by omega)
theorem wpList_store_run {P : Program} {ops : Array Oper} {rest : List Oper} {op : Oper} {a : Act} {w w' : World} {Q : Exit → Act → World → Prop} (hgd : op.guard = none) (ty : TypeId) (x y : Operand) (ho : op.op = .store ty x y) {p v : Value} (hx : a.eval x = p) (hy : a.eval y = v)
    (hr : (Instr.storeAt ty p v).run P w = .ok () w') (h : wpList P ops Q rest (a.put op.dst undef) w') : wpList P ops Q (op :: rest) a w :=
  wpList_plain hgd fun _ hK => by
    unfold Oper.wp execOp
    simp only [ho, hx, hy, hr, Sem.run_bind, Result.andThen_ok]
    exact hK _ _ h
end Go.Proofs.YtjkileijkgbndaaDoor
