/-
  No statement of the seat is proved here. (Several texts in one: OrH.)
-/
import Derived.Test.YthmiainhaebjiaaGreatDoorM26OrG
import Derived.Test.YthmiainhaebjiaaGreatDoorM23OpS

/- Never of the program (layer 16). No statement of the seat is proved here. -/
namespace Go.Proofs.YthmiainhaebjiaaGreatDoor
open Go.RowKit Go.Shelf

theorem cr_at {l : List (Int × Int)} (hu : l.Pairwise (fun p q => p.1 < q.1)) (hle : ∀ p ∈ l, 0 ≤ p.1) : ∀ i (hi : i < l.length), (i : Int) ≤ (l[i]).1
  | 0, hi => by have := hle _ (List.getElem_mem hi); simpa using this
  | i + 1, hi => by
    have ih := cr_at hu hle i (by omega)
    have := List.pairwise_iff_getElem.1 hu i (i + 1) (by omega) hi (by omega)
    omega
theorem sinv_len {F : List Int} {S : Crs2} {n : Nat} {A : Int → List Int} (h : SInv F S n A) (hn : n ≤ 1050000) : ∀ a l, S a = some l → l.length ≤ 1050001 := fun a l e => by
  obtain ⟨h0, h1⟩ := h.dom a (by rw [e]; rfl)
  have hc := h.cr a h0 h1
  have e2 : crs F S a = l := by unfold crs; rw [e]; rfl
  rw [e2] at hc
  have hpos := hc.ne
  have h3 := cr_at hc.up (fun p hp => (hc.le p hp).1) (l.length - 1) (by omega)
  have h4 := (hc.le _ (List.getElem_mem (show l.length - 1 < l.length by omega))).2
  omega
/-- Words that were read, and stood there at no time: how they are found. -/
structure NevOf (F : List Int) (W : List Pt) (P : List Pt) (N Ys : List (Int × Int)) : Prop where
  st : ∀ p : Int × Int, p ∈ N ↔ ∃ l, setN F W W.length p.1 = some l ∧ ∃ n, (n, p.2) ∈ l
  pm : Ys.Perm ((P.flatMap fun p => p.rs).filter (nevB N F))
  up : Ys.Pairwise (fun p q => p.1 < q.1 ∨ p.1 = q.1 ∧ p.2 ≤ q.2)
set_option maxRecDepth 100000 in
set_option maxHeartbeats 8000000 in
theorem never_ok (va : Option Addr) (vc : Nat) (F : List Int) (v : Value) (L : List Ev) (hl : L.length ≤ 1050000) (w : World) (hv : EvsAt w v L) (hF : WsAt w (.slice va F.length vc) F) (hg : Gv w) (h8 : 2 ≤ w.heap.size) (hF0 : 0 < F.length) (hF1 : F.length ≤ 65536) (hz : (checkL L).2 = 0) (hp : idxF plainE L 0 = -1) (hm : idxF (missE F.length) L 0 = -1) (W : List Pt) (hW : WrOf (partsL L) W) :
    Calls Tryz.prog 10 #[.slice va F.length vc, v] w fun ex w' => ∃ (sv : Value) (N Ys : List (Int × Int)), ex = .returned (.tuple #[sv, .agg (odV (-1) 0)]) ∧ NevOf F W (partsL L) N Ys ∧ OwnR clC 2 28 w' w.heap.size sv (ddP Ys Ys.length) ∧ Keeps (fun _ => False) w w' := by
  have k0 := (Keeps.refl (fun _ => False) w).alloc (.cells (odV 0 0) 31)
  have b0 : (w.alloc (.cells (odV 0 0) 31)).heap[w.heap.size]? = some (.cells (odV 0 0) 31 (0, 0)) := (MapKept.heap_alloc w _).1
  have LK := look_ok va vc F v L hl (w.alloc (.cells (odV 0 0) 31)) (hv.keeps k0) (hF.keeps wC_ne k0) (hg.keeps k0) (by simp; omega) hF0 hF1 hz hp hm
  obtain ⟨a1, cap1, rfl, hcap⟩ := hv.els.shape
  unfold odV at k0 b0 LK
  clear hv hF hg
  go_enter Tryz.func10, Tryz.ntmps10
  go_wp2_with fail
  refine LK.mono ?_
  rintro ex w1 ⟨pb, mb, b2, vT, vB, vW, X, Y, f, rfl, hPa, hX, hu, k1⟩
  clear LK
  have hYW := pua_wr hu hX hW
  have kA := (Keeps.refl (fun _ => False) w1).alloc (.cells #[.int .i64 (-1), .int .i64 0] 31)
  have bA := (MapKept.heap_alloc w1 (.cells #[.int .i64 (-1), .int .i64 0] 31)).1
  have bO := ((k1.trans kA).block _ (lt_of_block b0) (fun f => f)).trans b0
  have K1 := (k0.trans k1).trans kA
  have hPA := hPa.keeps kA
  have hlt := lt_of_block ((k1.block _ (lt_of_block b0) (fun f => f)).trans b0)
  unfold odV
  go_wp2_with fail
  obtain ⟨ob7, hob⟩ : ∃ b, b = w1.heap.size := ⟨_, rfl⟩
  rw [← hob] at bA ⊢
  rw [← hob] at hlt
  generalize w1.alloc (.cells #[.int .i64 (-1), .int .i64 0] 31) = A at *
  clear hob kA k0 k1 b0 hPa
  have hln := sinv_len (hPA.pa hu).si (by have := (hPA.pa hu).wl; omega)
  have hYl := (hPA.pa hu).wl
  rw [List.length_map] at hln hYl
  have SG := never_any pb mb b2 (.slice va F.length vc) vT vB vW F (triesL L) X Y f (fun a l e => by have := hln a l e; omega) A.drew (hPA.keeps (Keeps.refl _ A).drew) hu
  have S0 : Keeps (fun q => q = w.heap.size) A (A.drew) ∧ (A.drew).cell? ⟨ob7, 0, none⟩ = some (.int .i64 (-1)) ∧ (A.drew).cell? ⟨ob7, 1, none⟩ = some (.int .i64 0) := ⟨(Keeps.refl _ A).drew, by rw [cell_of_block (w := A.drew) bA]; rfl, by rw [cell_of_block (w := A.drew) bA]; rfl⟩
  refine wp_held_end (S := fun W => Keeps (fun q => q = w.heap.size) A W ∧ W.cell? ⟨ob7, 0, none⟩ = some (.int .i64 (-1)) ∧ W.cell? ⟨ob7, 1, none⟩ = some (.int .i64 0)) 5 rfl hmxp ?_
  simp only [Array.replicate_succ, Array.replicate_zero, List.push_toArray, List.nil_append, List.cons_append]
  refine held_take (i := 0) (v := (.pointer (some ⟨pb, 0, none⟩))) 18 rfl rfl (by kernel_rfl) (by kernel_rfl) (by kernel_rfl) rfl (fun w' hw' => by obtain ⟨q0, q1, q2⟩ := hw'; go_simp) S0 ?_
  simp only [Act.put, List.setIfInBounds_toArray, List.set_cons_zero, List.set_cons_succ]
  refine held_take (i := 2) (v := (.agg #[.int .i64 (-1), .int .i64 0])) 20 rfl rfl (by kernel_rfl) (by kernel_rfl) (by kernel_rfl) rfl (fun w' hw' => by obtain ⟨q0, q1, q2⟩ := hw'; go_simp) S0 ?_
  simp only [Act.put, List.setIfInBounds_toArray, List.set_cons_zero, List.set_cons_succ]
  refine held_call (i := 1) (f := 31) (args := #[.pointer (some ⟨pb, 0, none⟩)]) 19 (by kernel_rfl) rfl rfl rfl (by go_simp) (SG.mono ?_)
  rintro ex w2 ⟨sv, N, Ys, rfl, n1, n2, n3, hsv, k2⟩
  have hNv : NevOf F W (partsL L) N Ys := by
    refine ⟨?_, ?_, n3⟩
    · have e1 : Y.length = W.length := by rw [← hYW, List.length_map]
      rw [hYW, e1] at n1
      exact n1
    · unfold nevL at n2
      rw [← hX, List.flatMap_map]
      exact n2
  clear n1 n2 n3 hln hYl
  have S1 : Keeps (fun q => q = w.heap.size) A (w2) ∧ (w2).cell? ⟨ob7, 0, none⟩ = some (.int .i64 (-1)) ∧ (w2).cell? ⟨ob7, 1, none⟩ = some (.int .i64 0) := ⟨S0.1.trans (k2.mono fun _ _ f => f.elim), k2.cellB (fun f => f) S0.2.1, k2.cellB (fun f => f) S0.2.2⟩
  refine ⟨_, rfl, S1, ?_⟩
  simp only [Act.put, List.setIfInBounds_toArray, List.set_cons_zero, List.set_cons_succ]
  refine held_take (i := 3) (v := sv) 4 rfl rfl (by kernel_rfl) (by kernel_rfl) (by kernel_rfl) rfl (fun w' hw' => by obtain ⟨q0, q1, q2⟩ := hw'; go_simp) S1 ?_
  simp only [Act.put, List.setIfInBounds_toArray, List.set_cons_zero, List.set_cons_succ]
  have hlA : w.heap.size < A.drew.heap.size := lt_of_block bO
  have S3 : Keeps (fun _ => False) A w2 := (Keeps.refl (fun _ => False) A).drew.trans k2
  have bO3 := (S3.block _ (lt_of_block bO) (fun f => f)).trans bO
  have c0 : w2.cell? ⟨w.heap.size, 0, none⟩ = some (.int .i64 0) := by rw [cell_of_block bO3]; rfl
  have c1 : w2.cell? ⟨w.heap.size, 1, none⟩ = some (.int .i64 0) := by rw [cell_of_block bO3]; rfl
  have f0 : w2.frozen? ⟨w.heap.size, 0, none⟩ = false := frozen_of_block bO3 _
  have f1 : w2.frozen? ⟨w.heap.size, 1, none⟩ = false := frozen_of_block bO3 _
  have BE := block_set (block_set bO3 0 (.int .i64 (-1))) 1 (.int .i64 0)
  have hne : ¬ w.heap.size = ob7 := by omega
  have kE := ((Keeps.refl (fun q => q = w.heap.size) w2).setCell (p := ⟨w.heap.size, 0, none⟩) (.inr rfl) (.int .i64 (-1))).setCell (p := ⟨w.heap.size, 1, none⟩) (.inr rfl) (.int .i64 0)
  have hob7 : ob7 ≠ w.heap.size := by omega
  have KF : Keeps (fun _ => False) w ((w2.setCell ⟨w.heap.size, 0, none⟩ (.int .i64 (-1))).setCell ⟨w.heap.size, 1, none⟩ (.int .i64 0)) := (K1.trans S3).young kE (fun q e => by omega)
  have S4 : Keeps (fun q => q = w.heap.size) A ((w2.setCell ⟨w.heap.size, 0, none⟩ (.int .i64 (-1))).setCell ⟨w.heap.size, 1, none⟩ (.int .i64 0)) ∧ ((w2.setCell ⟨w.heap.size, 0, none⟩ (.int .i64 (-1))).setCell ⟨w.heap.size, 1, none⟩ (.int .i64 0)).cell? ⟨ob7, 0, none⟩ = some (.int .i64 (-1)) ∧ ((w2.setCell ⟨w.heap.size, 0, none⟩ (.int .i64 (-1))).setCell ⟨w.heap.size, 1, none⟩ (.int .i64 0)).cell? ⟨ob7, 1, none⟩ = some (.int .i64 0) := ⟨S1.1.trans kE, cell_keep kE S1.2.1 hob7, cell_keep kE S1.2.2 hob7⟩
  refine held_none (i := 4) (w' := (w2.setCell ⟨w.heap.size, 0, none⟩ (.int .i64 (-1))).setCell ⟨w.heap.size, 1, none⟩ (.int .i64 0)) (by kernel_rfl) rfl rfl rfl (by go_simp) S4 ?_
  refine held_end (by kernel_rfl) ?_ _
  clear S0 S1 S3 S4 c0 c1 f0 f1 k2
  go_wp2_with fail
  refine bodyPost_ret (odd_ret2 rfl _ _ w.heap.size #[.int .i64 (-1), .int .i64 0] BE rfl rfl) rfl ?_
  exact ⟨sv, N, Ys, rfl, hNv, (hsv.lowE (Nat.le_of_lt hlA)).keeps kE (fun g hg e => absurd hlA (Nat.not_lt.mpr (e ▸ (own_block hsv.own hg).2))), KF⟩

/-- A course's word at a number is one of its words. -/
theorem valF_mem : ∀ (l : List (Int × Int)) (n d : Int), valF l n d = d ∨ ∃ m, (m, valF l n d) ∈ l
  | [], n, d => .inl rfl
  | p :: l, n, d => by
    have e : valF (p :: l) n d = valF l n (if p.1 ≤ n then p.2 else d) := rfl
    rw [e]
    rcases valF_mem l n (if p.1 ≤ n then p.2 else d) with h | ⟨m, h⟩
    · by_cases hp : p.1 ≤ n
      · rw [if_pos hp] at h ⊢
        exact .inr ⟨p.1, by rw [h]; exact List.mem_cons_self⟩
      · rw [if_neg hp] at h ⊢
        exact .inl h
    · exact .inr ⟨m, List.mem_cons_of_mem _ h⟩
theorem valF_first {l : List (Int × Int)} (hne : 0 < l.length) (hz : (l[0]).1 = 0) (n d : Int) (hn : 0 ≤ n) : ∃ m, (m, valF l n d) ∈ l := by
  cases l with
  | nil => simp at hne
  | cons p l =>
    have e : valF (p :: l) n d = valF l n (if p.1 ≤ n then p.2 else d) := rfl
    have hp : p.1 ≤ n := by simp at hz; omega
    rw [e, if_pos hp]
    rcases valF_mem l n p.2 with h | ⟨m, h⟩
    · exact ⟨p.1, by rw [h]; exact List.mem_cons_self⟩
    · exact ⟨m, List.mem_cons_of_mem _ h⟩
/-- What is among them stood there behind no number of commits. -/
theorem nev_stood {F : List Int} {W : List Pt} {P : List Pt} {N Ys : List (Int × Int)} (h : NevOf F W P N Ys) (hS : SInv F (setN F W W.length) W.length (fun m => stN F W (min m.toNat W.length))) (hin : ∀ p ∈ P, ∀ r ∈ p.rs, 0 ≤ r.1 ∧ r.1 < (F.length : Int)) {r : Int × Int} (hr : r ∈ Ys) : (∃ p ∈ P, r ∈ p.rs) ∧ ∀ m, m ≤ W.length → wdAt (stN F W m) r.1 ≠ r.2 := by
  have h1 := h.pm.mem_iff.1 hr
  rw [List.mem_filter, List.mem_flatMap] at h1
  obtain ⟨⟨p, hp, hrp⟩, h2⟩ := h1
  refine ⟨⟨p, hp, hrp⟩, fun m hm e => ?_⟩
  obtain ⟨h0, h3⟩ := hin p hp r hrp
  unfold nevB at h2
  rw [Bool.and_eq_true, Bool.not_eq_true', decide_eq_false_iff_not, decide_eq_true_eq] at h2
  have hv := hS.val r.1 h0 h3 (m : Int) (by omega)
  rw [Int.toNat_natCast, Nat.min_eq_left hm, e] at hv
  cases hs : setN F W W.length r.1 with
  | none =>
    have hc : crs F (setN F W W.length) r.1 = [(0, wdAt F r.1)] := by unfold crs; rw [hs]; rfl
    rw [hc] at hv
    have : valF [(0, wdAt F r.1)] (m : Int) 0 = wdAt F r.1 := by
      have e9 : valF [(0, wdAt F r.1)] (m : Int) 0 = if (0 : Int) ≤ (m : Int) then wdAt F r.1 else 0 := rfl
      rw [e9, if_pos (by omega)]
    rw [this] at hv
    exact h2.2 hv.symm
  | some l =>
    have hc : crs F (setN F W W.length) r.1 = l := by unfold crs; rw [hs]; rfl
    have hcr := hS.cr r.1 h0 h3
    rw [hc] at hv hcr
    obtain ⟨k, hk⟩ := valF_first hcr.ne hcr.z (m : Int) 0 (by omega)
    rw [hv] at hk
    exact h2.1 ((h.st r).2 ⟨l, hs, k, hk⟩)
end Go.Proofs.YthmiainhaebjiaaGreatDoor
