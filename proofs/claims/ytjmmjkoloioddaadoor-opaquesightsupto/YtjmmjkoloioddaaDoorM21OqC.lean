/-
  No statement of the seat is proved here. (Several texts in one: OqC, OqB.)
-/
import Derived.Test.YtjmmjkoloioddaaDoorM20OqA

/- A walk of the document's Reads (layer 16). No statement of the seat is proved here. -/
namespace Go.Proofs.YtjmmjkoloioddaaDoor
open Go.RowKit Go.Shelf

/-- What is read from a place up to another. -/
def rdsU (L : List Ev) (th : Int) (a k : Nat) : List (Int × Int) := ((L.drop a).take (k - a)).filterMap (rdE th)
theorem rdsU_succ {L : List Ev} {th : Int} {a k : Nat} (h : a ≤ k) (hk : k < L.length) : rdsU L th a (k + 1) = rdsU L th a k ++ (rdE th (L[k])).toList := by
  unfold rdsU
  rw [show k + 1 - a = (k - a) + 1 by omega, List.take_add_one, List.getElem?_drop, show a + (k - a) = k by omega, List.getElem?_eq_getElem hk, List.filterMap_append]
  congr 1
theorem rdsU_len (L : List Ev) (th : Int) (a k : Nat) : (rdsU L th a k).length ≤ k := by
  unfold rdsU
  refine Nat.le_trans (List.length_filterMap_le _ _) ?_
  rw [List.length_take]; omega
theorem rdsU_seg (L : List Ev) (th : Int) (a b : Nat) : rdsU L th a (b + 1) = (seg L a b).filterMap (rdE th) := by
  unfold rdsU seg
  rw [Int.toNat_natCast, show ((b : Int) + 1 - a).toNat = b + 1 - a by omega]
set_option maxRecDepth 100000 in
set_option maxHeartbeats 8000000 in
theorem rreads_any (v : Value) (L : List Ev) (hL : L.length ≤ 1100000) (th sn how rd wn : Int) (a b : Nat) (hab : a ≤ b) (hbL : b < L.length) (w : World) (hv : ElsAt Ev.cl 6 w v L) : Calls Tryd.prog 20 #[v, .agg #[.int .i64 th, .int .i64 (a : Int), .int .i64 (b : Int), .int .u64 sn, .int .i64 how, .int .i64 rd, .int .i64 wn]] w fun ex w' => ∃ u, ex = .returned u ∧ CR w' w.heap.size u ((seg L a b).filterMap (rdE th)) ∧ Keeps (fun _ => False) w w' := by
  have HV : Hid (∀ X, Keeps (fun _ => False) w X → ElsAt Ev.cl 6 X v L) := fun X q => hv.keeps ev_ne q
  obtain ⟨aa, ac, rfl, hac⟩ := hv.shape
  have k0 := (Keeps.refl (fun _ => False) w).alloc (.cells #[.int .i64 th, .int .i64 (a : Int), .int .i64 (b : Int), .int .u64 sn, .int .i64 how, .int .i64 rd, .int .i64 wn] 38)
  have b0 := (MapKept.heap_alloc w (.cells #[.int .i64 th, .int .i64 (a : Int), .int .i64 (b : Int), .int .u64 sn, .int .i64 how, .int .i64 rd, .int .i64 wn] 38)).1
  have hs0 : (w.alloc (.cells #[.int .i64 th, .int .i64 (a : Int), .int .i64 (b : Int), .int .u64 sn, .int .i64 how, .int .i64 rd, .int .i64 wn] 38)).heap.size = w.heap.size + 1 := by simp
  have O0 : CR (w.alloc (.cells #[.int .i64 th, .int .i64 (a : Int), .int .i64 (b : Int), .int .u64 sn, .int .i64 how, .int .i64 rd, .int .i64 wn] 38)) (w.heap.size + 1) (.slice none 0 0) (rdsU L th a a) := by
    have : rdsU L th a a = [] := by unfold rdsU; rw [Nat.sub_self]; rfl
    rw [this]; exact OwnR.nilB clC 2 88 _ _ (by omega)
  rw [← rdsU_seg]
  have HB0 : Hid (_ = _) := b0
  clear hv b0 hs0
  go_enter Tryd.func20, Tryd.ntmps20
  go_wp2_with fail
  go_loopw [5, 6] (fun u5 u wr => ∃ (k : Nat), u = .int .i64 k ∧ a ≤ k ∧ k ≤ b + 1 ∧ Hid (CR wr (w.heap.size + 1) u5 (rdsU L th a k)) ∧ Hid (wr.heap[w.heap.size]? = some (.cells #[.int .i64 th, .int .i64 (a : Int), .int .i64 (b : Int), .int .u64 sn, .int .i64 how, .int .i64 rd, .int .i64 wn] 38 (0, 0))) ∧ Keeps (fun _ => False) w wr) (fun _ u _ => b + 1 - (intOf u).toNat)
  case atStart => exact ⟨a, rfl, Nat.le_refl _, by omega, O0, HB0, k0⟩
  case round =>
    clear O0 HB0 k0
    obtain ⟨k, rfl, hka, hk, hO, hB, kr⟩ := hrel
    have c0 : wr.cell? ⟨w.heap.size, 0, none⟩ = some (.int .i64 th) := by rw [cell_of_block hB.out]; rfl
    have c2 : wr.cell? ⟨w.heap.size, 2, none⟩ = some (.int .i64 (b : Int)) := by rw [cell_of_block hB.out]; rfl
    have hbl : w.heap.size < wr.heap.size := lt_of_block hB.out
    by_cases hlt : k ≤ b
    · have hkb : (k : Int) ≤ b := by omega
      have hkl : k < L.length := by omega
      have hki : (k : Int) < L.length := by omega
      have hk0 : (0 : Int) ≤ k := by omega
      obtain ⟨g, off, rfl, hc⟩ := (HV.out wr kr).at k hkl
      have hsu := rdsU_succ (th := th) hka hkl
      have hln := rdsU_len L th a k
      have HX : Hid (∀ X, Keeps (fun _ => False) w X → X.cell? ⟨w.heap.size, 0, none⟩ = some (.int .i64 th) → X.cell? ⟨g, off + k * 6, none⟩ = some (.int .i64 (L[k]'hkl).th) ∧ X.cell? ⟨g, off + k * 6 + 1, none⟩ = some (.int .i64 (L[k]'hkl).kd) ∧ X.cell? ⟨g, off + k * 6 + 2, none⟩ = some (.int .u64 (L[k]'hkl).ad) ∧ X.cell? ⟨g, off + k * 6 + 3, none⟩ = some (.int .u64 (L[k]'hkl).wd) ∧ X.cell? ⟨g, off + k * 6 + 4, none⟩ = some (.bool (L[k]'hkl).own) ∧ X.cell? ⟨w.heap.size, 0, none⟩ = some (.int .i64 th)) := fun X q c => by
        obtain ⟨g', off', e', hc'⟩ := (HV.out X q).at k hkl
        injection e' with e'
        injection e' with e1 e2
        subst e1 e2
        exact ⟨hc' 0 _ rfl, hc' 1 _ rfl, hc' 2 _ rfl, hc' 3 _ rfl, hc' 4 _ rfl, c⟩
      generalize L[k]'hkl = e at *
      obtain ⟨eth, ekd, ead, ewd, eow, eer⟩ := e
      have x0 := hc 0 _ rfl
      have x1 := hc 1 _ rfl
      have x2 := hc 2 _ rfl
      have x3 := hc 3 _ rfl
      have x4 := hc 4 _ rfl
      dsimp only at x0 x1 x2 x3 x4
      simp only [Nat.add_zero] at x0
      unfold rdE at hsu
      dsimp only at hsu
      clear hc
      by_cases hth : eth = th
      · subst hth
        by_cases hkd : ekd = 2
        · subst hkd
          cases eow
          · have htk : rdsU L eth a (k + 1) = rdsU L eth a k ++ [(ead, ewd)] := by rw [hsu, if_pos ⟨rfl, rfl, rfl⟩]; rfl
            have hD := hO.out.keeps (((Keeps.refl (fun _ => False) wr).drew).drew) (fun _ _ f => f)
            obtain ⟨v', w3, r1, r2, r3⟩ := hD.push (P := Tryd.prog) cl_len cl_one (by decide) Tryd.underlying59 info_cl rfl (by decide) (ty := 59) (ead, ewd) (cs := #[.int .u64 ead, .int .u64 ewd]) rfl (by omega)
            rw [← htk] at r2
            have hown : ∀ q, u5.ownBlock = some q → w.heap.size + 1 ≤ q := fun q hq => (own_block hO.out.own hq).2
            have K3 : Keeps (fun q => w.heap.size + 1 ≤ q) wr.drew.drew w3 := r3.keeps.mono (fun q _ hq => hown q hq)
            have KR3 : Keeps (fun _ => False) w w3 := (kr.drew.drew).young K3 (fun q hq => by omega)
            have HB3 : Hid (w3.heap[w.heap.size]? = some (.cells #[.int .i64 eth, .int .i64 (a : Int), .int .i64 (b : Int), .int .u64 sn, .int .i64 how, .int .i64 rd, .int .i64 wn] 38 (0, 0))) := (K3.block _ hbl (by omega)).trans hB.out
            have HO : Hid (CR w3 (w.heap.size + 1) v' (rdsU L eth a (k + 1))) := r2
            have HVx : Hid (∀ X, Keeps (fun _ => False) w X → X.heap[w.heap.size]? = some (.cells #[.int .i64 eth, .int .i64 (a : Int), .int .i64 (b : Int), .int .u64 sn, .int .i64 how, .int .i64 rd, .int .i64 wn] 38 (0, 0)) → X.cell? ⟨g, off + k * 6, none⟩ = some (.int .i64 eth) ∧ X.cell? ⟨g, off + k * 6 + 1, none⟩ = some (.int .i64 2) ∧ X.cell? ⟨g, off + k * 6 + 2, none⟩ = some (.int .u64 ead) ∧ X.cell? ⟨g, off + k * 6 + 3, none⟩ = some (.int .u64 ewd) ∧ X.cell? ⟨g, off + k * 6 + 4, none⟩ = some (.bool false) ∧ X.cell? ⟨w.heap.size, 0, none⟩ = some (.int .i64 eth)) := fun X q hb => by
              have c := hb
              exact HX.out X q (by rw [cell_of_block c]; rfl)
            have kA := (Keeps.refl (fun _ => False) wr.drew.drew).alloc (.cells #[.int .u64 ead, .int .u64 ewd] 88)
            have S7 : (wr.drew.drew.alloc (.cells #[.int .u64 ead, .int .u64 ewd] 88)).cell? ⟨g, off + k * 6, none⟩ = some (.int .i64 eth) ∧ (wr.drew.drew.alloc (.cells #[.int .u64 ead, .int .u64 ewd] 88)).cell? ⟨g, off + k * 6 + 1, none⟩ = some (.int .i64 2) ∧ (wr.drew.drew.alloc (.cells #[.int .u64 ead, .int .u64 ewd] 88)).cell? ⟨g, off + k * 6 + 2, none⟩ = some (.int .u64 ead) ∧ (wr.drew.drew.alloc (.cells #[.int .u64 ead, .int .u64 ewd] 88)).cell? ⟨g, off + k * 6 + 3, none⟩ = some (.int .u64 ewd) ∧ (wr.drew.drew.alloc (.cells #[.int .u64 ead, .int .u64 ewd] 88)).cell? ⟨g, off + k * 6 + 4, none⟩ = some (.bool false) ∧ (wr.drew.drew.alloc (.cells #[.int .u64 ead, .int .u64 ewd] 88)).cell? ⟨w.heap.size, 0, none⟩ = some (.int .i64 eth) := HVx.out _ ((kr.drew.drew).trans kA) ((kA.block _ hbl (fun f => f)).trans hB.out)
            have S8 : w3.cell? ⟨g, off + k * 6, none⟩ = some (.int .i64 eth) ∧ w3.cell? ⟨g, off + k * 6 + 1, none⟩ = some (.int .i64 2) ∧ w3.cell? ⟨g, off + k * 6 + 2, none⟩ = some (.int .u64 ead) ∧ w3.cell? ⟨g, off + k * 6 + 3, none⟩ = some (.int .u64 ewd) ∧ w3.cell? ⟨g, off + k * 6 + 4, none⟩ = some (.bool false) ∧ w3.cell? ⟨w.heap.size, 0, none⟩ = some (.int .i64 eth) := HVx.out _ KR3 HB3.out
            have S0 : wr.drew.cell? ⟨g, off + k * 6, none⟩ = some (.int .i64 eth) ∧ wr.drew.cell? ⟨g, off + k * 6 + 1, none⟩ = some (.int .i64 2) ∧ wr.drew.cell? ⟨g, off + k * 6 + 2, none⟩ = some (.int .u64 ead) ∧ wr.drew.cell? ⟨g, off + k * 6 + 3, none⟩ = some (.int .u64 ewd) ∧ wr.drew.cell? ⟨g, off + k * 6 + 4, none⟩ = some (.bool false) ∧ wr.drew.cell? ⟨w.heap.size, 0, none⟩ = some (.int .i64 eth) := ⟨x0, x1, x2, x3, x4, c0⟩
            have S6 : wr.drew.drew.cell? ⟨g, off + k * 6, none⟩ = some (.int .i64 eth) ∧ wr.drew.drew.cell? ⟨g, off + k * 6 + 1, none⟩ = some (.int .i64 2) ∧ wr.drew.drew.cell? ⟨g, off + k * 6 + 2, none⟩ = some (.int .u64 ead) ∧ wr.drew.drew.cell? ⟨g, off + k * 6 + 3, none⟩ = some (.int .u64 ewd) ∧ wr.drew.drew.cell? ⟨g, off + k * 6 + 4, none⟩ = some (.bool false) ∧ wr.drew.drew.cell? ⟨w.heap.size, 0, none⟩ = some (.int .i64 eth) := ⟨x0, x1, x2, x3, x4, c0⟩
            obtain ⟨ub, uc, rfl⟩ := hO.out.form
            obtain ⟨⟨ya, yn, yc⟩, rfl, -⟩ := sl_of r2
            have HA : Hid (_ = _) := r1
            clear hsu hO htk hD r1 r2 r3 hown K3 HVx kA
            go_wp2_with fail
            refine wp_held_end (S := fun W : World => W.cell? ⟨g, off + k * 6, none⟩ = some (.int .i64 eth) ∧ W.cell? ⟨g, off + k * 6 + 1, none⟩ = some (.int .i64 2) ∧ W.cell? ⟨g, off + k * 6 + 2, none⟩ = some (.int .u64 ead) ∧ W.cell? ⟨g, off + k * 6 + 3, none⟩ = some (.int .u64 ewd) ∧ W.cell? ⟨g, off + k * 6 + 4, none⟩ = some (.bool false) ∧ W.cell? ⟨w.heap.size, 0, none⟩ = some (.int .i64 eth)) 24 rfl hmxp ?_
            simp only [Array.replicate_succ, Array.replicate_zero, List.push_toArray, List.nil_append, List.cons_append]
            refine held_take (i := 0) (v := (.slice (some ⟨g, off, none⟩) L.length ac)) 15 rfl rfl (by kernel_rfl) (by kernel_rfl) (by kernel_rfl) rfl (fun w' hw' => by obtain ⟨q0, q1, q2, q3, q4, q5⟩ := hw'; go_simp) S0 ?_
            simp only [Act.put, List.setIfInBounds_toArray, List.set_cons_zero, List.set_cons_succ]
            refine held_take (i := 1) (v := (.int .i64 (k : Int))) 16 rfl rfl (by kernel_rfl) (by kernel_rfl) (by kernel_rfl) rfl (fun w' hw' => by obtain ⟨q0, q1, q2, q3, q4, q5⟩ := hw'; go_simp) S0 ?_
            simp only [Act.put, List.setIfInBounds_toArray, List.set_cons_zero, List.set_cons_succ]
            refine held_take (i := 2) (v := (.pointer (some ⟨g, off + k * 6, none⟩))) 17 rfl rfl (by kernel_rfl) (by kernel_rfl) (by kernel_rfl) rfl (fun w' hw' => by obtain ⟨q0, q1, q2, q3, q4, q5⟩ := hw'; go_simp) S0 ?_
            simp only [Act.put, List.setIfInBounds_toArray, List.set_cons_zero, List.set_cons_succ]
            refine held_take (i := 3) (v := (.pointer (some ⟨g, off + k * 6, none⟩))) 18 rfl rfl (by kernel_rfl) (by kernel_rfl) (by kernel_rfl) rfl (fun w' hw' => by obtain ⟨q0, q1, q2, q3, q4, q5⟩ := hw'; go_simp) S0 ?_
            simp only [Act.put, List.setIfInBounds_toArray, List.set_cons_zero, List.set_cons_succ]
            refine held_take (i := 4) (v := (.int .i64 eth)) 19 rfl rfl (by kernel_rfl) (by kernel_rfl) (by kernel_rfl) rfl (fun w' hw' => by obtain ⟨q0, q1, q2, q3, q4, q5⟩ := hw'; go_simp) S0 ?_
            simp only [Act.put, List.setIfInBounds_toArray, List.set_cons_zero, List.set_cons_succ]
            refine held_take (i := 5) (v := (.pointer (some ⟨w.heap.size, 0, none⟩))) 20 rfl rfl (by kernel_rfl) (by kernel_rfl) (by kernel_rfl) rfl (fun w' hw' => by obtain ⟨q0, q1, q2, q3, q4, q5⟩ := hw'; go_simp) S0 ?_
            simp only [Act.put, List.setIfInBounds_toArray, List.set_cons_zero, List.set_cons_succ]
            refine held_take (i := 6) (v := (.int .i64 eth)) 21 rfl rfl (by kernel_rfl) (by kernel_rfl) (by kernel_rfl) rfl (fun w' hw' => by obtain ⟨q0, q1, q2, q3, q4, q5⟩ := hw'; go_simp) S0 ?_
            simp only [Act.put, List.setIfInBounds_toArray, List.set_cons_zero, List.set_cons_succ]
            refine held_take (i := 7) (v := (.bool true)) 22 rfl rfl (by kernel_rfl) (by kernel_rfl) (by kernel_rfl) rfl (fun w' hw' => by obtain ⟨q0, q1, q2, q3, q4, q5⟩ := hw'; go_simp) S0 ?_
            simp only [Act.put, List.setIfInBounds_toArray, List.set_cons_zero, List.set_cons_succ]
            refine held_take (i := 8) (v := (.bool true)) 23 rfl rfl (by kernel_rfl) (by kernel_rfl) (by kernel_rfl) rfl (fun w' hw' => by obtain ⟨q0, q1, q2, q3, q4, q5⟩ := hw'; go_simp) S0 ?_
            simp only [Act.put, List.setIfInBounds_toArray, List.set_cons_zero, List.set_cons_succ]
            refine held_take (i := 9) (v := (.slice (some ⟨g, off, none⟩) L.length ac)) 24 rfl rfl (by kernel_rfl) (by kernel_rfl) (by kernel_rfl) rfl (fun w' hw' => by obtain ⟨q0, q1, q2, q3, q4, q5⟩ := hw'; go_simp) S0 ?_
            simp only [Act.put, List.setIfInBounds_toArray, List.set_cons_zero, List.set_cons_succ]
            refine held_take (i := 10) (v := (.int .i64 (k : Int))) 25 rfl rfl (by kernel_rfl) (by kernel_rfl) (by kernel_rfl) rfl (fun w' hw' => by obtain ⟨q0, q1, q2, q3, q4, q5⟩ := hw'; go_simp) S0 ?_
            simp only [Act.put, List.setIfInBounds_toArray, List.set_cons_zero, List.set_cons_succ]
            refine held_take (i := 11) (v := (.pointer (some ⟨g, off + k * 6, none⟩))) 26 rfl rfl (by kernel_rfl) (by kernel_rfl) (by kernel_rfl) rfl (fun w' hw' => by obtain ⟨q0, q1, q2, q3, q4, q5⟩ := hw'; go_simp) S0 ?_
            simp only [Act.put, List.setIfInBounds_toArray, List.set_cons_zero, List.set_cons_succ]
            refine held_take (i := 12) (v := (.pointer (some ⟨g, off + k * 6 + 1, none⟩))) 27 rfl rfl (by kernel_rfl) (by kernel_rfl) (by kernel_rfl) rfl (fun w' hw' => by obtain ⟨q0, q1, q2, q3, q4, q5⟩ := hw'; go_simp) S0 ?_
            simp only [Act.put, List.setIfInBounds_toArray, List.set_cons_zero, List.set_cons_succ]
            refine held_take (i := 13) (v := (.int .i64 2)) 28 rfl rfl (by kernel_rfl) (by kernel_rfl) (by kernel_rfl) rfl (fun w' hw' => by obtain ⟨q0, q1, q2, q3, q4, q5⟩ := hw'; go_simp) S0 ?_
            simp only [Act.put, List.setIfInBounds_toArray, List.set_cons_zero, List.set_cons_succ]
            refine held_take (i := 14) (v := (.bool true)) 29 rfl rfl (by kernel_rfl) (by kernel_rfl) (by kernel_rfl) rfl (fun w' hw' => by obtain ⟨q0, q1, q2, q3, q4, q5⟩ := hw'; go_simp) S0 ?_
            simp only [Act.put, List.setIfInBounds_toArray, List.set_cons_zero, List.set_cons_succ]
            refine held_take (i := 15) (v := (.bool true)) 30 rfl rfl (by kernel_rfl) (by kernel_rfl) (by kernel_rfl) rfl (fun w' hw' => by obtain ⟨q0, q1, q2, q3, q4, q5⟩ := hw'; go_simp) S0 ?_
            simp only [Act.put, List.setIfInBounds_toArray, List.set_cons_zero, List.set_cons_succ]
            refine held_take (i := 16) (v := (.bool true)) 31 rfl rfl (by kernel_rfl) (by kernel_rfl) (by kernel_rfl) rfl (fun w' hw' => by obtain ⟨q0, q1, q2, q3, q4, q5⟩ := hw'; go_simp) S0 ?_
            simp only [Act.put, List.setIfInBounds_toArray, List.set_cons_zero, List.set_cons_succ]
            refine held_take (i := 17) (v := (.slice (some ⟨g, off, none⟩) L.length ac)) 32 rfl rfl (by kernel_rfl) (by kernel_rfl) (by kernel_rfl) rfl (fun w' hw' => by obtain ⟨q0, q1, q2, q3, q4, q5⟩ := hw'; go_simp) S0 ?_
            simp only [Act.put, List.setIfInBounds_toArray, List.set_cons_zero, List.set_cons_succ]
            refine held_take (i := 18) (v := (.int .i64 (k : Int))) 33 rfl rfl (by kernel_rfl) (by kernel_rfl) (by kernel_rfl) rfl (fun w' hw' => by obtain ⟨q0, q1, q2, q3, q4, q5⟩ := hw'; go_simp) S0 ?_
            simp only [Act.put, List.setIfInBounds_toArray, List.set_cons_zero, List.set_cons_succ]
            refine held_take (i := 19) (v := (.pointer (some ⟨g, off + k * 6, none⟩))) 34 rfl rfl (by kernel_rfl) (by kernel_rfl) (by kernel_rfl) rfl (fun w' hw' => by obtain ⟨q0, q1, q2, q3, q4, q5⟩ := hw'; go_simp) S0 ?_
            simp only [Act.put, List.setIfInBounds_toArray, List.set_cons_zero, List.set_cons_succ]
            refine held_take (i := 20) (v := (.pointer (some ⟨g, off + k * 6 + 4, none⟩))) 35 rfl rfl (by kernel_rfl) (by kernel_rfl) (by kernel_rfl) rfl (fun w' hw' => by obtain ⟨q0, q1, q2, q3, q4, q5⟩ := hw'; go_simp) S0 ?_
            simp only [Act.put, List.setIfInBounds_toArray, List.set_cons_zero, List.set_cons_succ]
            refine held_take (i := 21) (v := (.bool false)) 36 rfl rfl (by kernel_rfl) (by kernel_rfl) (by kernel_rfl) rfl (fun w' hw' => by obtain ⟨q0, q1, q2, q3, q4, q5⟩ := hw'; go_simp) S0 ?_
            simp only [Act.put, List.setIfInBounds_toArray, List.set_cons_zero, List.set_cons_succ]
            refine held_take (i := 22) (v := (.bool true)) 37 rfl rfl (by kernel_rfl) (by kernel_rfl) (by kernel_rfl) rfl (fun w' hw' => by obtain ⟨q0, q1, q2, q3, q4, q5⟩ := hw'; go_simp) S0 ?_
            simp only [Act.put, List.setIfInBounds_toArray, List.set_cons_zero, List.set_cons_succ]
            refine held_take (i := 23) (v := (.bool true)) 38 rfl rfl (by kernel_rfl) (by kernel_rfl) (by kernel_rfl) rfl (fun w' hw' => by obtain ⟨q0, q1, q2, q3, q4, q5⟩ := hw'; go_simp) S0 ?_
            simp only [Act.put, List.setIfInBounds_toArray, List.set_cons_zero, List.set_cons_succ]
            refine held_end (by kernel_rfl) ?_ _
            go_wp2_with fail
            refine wp_held_end (S := fun W : World => W.cell? ⟨g, off + k * 6, none⟩ = some (.int .i64 eth) ∧ W.cell? ⟨g, off + k * 6 + 1, none⟩ = some (.int .i64 2) ∧ W.cell? ⟨g, off + k * 6 + 2, none⟩ = some (.int .u64 ead) ∧ W.cell? ⟨g, off + k * 6 + 3, none⟩ = some (.int .u64 ewd) ∧ W.cell? ⟨g, off + k * 6 + 4, none⟩ = some (.bool false) ∧ W.cell? ⟨w.heap.size, 0, none⟩ = some (.int .i64 eth)) 15 rfl hmxp ?_
            simp only [Array.replicate_succ, Array.replicate_zero, List.push_toArray, List.nil_append, List.cons_append]
            refine held_take (i := 0) (v := (.slice ub (rdsU L eth a k).length uc)) 39 rfl rfl (by kernel_rfl) (by kernel_rfl) (by kernel_rfl) rfl (fun w' hw' => by obtain ⟨q0, q1, q2, q3, q4, q5⟩ := hw'; go_simp) S6 ?_
            simp only [Act.put, List.setIfInBounds_toArray, List.set_cons_zero, List.set_cons_succ]
            refine held_take (i := 1) (v := (.slice (some ⟨g, off, none⟩) L.length ac)) 40 rfl rfl (by kernel_rfl) (by kernel_rfl) (by kernel_rfl) rfl (fun w' hw' => by obtain ⟨q0, q1, q2, q3, q4, q5⟩ := hw'; go_simp) S6 ?_
            simp only [Act.put, List.setIfInBounds_toArray, List.set_cons_zero, List.set_cons_succ]
            refine held_take (i := 2) (v := (.int .i64 (k : Int))) 41 rfl rfl (by kernel_rfl) (by kernel_rfl) (by kernel_rfl) rfl (fun w' hw' => by obtain ⟨q0, q1, q2, q3, q4, q5⟩ := hw'; go_simp) S6 ?_
            simp only [Act.put, List.setIfInBounds_toArray, List.set_cons_zero, List.set_cons_succ]
            refine held_take (i := 3) (v := (.pointer (some ⟨g, off + k * 6, none⟩))) 42 rfl rfl (by kernel_rfl) (by kernel_rfl) (by kernel_rfl) rfl (fun w' hw' => by obtain ⟨q0, q1, q2, q3, q4, q5⟩ := hw'; go_simp) S6 ?_
            simp only [Act.put, List.setIfInBounds_toArray, List.set_cons_zero, List.set_cons_succ]
            refine held_take (i := 4) (v := (.pointer (some ⟨g, off + k * 6 + 2, none⟩))) 43 rfl rfl (by kernel_rfl) (by kernel_rfl) (by kernel_rfl) rfl (fun w' hw' => by obtain ⟨q0, q1, q2, q3, q4, q5⟩ := hw'; go_simp) S6 ?_
            simp only [Act.put, List.setIfInBounds_toArray, List.set_cons_zero, List.set_cons_succ]
            refine held_take (i := 5) (v := (.int .u64 ead)) 44 rfl rfl (by kernel_rfl) (by kernel_rfl) (by kernel_rfl) rfl (fun w' hw' => by obtain ⟨q0, q1, q2, q3, q4, q5⟩ := hw'; go_simp) S6 ?_
            simp only [Act.put, List.setIfInBounds_toArray, List.set_cons_zero, List.set_cons_succ]
            refine held_take (i := 6) (v := (.slice (some ⟨g, off, none⟩) L.length ac)) 45 rfl rfl (by kernel_rfl) (by kernel_rfl) (by kernel_rfl) rfl (fun w' hw' => by obtain ⟨q0, q1, q2, q3, q4, q5⟩ := hw'; go_simp) S6 ?_
            simp only [Act.put, List.setIfInBounds_toArray, List.set_cons_zero, List.set_cons_succ]
            refine held_take (i := 7) (v := (.int .i64 (k : Int))) 46 rfl rfl (by kernel_rfl) (by kernel_rfl) (by kernel_rfl) rfl (fun w' hw' => by obtain ⟨q0, q1, q2, q3, q4, q5⟩ := hw'; go_simp) S6 ?_
            simp only [Act.put, List.setIfInBounds_toArray, List.set_cons_zero, List.set_cons_succ]
            refine held_take (i := 8) (v := (.pointer (some ⟨g, off + k * 6, none⟩))) 47 rfl rfl (by kernel_rfl) (by kernel_rfl) (by kernel_rfl) rfl (fun w' hw' => by obtain ⟨q0, q1, q2, q3, q4, q5⟩ := hw'; go_simp) S6 ?_
            simp only [Act.put, List.setIfInBounds_toArray, List.set_cons_zero, List.set_cons_succ]
            refine held_take (i := 9) (v := (.pointer (some ⟨g, off + k * 6 + 3, none⟩))) 48 rfl rfl (by kernel_rfl) (by kernel_rfl) (by kernel_rfl) rfl (fun w' hw' => by obtain ⟨q0, q1, q2, q3, q4, q5⟩ := hw'; go_simp) S6 ?_
            simp only [Act.put, List.setIfInBounds_toArray, List.set_cons_zero, List.set_cons_succ]
            refine held_take (i := 10) (v := (.int .u64 ewd)) 49 rfl rfl (by kernel_rfl) (by kernel_rfl) (by kernel_rfl) rfl (fun w' hw' => by obtain ⟨q0, q1, q2, q3, q4, q5⟩ := hw'; go_simp) S6 ?_
            simp only [Act.put, List.setIfInBounds_toArray, List.set_cons_zero, List.set_cons_succ]
            refine held_take (i := 11) (v := (.agg #[.int .u64 ead, .int .u64 ewd])) 50 rfl rfl (by kernel_rfl) (by kernel_rfl) (by kernel_rfl) rfl (fun w' hw' => by obtain ⟨q0, q1, q2, q3, q4, q5⟩ := hw'; go_simp) S6 ?_
            simp only [Act.put, List.setIfInBounds_toArray, List.set_cons_zero, List.set_cons_succ]
            refine held_val (i := 12) (v := (.slice (some ⟨wr.heap.size, 0, none⟩) 1 1)) (w' := wr.drew.drew.alloc (.cells #[.int .u64 ead, .int .u64 ewd] 88)) (some 51) (by kernel_rfl) rfl rfl rfl (by go_simp) S7 ?_
            simp only [Act.put, List.setIfInBounds_toArray, List.set_cons_zero, List.set_cons_succ]
            refine held_val (i := 13) (v := (.slice ya yn yc)) (w' := w3) (some 52) (by kernel_rfl) rfl rfl rfl (run_append_op rfl rfl rfl HA.out) S8 ?_
            simp only [Act.put, List.setIfInBounds_toArray, List.set_cons_zero, List.set_cons_succ]
            refine held_take (i := 14) (v := (.slice ya yn yc)) 5 rfl rfl (by kernel_rfl) (by kernel_rfl) (by kernel_rfl) rfl (fun w' hw' => by obtain ⟨q0, q1, q2, q3, q4, q5⟩ := hw'; go_simp) S8 ?_
            simp only [Act.put, List.setIfInBounds_toArray, List.set_cons_zero, List.set_cons_succ]
            refine held_end (by kernel_rfl) ?_ _
            go_wp2_with fail
            go_roundw
            · exact ⟨k + 1, by simp, by omega, by omega, HO, HB3, KR3⟩
            · simp [intOf]; omega
          · have _hq : True := trivial
            have HO : Hid (CR wr (w.heap.size + 1) u5 (rdsU L eth a (k + 1))) := by rw [hsu, if_neg (fun c => by cases c.2.2), Option.toList_none, List.append_nil]; exact hO.out
            obtain ⟨ub, uc, rfl⟩ := hO.out.form
            have S0 : wr.drew.cell? ⟨g, off + k * 6, none⟩ = some (.int .i64 eth) ∧ wr.drew.cell? ⟨g, off + k * 6 + 1, none⟩ = some (.int .i64 2) ∧ wr.drew.cell? ⟨g, off + k * 6 + 2, none⟩ = some (.int .u64 ead) ∧ wr.drew.cell? ⟨g, off + k * 6 + 3, none⟩ = some (.int .u64 ewd) ∧ wr.drew.cell? ⟨g, off + k * 6 + 4, none⟩ = some (.bool true) ∧ wr.drew.cell? ⟨w.heap.size, 0, none⟩ = some (.int .i64 eth) := ⟨x0, x1, x2, x3, x4, c0⟩
            have HD : Hid (CR wr.drew (w.heap.size + 1) _ _) := HO.out.keeps (Keeps.refl (fun _ => False) wr).drew (fun _ _ f => f)
            have kd := kr.drew
            clear hsu hO HO
            go_wp2_with fail
            refine wp_held_end (S := fun W : World => W.cell? ⟨g, off + k * 6, none⟩ = some (.int .i64 eth) ∧ W.cell? ⟨g, off + k * 6 + 1, none⟩ = some (.int .i64 2) ∧ W.cell? ⟨g, off + k * 6 + 2, none⟩ = some (.int .u64 ead) ∧ W.cell? ⟨g, off + k * 6 + 3, none⟩ = some (.int .u64 ewd) ∧ W.cell? ⟨g, off + k * 6 + 4, none⟩ = some (.bool true) ∧ W.cell? ⟨w.heap.size, 0, none⟩ = some (.int .i64 eth)) 24 rfl hmxp ?_
            simp only [Array.replicate_succ, Array.replicate_zero, List.push_toArray, List.nil_append, List.cons_append]
            refine held_take (i := 0) (v := (.slice (some ⟨g, off, none⟩) L.length ac)) 15 rfl rfl (by kernel_rfl) (by kernel_rfl) (by kernel_rfl) rfl (fun w' hw' => by obtain ⟨q0, q1, q2, q3, q4, q5⟩ := hw'; go_simp) S0 ?_
            simp only [Act.put, List.setIfInBounds_toArray, List.set_cons_zero, List.set_cons_succ]
            refine held_take (i := 1) (v := (.int .i64 (k : Int))) 16 rfl rfl (by kernel_rfl) (by kernel_rfl) (by kernel_rfl) rfl (fun w' hw' => by obtain ⟨q0, q1, q2, q3, q4, q5⟩ := hw'; go_simp) S0 ?_
            simp only [Act.put, List.setIfInBounds_toArray, List.set_cons_zero, List.set_cons_succ]
            refine held_take (i := 2) (v := (.pointer (some ⟨g, off + k * 6, none⟩))) 17 rfl rfl (by kernel_rfl) (by kernel_rfl) (by kernel_rfl) rfl (fun w' hw' => by obtain ⟨q0, q1, q2, q3, q4, q5⟩ := hw'; go_simp) S0 ?_
            simp only [Act.put, List.setIfInBounds_toArray, List.set_cons_zero, List.set_cons_succ]
            refine held_take (i := 3) (v := (.pointer (some ⟨g, off + k * 6, none⟩))) 18 rfl rfl (by kernel_rfl) (by kernel_rfl) (by kernel_rfl) rfl (fun w' hw' => by obtain ⟨q0, q1, q2, q3, q4, q5⟩ := hw'; go_simp) S0 ?_
            simp only [Act.put, List.setIfInBounds_toArray, List.set_cons_zero, List.set_cons_succ]
            refine held_take (i := 4) (v := (.int .i64 eth)) 19 rfl rfl (by kernel_rfl) (by kernel_rfl) (by kernel_rfl) rfl (fun w' hw' => by obtain ⟨q0, q1, q2, q3, q4, q5⟩ := hw'; go_simp) S0 ?_
            simp only [Act.put, List.setIfInBounds_toArray, List.set_cons_zero, List.set_cons_succ]
            refine held_take (i := 5) (v := (.pointer (some ⟨w.heap.size, 0, none⟩))) 20 rfl rfl (by kernel_rfl) (by kernel_rfl) (by kernel_rfl) rfl (fun w' hw' => by obtain ⟨q0, q1, q2, q3, q4, q5⟩ := hw'; go_simp) S0 ?_
            simp only [Act.put, List.setIfInBounds_toArray, List.set_cons_zero, List.set_cons_succ]
            refine held_take (i := 6) (v := (.int .i64 eth)) 21 rfl rfl (by kernel_rfl) (by kernel_rfl) (by kernel_rfl) rfl (fun w' hw' => by obtain ⟨q0, q1, q2, q3, q4, q5⟩ := hw'; go_simp) S0 ?_
            simp only [Act.put, List.setIfInBounds_toArray, List.set_cons_zero, List.set_cons_succ]
            refine held_take (i := 7) (v := (.bool true)) 22 rfl rfl (by kernel_rfl) (by kernel_rfl) (by kernel_rfl) rfl (fun w' hw' => by obtain ⟨q0, q1, q2, q3, q4, q5⟩ := hw'; go_simp) S0 ?_
            simp only [Act.put, List.setIfInBounds_toArray, List.set_cons_zero, List.set_cons_succ]
            refine held_take (i := 8) (v := (.bool true)) 23 rfl rfl (by kernel_rfl) (by kernel_rfl) (by kernel_rfl) rfl (fun w' hw' => by obtain ⟨q0, q1, q2, q3, q4, q5⟩ := hw'; go_simp) S0 ?_
            simp only [Act.put, List.setIfInBounds_toArray, List.set_cons_zero, List.set_cons_succ]
            refine held_take (i := 9) (v := (.slice (some ⟨g, off, none⟩) L.length ac)) 24 rfl rfl (by kernel_rfl) (by kernel_rfl) (by kernel_rfl) rfl (fun w' hw' => by obtain ⟨q0, q1, q2, q3, q4, q5⟩ := hw'; go_simp) S0 ?_
            simp only [Act.put, List.setIfInBounds_toArray, List.set_cons_zero, List.set_cons_succ]
            refine held_take (i := 10) (v := (.int .i64 (k : Int))) 25 rfl rfl (by kernel_rfl) (by kernel_rfl) (by kernel_rfl) rfl (fun w' hw' => by obtain ⟨q0, q1, q2, q3, q4, q5⟩ := hw'; go_simp) S0 ?_
            simp only [Act.put, List.setIfInBounds_toArray, List.set_cons_zero, List.set_cons_succ]
            refine held_take (i := 11) (v := (.pointer (some ⟨g, off + k * 6, none⟩))) 26 rfl rfl (by kernel_rfl) (by kernel_rfl) (by kernel_rfl) rfl (fun w' hw' => by obtain ⟨q0, q1, q2, q3, q4, q5⟩ := hw'; go_simp) S0 ?_
            simp only [Act.put, List.setIfInBounds_toArray, List.set_cons_zero, List.set_cons_succ]
            refine held_take (i := 12) (v := (.pointer (some ⟨g, off + k * 6 + 1, none⟩))) 27 rfl rfl (by kernel_rfl) (by kernel_rfl) (by kernel_rfl) rfl (fun w' hw' => by obtain ⟨q0, q1, q2, q3, q4, q5⟩ := hw'; go_simp) S0 ?_
            simp only [Act.put, List.setIfInBounds_toArray, List.set_cons_zero, List.set_cons_succ]
            refine held_take (i := 13) (v := (.int .i64 2)) 28 rfl rfl (by kernel_rfl) (by kernel_rfl) (by kernel_rfl) rfl (fun w' hw' => by obtain ⟨q0, q1, q2, q3, q4, q5⟩ := hw'; go_simp) S0 ?_
            simp only [Act.put, List.setIfInBounds_toArray, List.set_cons_zero, List.set_cons_succ]
            refine held_take (i := 14) (v := (.bool true)) 29 rfl rfl (by kernel_rfl) (by kernel_rfl) (by kernel_rfl) rfl (fun w' hw' => by obtain ⟨q0, q1, q2, q3, q4, q5⟩ := hw'; go_simp) S0 ?_
            simp only [Act.put, List.setIfInBounds_toArray, List.set_cons_zero, List.set_cons_succ]
            refine held_take (i := 15) (v := (.bool true)) 30 rfl rfl (by kernel_rfl) (by kernel_rfl) (by kernel_rfl) rfl (fun w' hw' => by obtain ⟨q0, q1, q2, q3, q4, q5⟩ := hw'; go_simp) S0 ?_
            simp only [Act.put, List.setIfInBounds_toArray, List.set_cons_zero, List.set_cons_succ]
            refine held_take (i := 16) (v := (.bool true)) 31 rfl rfl (by kernel_rfl) (by kernel_rfl) (by kernel_rfl) rfl (fun w' hw' => by obtain ⟨q0, q1, q2, q3, q4, q5⟩ := hw'; go_simp) S0 ?_
            simp only [Act.put, List.setIfInBounds_toArray, List.set_cons_zero, List.set_cons_succ]
            refine held_take (i := 17) (v := (.slice (some ⟨g, off, none⟩) L.length ac)) 32 rfl rfl (by kernel_rfl) (by kernel_rfl) (by kernel_rfl) rfl (fun w' hw' => by obtain ⟨q0, q1, q2, q3, q4, q5⟩ := hw'; go_simp) S0 ?_
            simp only [Act.put, List.setIfInBounds_toArray, List.set_cons_zero, List.set_cons_succ]
            refine held_take (i := 18) (v := (.int .i64 (k : Int))) 33 rfl rfl (by kernel_rfl) (by kernel_rfl) (by kernel_rfl) rfl (fun w' hw' => by obtain ⟨q0, q1, q2, q3, q4, q5⟩ := hw'; go_simp) S0 ?_
            simp only [Act.put, List.setIfInBounds_toArray, List.set_cons_zero, List.set_cons_succ]
            refine held_take (i := 19) (v := (.pointer (some ⟨g, off + k * 6, none⟩))) 34 rfl rfl (by kernel_rfl) (by kernel_rfl) (by kernel_rfl) rfl (fun w' hw' => by obtain ⟨q0, q1, q2, q3, q4, q5⟩ := hw'; go_simp) S0 ?_
            simp only [Act.put, List.setIfInBounds_toArray, List.set_cons_zero, List.set_cons_succ]
            refine held_take (i := 20) (v := (.pointer (some ⟨g, off + k * 6 + 4, none⟩))) 35 rfl rfl (by kernel_rfl) (by kernel_rfl) (by kernel_rfl) rfl (fun w' hw' => by obtain ⟨q0, q1, q2, q3, q4, q5⟩ := hw'; go_simp) S0 ?_
            simp only [Act.put, List.setIfInBounds_toArray, List.set_cons_zero, List.set_cons_succ]
            refine held_take (i := 21) (v := (.bool true)) 36 rfl rfl (by kernel_rfl) (by kernel_rfl) (by kernel_rfl) rfl (fun w' hw' => by obtain ⟨q0, q1, q2, q3, q4, q5⟩ := hw'; go_simp) S0 ?_
            simp only [Act.put, List.setIfInBounds_toArray, List.set_cons_zero, List.set_cons_succ]
            refine held_take (i := 22) (v := (.bool false)) 37 rfl rfl (by kernel_rfl) (by kernel_rfl) (by kernel_rfl) rfl (fun w' hw' => by obtain ⟨q0, q1, q2, q3, q4, q5⟩ := hw'; go_simp) S0 ?_
            simp only [Act.put, List.setIfInBounds_toArray, List.set_cons_zero, List.set_cons_succ]
            refine held_take (i := 23) (v := (.bool false)) 38 rfl rfl (by kernel_rfl) (by kernel_rfl) (by kernel_rfl) rfl (fun w' hw' => by obtain ⟨q0, q1, q2, q3, q4, q5⟩ := hw'; go_simp) S0 ?_
            simp only [Act.put, List.setIfInBounds_toArray, List.set_cons_zero, List.set_cons_succ]
            refine held_end (by kernel_rfl) ?_ _
            go_wp2_with fail
            go_roundw
            · exact ⟨k + 1, by simp, by omega, by omega, HD, hB, kd⟩
            · simp [intOf]; omega
        · have hkb2 : (ekd == 2) = false := by rw [beq_eq_false_iff_ne]; exact hkd
          have HO : Hid (CR wr (w.heap.size + 1) u5 (rdsU L eth a (k + 1))) := by rw [hsu, if_neg (fun c => hkd c.2.1), Option.toList_none, List.append_nil]; exact hO.out
          obtain ⟨ub, uc, rfl⟩ := hO.out.form
          have S0 : wr.drew.cell? ⟨g, off + k * 6, none⟩ = some (.int .i64 eth) ∧ wr.drew.cell? ⟨g, off + k * 6 + 1, none⟩ = some (.int .i64 ekd) ∧ wr.drew.cell? ⟨g, off + k * 6 + 2, none⟩ = some (.int .u64 ead) ∧ wr.drew.cell? ⟨g, off + k * 6 + 3, none⟩ = some (.int .u64 ewd) ∧ wr.drew.cell? ⟨g, off + k * 6 + 4, none⟩ = some (.bool eow) ∧ wr.drew.cell? ⟨w.heap.size, 0, none⟩ = some (.int .i64 eth) := ⟨x0, x1, x2, x3, x4, c0⟩
          have HD : Hid (CR wr.drew (w.heap.size + 1) _ _) := HO.out.keeps (Keeps.refl (fun _ => False) wr).drew (fun _ _ f => f)
          have kd := kr.drew
          clear hsu hO HO
          go_wp2_with fail
          refine wp_held_end (S := fun W : World => W.cell? ⟨g, off + k * 6, none⟩ = some (.int .i64 eth) ∧ W.cell? ⟨g, off + k * 6 + 1, none⟩ = some (.int .i64 ekd) ∧ W.cell? ⟨g, off + k * 6 + 2, none⟩ = some (.int .u64 ead) ∧ W.cell? ⟨g, off + k * 6 + 3, none⟩ = some (.int .u64 ewd) ∧ W.cell? ⟨g, off + k * 6 + 4, none⟩ = some (.bool eow) ∧ W.cell? ⟨w.heap.size, 0, none⟩ = some (.int .i64 eth)) 24 rfl hmxp ?_
          simp only [Array.replicate_succ, Array.replicate_zero, List.push_toArray, List.nil_append, List.cons_append]
          refine held_take (i := 0) (v := (.slice (some ⟨g, off, none⟩) L.length ac)) 15 rfl rfl (by kernel_rfl) (by kernel_rfl) (by kernel_rfl) rfl (fun w' hw' => by obtain ⟨q0, q1, q2, q3, q4, q5⟩ := hw'; go_simp) S0 ?_
          simp only [Act.put, List.setIfInBounds_toArray, List.set_cons_zero, List.set_cons_succ]
          refine held_take (i := 1) (v := (.int .i64 (k : Int))) 16 rfl rfl (by kernel_rfl) (by kernel_rfl) (by kernel_rfl) rfl (fun w' hw' => by obtain ⟨q0, q1, q2, q3, q4, q5⟩ := hw'; go_simp) S0 ?_
          simp only [Act.put, List.setIfInBounds_toArray, List.set_cons_zero, List.set_cons_succ]
          refine held_take (i := 2) (v := (.pointer (some ⟨g, off + k * 6, none⟩))) 17 rfl rfl (by kernel_rfl) (by kernel_rfl) (by kernel_rfl) rfl (fun w' hw' => by obtain ⟨q0, q1, q2, q3, q4, q5⟩ := hw'; go_simp) S0 ?_
          simp only [Act.put, List.setIfInBounds_toArray, List.set_cons_zero, List.set_cons_succ]
          refine held_take (i := 3) (v := (.pointer (some ⟨g, off + k * 6, none⟩))) 18 rfl rfl (by kernel_rfl) (by kernel_rfl) (by kernel_rfl) rfl (fun w' hw' => by obtain ⟨q0, q1, q2, q3, q4, q5⟩ := hw'; go_simp) S0 ?_
          simp only [Act.put, List.setIfInBounds_toArray, List.set_cons_zero, List.set_cons_succ]
          refine held_take (i := 4) (v := (.int .i64 eth)) 19 rfl rfl (by kernel_rfl) (by kernel_rfl) (by kernel_rfl) rfl (fun w' hw' => by obtain ⟨q0, q1, q2, q3, q4, q5⟩ := hw'; go_simp) S0 ?_
          simp only [Act.put, List.setIfInBounds_toArray, List.set_cons_zero, List.set_cons_succ]
          refine held_take (i := 5) (v := (.pointer (some ⟨w.heap.size, 0, none⟩))) 20 rfl rfl (by kernel_rfl) (by kernel_rfl) (by kernel_rfl) rfl (fun w' hw' => by obtain ⟨q0, q1, q2, q3, q4, q5⟩ := hw'; go_simp) S0 ?_
          simp only [Act.put, List.setIfInBounds_toArray, List.set_cons_zero, List.set_cons_succ]
          refine held_take (i := 6) (v := (.int .i64 eth)) 21 rfl rfl (by kernel_rfl) (by kernel_rfl) (by kernel_rfl) rfl (fun w' hw' => by obtain ⟨q0, q1, q2, q3, q4, q5⟩ := hw'; go_simp) S0 ?_
          simp only [Act.put, List.setIfInBounds_toArray, List.set_cons_zero, List.set_cons_succ]
          refine held_take (i := 7) (v := (.bool true)) 22 rfl rfl (by kernel_rfl) (by kernel_rfl) (by kernel_rfl) rfl (fun w' hw' => by obtain ⟨q0, q1, q2, q3, q4, q5⟩ := hw'; go_simp) S0 ?_
          simp only [Act.put, List.setIfInBounds_toArray, List.set_cons_zero, List.set_cons_succ]
          refine held_take (i := 8) (v := (.bool true)) 23 rfl rfl (by kernel_rfl) (by kernel_rfl) (by kernel_rfl) rfl (fun w' hw' => by obtain ⟨q0, q1, q2, q3, q4, q5⟩ := hw'; go_simp) S0 ?_
          simp only [Act.put, List.setIfInBounds_toArray, List.set_cons_zero, List.set_cons_succ]
          refine held_take (i := 9) (v := (.slice (some ⟨g, off, none⟩) L.length ac)) 24 rfl rfl (by kernel_rfl) (by kernel_rfl) (by kernel_rfl) rfl (fun w' hw' => by obtain ⟨q0, q1, q2, q3, q4, q5⟩ := hw'; go_simp) S0 ?_
          simp only [Act.put, List.setIfInBounds_toArray, List.set_cons_zero, List.set_cons_succ]
          refine held_take (i := 10) (v := (.int .i64 (k : Int))) 25 rfl rfl (by kernel_rfl) (by kernel_rfl) (by kernel_rfl) rfl (fun w' hw' => by obtain ⟨q0, q1, q2, q3, q4, q5⟩ := hw'; go_simp) S0 ?_
          simp only [Act.put, List.setIfInBounds_toArray, List.set_cons_zero, List.set_cons_succ]
          refine held_take (i := 11) (v := (.pointer (some ⟨g, off + k * 6, none⟩))) 26 rfl rfl (by kernel_rfl) (by kernel_rfl) (by kernel_rfl) rfl (fun w' hw' => by obtain ⟨q0, q1, q2, q3, q4, q5⟩ := hw'; go_simp) S0 ?_
          simp only [Act.put, List.setIfInBounds_toArray, List.set_cons_zero, List.set_cons_succ]
          refine held_take (i := 12) (v := (.pointer (some ⟨g, off + k * 6 + 1, none⟩))) 27 rfl rfl (by kernel_rfl) (by kernel_rfl) (by kernel_rfl) rfl (fun w' hw' => by obtain ⟨q0, q1, q2, q3, q4, q5⟩ := hw'; go_simp) S0 ?_
          simp only [Act.put, List.setIfInBounds_toArray, List.set_cons_zero, List.set_cons_succ]
          refine held_take (i := 13) (v := (.int .i64 ekd)) 28 rfl rfl (by kernel_rfl) (by kernel_rfl) (by kernel_rfl) rfl (fun w' hw' => by obtain ⟨q0, q1, q2, q3, q4, q5⟩ := hw'; go_simp) S0 ?_
          simp only [Act.put, List.setIfInBounds_toArray, List.set_cons_zero, List.set_cons_succ]
          refine held_take (i := 14) (v := (.bool false)) 29 rfl rfl (by kernel_rfl) (by kernel_rfl) (by kernel_rfl) rfl (fun w' hw' => by obtain ⟨q0, q1, q2, q3, q4, q5⟩ := hw'; go_simp) S0 ?_
          simp only [Act.put, List.setIfInBounds_toArray, List.set_cons_zero, List.set_cons_succ]
          refine held_take (i := 15) (v := (.bool false)) 30 rfl rfl (by kernel_rfl) (by kernel_rfl) (by kernel_rfl) rfl (fun w' hw' => by obtain ⟨q0, q1, q2, q3, q4, q5⟩ := hw'; go_simp) S0 ?_
          simp only [Act.put, List.setIfInBounds_toArray, List.set_cons_zero, List.set_cons_succ]
          refine held_take (i := 16) (v := (.bool false)) 31 rfl rfl (by kernel_rfl) (by kernel_rfl) (by kernel_rfl) rfl (fun w' hw' => by obtain ⟨q0, q1, q2, q3, q4, q5⟩ := hw'; go_simp) S0 ?_
          simp only [Act.put, List.setIfInBounds_toArray, List.set_cons_zero, List.set_cons_succ]
          refine held_skipO (i := 17) 32 rfl rfl (by kernel_rfl) (by kernel_rfl) (by kernel_rfl) rfl S0 ?_
          simp only [Act.put, List.setIfInBounds_toArray, List.set_cons_zero, List.set_cons_succ]
          refine held_skipO (i := 18) 33 rfl rfl (by kernel_rfl) (by kernel_rfl) (by kernel_rfl) rfl S0 ?_
          simp only [Act.put, List.setIfInBounds_toArray, List.set_cons_zero, List.set_cons_succ]
          refine held_skipO (i := 19) 34 rfl rfl (by kernel_rfl) (by kernel_rfl) (by kernel_rfl) rfl S0 ?_
          simp only [Act.put, List.setIfInBounds_toArray, List.set_cons_zero, List.set_cons_succ]
          refine held_skipO (i := 20) 35 rfl rfl (by kernel_rfl) (by kernel_rfl) (by kernel_rfl) rfl S0 ?_
          simp only [Act.put, List.setIfInBounds_toArray, List.set_cons_zero, List.set_cons_succ]
          refine held_skipO (i := 21) 36 rfl rfl (by kernel_rfl) (by kernel_rfl) (by kernel_rfl) rfl S0 ?_
          simp only [Act.put, List.setIfInBounds_toArray, List.set_cons_zero, List.set_cons_succ]
          refine held_skipO (i := 22) 37 rfl rfl (by kernel_rfl) (by kernel_rfl) (by kernel_rfl) rfl S0 ?_
          simp only [Act.put, List.setIfInBounds_toArray, List.set_cons_zero, List.set_cons_succ]
          refine held_take (i := 23) (v := (.bool false)) 38 rfl rfl (by kernel_rfl) (by kernel_rfl) (by kernel_rfl) rfl (fun w' hw' => by obtain ⟨q0, q1, q2, q3, q4, q5⟩ := hw'; go_simp) S0 ?_
          simp only [Act.put, List.setIfInBounds_toArray, List.set_cons_zero, List.set_cons_succ]
          refine held_end (by kernel_rfl) ?_ _
          go_wp2_with fail
          go_roundw
          · exact ⟨k + 1, by simp, by omega, by omega, HD, hB, kd⟩
          · simp [intOf]; omega
      · have htb : (eth == th) = false := by rw [beq_eq_false_iff_ne]; exact hth
        have HO : Hid (CR wr (w.heap.size + 1) u5 (rdsU L th a (k + 1))) := by rw [hsu, if_neg (fun c => hth c.1), Option.toList_none, List.append_nil]; exact hO.out
        obtain ⟨ub, uc, rfl⟩ := hO.out.form
        have S0 : wr.drew.cell? ⟨g, off + k * 6, none⟩ = some (.int .i64 eth) ∧ wr.drew.cell? ⟨g, off + k * 6 + 1, none⟩ = some (.int .i64 ekd) ∧ wr.drew.cell? ⟨g, off + k * 6 + 2, none⟩ = some (.int .u64 ead) ∧ wr.drew.cell? ⟨g, off + k * 6 + 3, none⟩ = some (.int .u64 ewd) ∧ wr.drew.cell? ⟨g, off + k * 6 + 4, none⟩ = some (.bool eow) ∧ wr.drew.cell? ⟨w.heap.size, 0, none⟩ = some (.int .i64 th) := ⟨x0, x1, x2, x3, x4, c0⟩
        have HD : Hid (CR wr.drew (w.heap.size + 1) _ _) := HO.out.keeps (Keeps.refl (fun _ => False) wr).drew (fun _ _ f => f)
        have kd := kr.drew
        clear hsu hO HO
        go_wp2_with fail
        refine wp_held_end (S := fun W : World => W.cell? ⟨g, off + k * 6, none⟩ = some (.int .i64 eth) ∧ W.cell? ⟨g, off + k * 6 + 1, none⟩ = some (.int .i64 ekd) ∧ W.cell? ⟨g, off + k * 6 + 2, none⟩ = some (.int .u64 ead) ∧ W.cell? ⟨g, off + k * 6 + 3, none⟩ = some (.int .u64 ewd) ∧ W.cell? ⟨g, off + k * 6 + 4, none⟩ = some (.bool eow) ∧ W.cell? ⟨w.heap.size, 0, none⟩ = some (.int .i64 th)) 24 rfl hmxp ?_
        simp only [Array.replicate_succ, Array.replicate_zero, List.push_toArray, List.nil_append, List.cons_append]
        refine held_take (i := 0) (v := (.slice (some ⟨g, off, none⟩) L.length ac)) 15 rfl rfl (by kernel_rfl) (by kernel_rfl) (by kernel_rfl) rfl (fun w' hw' => by obtain ⟨q0, q1, q2, q3, q4, q5⟩ := hw'; go_simp) S0 ?_
        simp only [Act.put, List.setIfInBounds_toArray, List.set_cons_zero, List.set_cons_succ]
        refine held_take (i := 1) (v := (.int .i64 (k : Int))) 16 rfl rfl (by kernel_rfl) (by kernel_rfl) (by kernel_rfl) rfl (fun w' hw' => by obtain ⟨q0, q1, q2, q3, q4, q5⟩ := hw'; go_simp) S0 ?_
        simp only [Act.put, List.setIfInBounds_toArray, List.set_cons_zero, List.set_cons_succ]
        refine held_take (i := 2) (v := (.pointer (some ⟨g, off + k * 6, none⟩))) 17 rfl rfl (by kernel_rfl) (by kernel_rfl) (by kernel_rfl) rfl (fun w' hw' => by obtain ⟨q0, q1, q2, q3, q4, q5⟩ := hw'; go_simp) S0 ?_
        simp only [Act.put, List.setIfInBounds_toArray, List.set_cons_zero, List.set_cons_succ]
        refine held_take (i := 3) (v := (.pointer (some ⟨g, off + k * 6, none⟩))) 18 rfl rfl (by kernel_rfl) (by kernel_rfl) (by kernel_rfl) rfl (fun w' hw' => by obtain ⟨q0, q1, q2, q3, q4, q5⟩ := hw'; go_simp) S0 ?_
        simp only [Act.put, List.setIfInBounds_toArray, List.set_cons_zero, List.set_cons_succ]
        refine held_take (i := 4) (v := (.int .i64 eth)) 19 rfl rfl (by kernel_rfl) (by kernel_rfl) (by kernel_rfl) rfl (fun w' hw' => by obtain ⟨q0, q1, q2, q3, q4, q5⟩ := hw'; go_simp) S0 ?_
        simp only [Act.put, List.setIfInBounds_toArray, List.set_cons_zero, List.set_cons_succ]
        refine held_take (i := 5) (v := (.pointer (some ⟨w.heap.size, 0, none⟩))) 20 rfl rfl (by kernel_rfl) (by kernel_rfl) (by kernel_rfl) rfl (fun w' hw' => by obtain ⟨q0, q1, q2, q3, q4, q5⟩ := hw'; go_simp) S0 ?_
        simp only [Act.put, List.setIfInBounds_toArray, List.set_cons_zero, List.set_cons_succ]
        refine held_take (i := 6) (v := (.int .i64 th)) 21 rfl rfl (by kernel_rfl) (by kernel_rfl) (by kernel_rfl) rfl (fun w' hw' => by obtain ⟨q0, q1, q2, q3, q4, q5⟩ := hw'; go_simp) S0 ?_
        simp only [Act.put, List.setIfInBounds_toArray, List.set_cons_zero, List.set_cons_succ]
        refine held_take (i := 7) (v := (.bool false)) 22 rfl rfl (by kernel_rfl) (by kernel_rfl) (by kernel_rfl) rfl (fun w' hw' => by obtain ⟨q0, q1, q2, q3, q4, q5⟩ := hw'; go_simp) S0 ?_
        simp only [Act.put, List.setIfInBounds_toArray, List.set_cons_zero, List.set_cons_succ]
        refine held_take (i := 8) (v := (.bool false)) 23 rfl rfl (by kernel_rfl) (by kernel_rfl) (by kernel_rfl) rfl (fun w' hw' => by obtain ⟨q0, q1, q2, q3, q4, q5⟩ := hw'; go_simp) S0 ?_
        simp only [Act.put, List.setIfInBounds_toArray, List.set_cons_zero, List.set_cons_succ]
        refine held_skipO (i := 9) 24 rfl rfl (by kernel_rfl) (by kernel_rfl) (by kernel_rfl) rfl S0 ?_
        simp only [Act.put, List.setIfInBounds_toArray, List.set_cons_zero, List.set_cons_succ]
        refine held_skipO (i := 10) 25 rfl rfl (by kernel_rfl) (by kernel_rfl) (by kernel_rfl) rfl S0 ?_
        simp only [Act.put, List.setIfInBounds_toArray, List.set_cons_zero, List.set_cons_succ]
        refine held_skipO (i := 11) 26 rfl rfl (by kernel_rfl) (by kernel_rfl) (by kernel_rfl) rfl S0 ?_
        simp only [Act.put, List.setIfInBounds_toArray, List.set_cons_zero, List.set_cons_succ]
        refine held_skipO (i := 12) 27 rfl rfl (by kernel_rfl) (by kernel_rfl) (by kernel_rfl) rfl S0 ?_
        simp only [Act.put, List.setIfInBounds_toArray, List.set_cons_zero, List.set_cons_succ]
        refine held_skipO (i := 13) 28 rfl rfl (by kernel_rfl) (by kernel_rfl) (by kernel_rfl) rfl S0 ?_
        simp only [Act.put, List.setIfInBounds_toArray, List.set_cons_zero, List.set_cons_succ]
        refine held_skipO (i := 14) 29 rfl rfl (by kernel_rfl) (by kernel_rfl) (by kernel_rfl) rfl S0 ?_
        simp only [Act.put, List.setIfInBounds_toArray, List.set_cons_zero, List.set_cons_succ]
        refine held_take (i := 15) (v := (.bool false)) 30 rfl rfl (by kernel_rfl) (by kernel_rfl) (by kernel_rfl) rfl (fun w' hw' => by obtain ⟨q0, q1, q2, q3, q4, q5⟩ := hw'; go_simp) S0 ?_
        simp only [Act.put, List.setIfInBounds_toArray, List.set_cons_zero, List.set_cons_succ]
        refine held_take (i := 16) (v := (.bool false)) 31 rfl rfl (by kernel_rfl) (by kernel_rfl) (by kernel_rfl) rfl (fun w' hw' => by obtain ⟨q0, q1, q2, q3, q4, q5⟩ := hw'; go_simp) S0 ?_
        simp only [Act.put, List.setIfInBounds_toArray, List.set_cons_zero, List.set_cons_succ]
        refine held_skipO (i := 17) 32 rfl rfl (by kernel_rfl) (by kernel_rfl) (by kernel_rfl) rfl S0 ?_
        simp only [Act.put, List.setIfInBounds_toArray, List.set_cons_zero, List.set_cons_succ]
        refine held_skipO (i := 18) 33 rfl rfl (by kernel_rfl) (by kernel_rfl) (by kernel_rfl) rfl S0 ?_
        simp only [Act.put, List.setIfInBounds_toArray, List.set_cons_zero, List.set_cons_succ]
        refine held_skipO (i := 19) 34 rfl rfl (by kernel_rfl) (by kernel_rfl) (by kernel_rfl) rfl S0 ?_
        simp only [Act.put, List.setIfInBounds_toArray, List.set_cons_zero, List.set_cons_succ]
        refine held_skipO (i := 20) 35 rfl rfl (by kernel_rfl) (by kernel_rfl) (by kernel_rfl) rfl S0 ?_
        simp only [Act.put, List.setIfInBounds_toArray, List.set_cons_zero, List.set_cons_succ]
        refine held_skipO (i := 21) 36 rfl rfl (by kernel_rfl) (by kernel_rfl) (by kernel_rfl) rfl S0 ?_
        simp only [Act.put, List.setIfInBounds_toArray, List.set_cons_zero, List.set_cons_succ]
        refine held_skipO (i := 22) 37 rfl rfl (by kernel_rfl) (by kernel_rfl) (by kernel_rfl) rfl S0 ?_
        simp only [Act.put, List.setIfInBounds_toArray, List.set_cons_zero, List.set_cons_succ]
        refine held_take (i := 23) (v := (.bool false)) 38 rfl rfl (by kernel_rfl) (by kernel_rfl) (by kernel_rfl) rfl (fun w' hw' => by obtain ⟨q0, q1, q2, q3, q4, q5⟩ := hw'; go_simp) S0 ?_
        simp only [Act.put, List.setIfInBounds_toArray, List.set_cons_zero, List.set_cons_succ]
        refine held_end (by kernel_rfl) ?_ _
        go_wp2_with fail
        go_roundw
        · exact ⟨k + 1, by simp, by omega, by omega, HD, hB, kd⟩
        · simp [intOf]; omega
    · obtain rfl : k = b + 1 := by omega
      have hgt : ¬ (((b + 1 : Nat) : Int) ≤ (b : Int)) := by omega
      have HF : Hid (CR wr w.heap.size u5 (rdsU L th a (b + 1))) := hO.out.lowE (by omega)
      obtain ⟨ub, uc, rfl⟩ := hO.out.form
      clear hO hB
      go_wp2_with fail
      go_ret
      exact ⟨_, rfl, HF.out, kr⟩
end Go.Proofs.YtjmmjkoloioddaaDoor


/- A walk of the document's Writing (layer 16). No statement of the seat is proved here. -/
namespace Go.Proofs.YtjmmjkoloioddaaDoor
open Go.RowKit Go.Shelf

/-- Which threads have locked. -/
def lkF (S : St) (j : Nat) : Bool := decide ((S.sd j).st = 3)
theorem lkF_next {S : St} {e : Ev} (h8 : S.t.length = 8) (he : errE S e = 0) (j : Nat) : lkF (nextS S e) j = if j = e.th.toNat then decide (e.kd = 5) else lkF S j := by
  obtain ⟨hf, ht⟩ := err_turn he
  obtain ⟨f0, f1, f2, f3⟩ := formed_in hf
  unfold lkF
  rw [next_sd (S := S) (e := e) h8 f0 f1]
  by_cases hj : j = e.th.toNat
  · rw [if_pos hj, if_pos hj]
    change decide (turnN (S.sd e.th.toNat).st e = 3) = _
    congr 1
    generalize (S.sd e.th.toNat).st = s at *
    apply propext
    constructor
    · intro h
      rcases turn_two (.inr h) with ⟨_, _, c⟩ | ⟨_, _, c⟩ | ⟨_, c, _⟩
      · omega
      · omega
      · exact c
    · intro h
      unfold turnN at ht ⊢
      by_cases q1 : s = 1
      · simp [q1, h] at ht
      · by_cases q2 : s = 2
        · simp [q2, h]
        · by_cases q3 : s = 3
          · simp [q3, h] at ht
          · simp [q1, q2, q3] at ht
  · rw [if_neg hj, if_neg hj]
theorem lkF_only {S : St} {e : Ev} (he : errE S e = 0) (h : lkF S e.th.toNat = true) : e.kd = 6 := by
  obtain ⟨hf, ht⟩ := err_turn he
  unfold lkF at h
  rw [decide_eq_true_eq] at h
  unfold turnN at ht
  rw [h] at ht
  apply Classical.byContradiction
  intro h6
  simp [h6] at ht
/-- Eight marks as they lie. -/
@[reducible] def bl8 (B : Nat → Bool) : Array Value := #[.bool (B 0), .bool (B 1), .bool (B 2), .bool (B 3), .bool (B 4), .bool (B 5), .bool (B 6), .bool (B 7)]
def LkAt (w : World) (b : Nat) (B : Nat → Bool) : Prop := w.heap[b]? = some (.cells (bl8 B) 85 (0, 0))
theorem LkAt.cell {w : World} {b : Nat} {B : Nat → Bool} (h : LkAt w b B) {n : Nat} (hn : n < 8) : w.cell? ⟨b, n, none⟩ = some (.bool (B n)) := by
  rw [cell_of_block h]
  rcases n with _ | _ | _ | _ | _ | _ | _ | _ | n
  all_goals first | rfl | omega
theorem LkAt.set {w : World} {b : Nat} {B C : Nat → Bool} (h : LkAt w b B) {n : Nat} (hn : n < 8) (x : Bool) (hC : ∀ j, C j = if j = n then x else B j) : LkAt (w.setCell ⟨b, n, none⟩ (.bool x)) b C := by
  have := block_set h n (.bool x)
  unfold LkAt
  rw [this]
  congr 2
  unfold bl8
  simp only [hC]
  rcases n with _ | _ | _ | _ | _ | _ | _ | _ | n
  all_goals first | rfl | omega
set_option maxRecDepth 100000 in
set_option maxHeartbeats 8000000 in
theorem rwriting_any (v : Value) (L : List Ev) (hL : L.length ≤ 1100000) (hz : (checkL L).2 = 0) (w : World) (ha : ElsAt Ev.cl 6 w v L) : Calls Tryd.prog 18 #[v] w fun ex w' => ∃ u, ex = .returned u ∧ NR w' w.heap.size u (wpos st0 L 0) ∧ Keeps (fun _ => False) w w' := by
  have HV : Hid (∀ X, Keeps (fun _ => False) w X → ElsAt Ev.cl 6 X v L) := fun X q => ha.keeps ev_ne q
  obtain ⟨aa, ac, rfl, hac⟩ := ha.shape
  have k0 := (Keeps.refl (fun _ => False) w).alloc (.cells #[.bool false, .bool false, .bool false, .bool false, .bool false, .bool false, .bool false, .bool false] 85)
  have b0 : LkAt (w.alloc (.cells #[.bool false, .bool false, .bool false, .bool false, .bool false, .bool false, .bool false, .bool false] 85)) w.heap.size (lkF st0) := (MapKept.heap_alloc w _).1
  have hs0 : (w.alloc (.cells #[.bool false, .bool false, .bool false, .bool false, .bool false, .bool false, .bool false, .bool false] 85)).heap.size = w.heap.size + 1 := by simp
  have O0 : NR (w.alloc (.cells #[.bool false, .bool false, .bool false, .bool false, .bool false, .bool false, .bool false, .bool false] 85)) (w.heap.size + 1) (.slice none 0 0) [] := OwnR.nilB nC 1 3 _ _ (by omega)
  have HZ : Hid (∃ S, wpos st0 L 0 = [] ++ wpos S (L.drop 0) 0 ∧ (chk S (L.drop 0) 0).2 = 0 ∧ S.t.length = 8 ∧ LkAt (w.alloc (.cells #[.bool false, .bool false, .bool false, .bool false, .bool false, .bool false, .bool false, .bool false] 85)) w.heap.size (lkF S)) := ⟨st0, rfl, hz, rfl, b0⟩
  clear ha hz b0 hs0
  go_enter Tryd.func18, Tryd.ntmps18
  go_wp2_with fail
  go_loopw [4, 5] (fun u4 u wr => ∃ (k : Nat) (acc : List Int), u = .int .i64 k ∧ k ≤ L.length ∧ acc.length ≤ k ∧ Hid (NR wr (w.heap.size + 1) u4 acc) ∧ Hid (∃ S, wpos st0 L 0 = acc ++ wpos S (L.drop k) k ∧ (chk S (L.drop k) k).2 = 0 ∧ S.t.length = 8 ∧ LkAt wr w.heap.size (lkF S)) ∧ Keeps (fun _ => False) w wr) (fun _ u _ => L.length - (intOf u).toNat)
  case atStart => exact ⟨0, [], rfl, Nat.zero_le _, Nat.le_refl _, O0, HZ, k0⟩
  case round =>
    clear O0 HZ k0
    obtain ⟨k, acc, rfl, hk, hal, hO, hS, kr⟩ := hrel
    by_cases hlt : k < L.length
    · have hki : (k : Int) < L.length := by omega
      have hk0 : (0 : Int) ≤ k := by omega
      obtain ⟨S, s1, s2, s3, s4⟩ := hS.out
      obtain ⟨g, off, rfl, hc⟩ := (HV.out wr kr).at k hlt
      have HX : Hid (∀ X, Keeps (fun _ => False) w X → X.cell? ⟨g, off + k * 6 + 1, none⟩ = some (.int .i64 (L[k]'hlt).kd)) := fun X q => by
        obtain ⟨g', off', e', hc'⟩ := (HV.out X q).at k hlt
        injection e' with e'
        injection e' with e1 e2
        subst e1 e2
        exact hc' 1 _ rfl
      rw [List.drop_eq_getElem_cons hlt] at s1 s2
      generalize L[k]'hlt = e at *
      have he : errE S e = 0 := by
        rw [chk] at s2
        apply Classical.byContradiction
        intro c
        rw [if_neg c] at s2
        exact c s2
      rw [chk, if_pos he] at s2
      rw [wpos] at s1
      have hnx := lkF_next s3 he
      have hol := lkF_only he
      have h8 : (nextS S e).t.length = 8 := by simp [nextS, s3]
      obtain ⟨hf, -⟩ := err_turn he
      obtain ⟨f0, f1, -, -⟩ := formed_in hf
      obtain ⟨th, kd, ad, wd, own, er⟩ := e
      dsimp only at hnx hol f0 f1
      obtain ⟨n, rfl⟩ : ∃ n : Nat, th = (n : Int) := ⟨th.toNat, by omega⟩
      have hn : n < 8 := by omega
      have hn8 : (n : Int) < 8 := by omega
      have hn0 : (0 : Int) ≤ n := by omega
      dsimp only at s1
      rw [Int.toNat_natCast] at hnx hol s1
      have x0 := hc 0 _ rfl
      have x1 := hc 1 _ rfl
      dsimp only at x0 x1
      simp only [Nat.add_zero] at x0
      have cl := s4.cell hn
      have fl : wr.frozen? ⟨w.heap.size, n, none⟩ = false := frozen_of_block s4 _
      have hbl : w.heap.size < wr.heap.size := lt_of_block s4
      generalize hB : lkF S n = B at *
      have hst : ((S.sd n).st = 3) ↔ B = true := by rw [← hB]; unfold lkF; rw [decide_eq_true_eq]
      clear hc he hf
      by_cases h5 : kd = 5
      · subst h5
        have hs1 : wpos st0 L 0 = acc ++ wpos (nextS S ⟨(n : Int), 5, ad, wd, own, er⟩) (L.drop (k + 1)) (k + 1) := by rw [if_neg (fun c => absurd c.1 (by decide))] at s1; exact s1
        have HL := s4.set hn true (C := lkF (nextS S ⟨(n : Int), 5, ad, wd, own, er⟩)) (fun j => by rw [hnx j]; rfl)
        have kE := (Keeps.refl (fun q => q = w.heap.size) wr).setCell (p := ⟨w.heap.size, n, none⟩) (.inr rfl) (.bool true)
        have HO : Hid (NR (wr.setCell ⟨w.heap.size, n, none⟩ (.bool true)) (w.heap.size + 1) u4 acc) := hO.out.keeps kE (fun q hq c => by have := (own_block hO.out.own hq).2; omega)
        have HS : Hid (∃ S, wpos st0 L 0 = acc ++ wpos S (L.drop (k + 1)) (k + 1) ∧ (chk S (L.drop (k + 1)) (k + 1)).2 = 0 ∧ S.t.length = 8 ∧ LkAt (wr.setCell ⟨w.heap.size, n, none⟩ (.bool true)) w.heap.size (lkF S)) := ⟨_, hs1, s2, h8, HL⟩
        have KR : Keeps (fun _ => False) w (wr.setCell ⟨w.heap.size, n, none⟩ (.bool true)) := kr.young kE (fun q c => by omega)
        have x1' := HX.out _ KR
        dsimp only at x1'
        obtain ⟨ub, uc, rfl⟩ := hO.out.form
        clear hS s1 s2 hs1 HL hO h8 hnx hol hst hB s4 kE
        go_wp2_with fail
        go_roundw
        · exact ⟨k + 1, acc, by simp, by omega, by omega, HO, HS, KR⟩
        · simp [intOf]; omega
      · have h5b : (kd == 5) = false := by rw [beq_eq_false_iff_ne]; exact h5
        by_cases h6 : kd = 6 ∧ B = true
        · obtain ⟨rfl, rfl⟩ := h6
          have hs1 : wpos st0 L 0 = (acc ++ [(k : Int)]) ++ wpos (nextS S ⟨(n : Int), 6, ad, wd, own, er⟩) (L.drop (k + 1)) (k + 1) := by rw [if_pos ⟨rfl, hst.2 rfl⟩] at s1; rw [s1]; simp
          have HL := s4.set hn false (C := lkF (nextS S ⟨(n : Int), 6, ad, wd, own, er⟩)) (fun j => by rw [hnx j]; rfl)
          have kE := (Keeps.refl (fun q => q = w.heap.size) wr).setCell (p := ⟨w.heap.size, n, none⟩) (.inr rfl) (.bool false)
          have hO1 : NR (wr.setCell ⟨w.heap.size, n, none⟩ (.bool false)) (w.heap.size + 1) u4 acc := hO.out.keeps kE (fun q hq c => by have := (own_block hO.out.own hq).2; omega)
          have KR : Keeps (fun _ => False) w (wr.setCell ⟨w.heap.size, n, none⟩ (.bool false)) := kr.young kE (fun q c => by omega)
          have hsz : (wr.setCell ⟨w.heap.size, n, none⟩ (.bool false)).heap.size = wr.heap.size := Nat.le_antisymm (by simp) kE.size
          obtain ⟨v', w3, r1, r2, r3⟩ := hO1.push (P := Tryd.prog) nC_len nC_one (by decide) Tryd.underlying54 info_nC rfl (by decide) (ty := 54) (k : Int) (cs := #[.int .i64 (k : Int)]) rfl (by omega)
          have hown : ∀ q, u4.ownBlock = some q → w.heap.size + 1 ≤ q := fun q hq => (own_block hO1.own hq).2
          have K3 : Keeps (fun q => w.heap.size + 1 ≤ q) (wr.setCell ⟨w.heap.size, n, none⟩ (.bool false)) w3 := r3.keeps.mono (fun q _ hq => hown q hq)
          have KR3 : Keeps (fun _ => False) w w3 := KR.young K3 (fun q hq => by omega)
          have HL3 : LkAt w3 w.heap.size (lkF (nextS S ⟨(n : Int), 6, ad, wd, own, er⟩)) := (K3.block _ (lt_of_block HL) (by omega)).trans HL
          have HS : Hid (∃ S, wpos st0 L 0 = (acc ++ [(k : Int)]) ++ wpos S (L.drop (k + 1)) (k + 1) ∧ (chk S (L.drop (k + 1)) (k + 1)).2 = 0 ∧ S.t.length = 8 ∧ LkAt w3 w.heap.size (lkF S)) := ⟨_, hs1, s2, h8, HL3⟩
          have HO : Hid (NR w3 (w.heap.size + 1) v' (acc ++ [(k : Int)])) := r2
          have hal2 : (acc ++ [(k : Int)]).length ≤ k + 1 := by simp; omega
          obtain ⟨ub, uc, rfl⟩ := hO1.form
          obtain ⟨⟨ya, yn, yc⟩, rfl, -⟩ := sl_of r2
          rw [hsz] at r1
          have HA : Hid (_ = _) := r1
          clear hS s1 s2 hs1 HL HL3 hO hO1 h8 hnx hol hst hB s4 kE KR K3 r1 r2 r3 hown
          go_wp2_with (at_builtin; refine wpList_append_run rfl _ _ 54 rfl rfl rfl HA.out ?_)
          go_roundw
          · exact ⟨k + 1, _, by simp, by omega, hal2, HO, HS, KR3⟩
          · simp [intOf]; omega
        · have hB2 : B = false := by
            apply Classical.byContradiction
            intro c
            have c1 : B = true := by cases B <;> simp_all
            exact h6 ⟨hol c1, c1⟩
          subst hB2
          have hs1 : wpos st0 L 0 = acc ++ wpos (nextS S ⟨(n : Int), kd, ad, wd, own, er⟩) (L.drop (k + 1)) (k + 1) := by rw [if_neg (fun c => absurd (hst.1 c.2) (by decide))] at s1; exact s1
          have HL : LkAt wr w.heap.size (lkF (nextS S ⟨(n : Int), kd, ad, wd, own, er⟩)) := by
            have : lkF (nextS S ⟨(n : Int), kd, ad, wd, own, er⟩) = lkF S := by
              funext j
              rw [hnx j]
              by_cases hj : j = n
              · rw [if_pos hj, hj, hB]; simp [h5]
              · rw [if_neg hj]
            rw [this]; exact s4
          have HS : Hid (∃ S, wpos st0 L 0 = acc ++ wpos S (L.drop (k + 1)) (k + 1) ∧ (chk S (L.drop (k + 1)) (k + 1)).2 = 0 ∧ S.t.length = 8 ∧ LkAt wr w.heap.size (lkF S)) := ⟨_, hs1, s2, h8, HL⟩
          obtain ⟨ub, uc, rfl⟩ := hO.out.form
          clear hS s1 s2 hs1 HL h8 hnx hol hst hB s4 h6
          by_cases h6 : kd = 6
          · subst h6
            go_wp2_with fail
            go_roundw
            · exact ⟨k + 1, acc, by simp, by omega, by omega, hO, HS, kr⟩
            · simp [intOf]; omega
          · have h6b : (kd == 6) = false := by rw [beq_eq_false_iff_ne]; exact h6
            go_wp2_with fail
            go_roundw
            · exact ⟨k + 1, acc, by simp, by omega, by omega, hO, HS, kr⟩
            · simp [intOf]; omega
    · obtain rfl : k = L.length := by omega
      obtain ⟨S, s1, -, -, -⟩ := hS.out
      have HF : Hid (NR wr w.heap.size u4 (wpos st0 L 0)) := by
        rw [List.drop_length, wpos, List.append_nil] at s1
        rw [s1]; exact hO.out.lowE (by omega)
      obtain ⟨ub, uc, rfl⟩ := hO.out.form
      clear hO hS s1
      go_wp2_with fail
      go_ret
      exact ⟨_, rfl, HF.out, kr⟩
end Go.Proofs.YtjmmjkoloioddaaDoor
