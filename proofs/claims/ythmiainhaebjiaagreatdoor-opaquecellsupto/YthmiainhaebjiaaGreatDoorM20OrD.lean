/-
  No statement of the seat is proved here. (Several texts in one: OrD, OrE, OrF.)
-/
import Derived.Test.YthmiainhaebjiaaGreatDoorM19OpQ
import Derived.Test.YthmiainhaebjiaaGreatDoorM07OpE
import Derived.Lib.SliceRun

/- The order of cells: the closure of never, cmp.Or, the library's sort at cells (layer 16). No statement of the seat is proved here. -/
namespace Go.Proofs.YthmiainhaebjiaaGreatDoor
open Go.RowKit Go.Shelf Go.Sort

set_option maxRecDepth 100000 in
set_option maxHeartbeats 4000000 in
theorem cmpU_any (x y : Int) (w : World) : Calls Tryz.prog 58 #[.int .u64 x, .int .u64 y] w fun e w' => e = .returned (.int .i64 (cmpI x y)) ∧ w' = w := by
  unfold cmpI
  by_cases h1 : x < y
  · rw [if_pos h1]
    go_enter Tryz.func58, Tryz.ntmps58
    go_wp2
    go_ret
    exact ⟨rfl, rfl⟩
  · rw [if_neg h1]
    by_cases h2 : y < x
    · rw [if_pos h2]
      have h3 : x > y := h2
      go_enter Tryz.func58, Tryz.ntmps58
      go_wp2
      go_ret
      exact ⟨rfl, rfl⟩
    · rw [if_neg h2]
      have h3 : ¬ x > y := h2
      go_enter Tryz.func58, Tryz.ntmps58
      go_wp2
      go_ret
      exact ⟨rfl, rfl⟩
/-- The first of two that is not nought. -/
def orI (x y : Int) : Int := if x = 0 then y else x
set_option maxRecDepth 100000 in
set_option maxHeartbeats 4000000 in
theorem or_any (x y : Int) (g : Nat) (w : World) (c0 : w.cell? ⟨g, 0, none⟩ = some (.int .i64 x)) (c1 : w.cell? ⟨g, 1, none⟩ = some (.int .i64 y)) : Calls Tryz.prog 57 #[.slice (some ⟨g, 0, none⟩) 2 2] w fun e w' => e = .returned (.int .i64 (orI x y)) ∧ w' = w := by
  obtain ⟨z, hz⟩ : ∃ z, z = orI x y := ⟨_, rfl⟩
  rw [← hz]
  have HZ : Hid (z = orI x y) := hz
  have HC : Hid (∀ k (hk : k < [x, y].length), w.cell? ⟨g, k, none⟩ = some (.int .i64 ([x, y][k]))) := fun k hk => by
    match k, hk with
    | 0, _ => exact c0
    | 1, _ => exact c1
  clear hz c0 c1
  go_enter Tryz.func57, Tryz.ntmps57
  go_wp2_with fail
  go_loopw [8] (fun u wr => ∃ k : Nat, u = .int .i64 k ∧ k ≤ 2 ∧ Hid (wr = w) ∧ Hid (∀ i (hi : i < [x, y].length), i < k → [x, y][i] = 0)) (fun u _ => 2 - (intOf u).toNat)
  case atStart => exact ⟨0, rfl, by omega, rfl, fun i hi h => by omega⟩
  case round =>
    obtain ⟨k, rfl, hk, hw, hx⟩ := hrel
    by_cases h2 : k < 2
    · have hki : (k : Int) < 2 := by omega
      have hk0 : (0 : Int) ≤ k := by omega
      have hkl : k < [x, y].length := h2
      have cK := HC.out k hkl
      rw [← hw.out] at cK
      by_cases hv : [x, y][k]'hkl = 0
      · have HF : Hid (∀ i (hi : i < [x, y].length), i < k + 1 → [x, y][i] = 0) := fun i hi h => by
          by_cases hik : i = k
          · subst hik; exact hv
          · exact hx.out i hi (by omega)
        rw [hv] at cK
        clear hx hv
        go_wp2_with fail
        go_roundw
        · exact ⟨k + 1, by simp, by omega, hw, HF⟩
        · simp [intOf]; omega
      · have HF : Hid (z = [x, y][k]'hkl) := by
          unfold Hid
          rw [HZ.out]
          unfold orI
          match k, hkl with
          | 0, _ => rw [if_neg (show ¬ x = 0 from hv)]; rfl
          | 1, _ => rw [if_pos (show x = 0 from hx.out 0 (by simp) (by omega))]; rfl
        generalize [x, y][k]'hkl = v at *
        have hvb : (v == 0) = false := by rw [beq_eq_false_iff_ne]; exact hv
        have hvn : (v != 0) = true := by rw [bne_iff_ne]; exact hv
        clear hx hv HZ
        go_wp2_with fail
        go_ret
        exact ⟨by rw [HF.out]; rfl, hw.out⟩
    · have hki : ¬ (k : Int) < 2 := by omega
      have HF : Hid (z = 0) := by
        unfold Hid
        rw [HZ.out]
        unfold orI
        rw [if_pos (show x = 0 from hx.out 0 (by simp) (by omega))]
        exact hx.out 1 (by simp) (by omega)
      clear hx HZ
      go_wp2_with fail
      go_ret
      exact ⟨by rw [HF.out]; rfl, hw.out⟩
/-- Two cells, by address, then by word. -/
def ccI (x y : Int × Int) : Int := orI (cmpI x.1 y.1) (cmpI x.2 y.2)
theorem cmpI_ltD (x y : Int) : cmpI x y < 0 ↔ x < y := by
  unfold cmpI
  split
  · omega
  · split <;> omega
theorem cmpI_eqD (x y : Int) : cmpI x y = 0 ↔ x = y := by
  unfold cmpI
  split
  · omega
  · split <;> omega
theorem ltCC (x y : Int × Int) : ltOf ccI x y = decide (x.1 < y.1 ∨ x.1 = y.1 ∧ x.2 < y.2) := by
  unfold ltOf ccI orI
  rw [Bool.eq_iff_iff, decide_eq_true_eq, decide_eq_true_eq]
  by_cases h : cmpI x.1 y.1 = 0
  · rw [if_pos h, cmpI_ltD]
    rw [cmpI_eqD] at h
    omega
  · rw [if_neg h, cmpI_ltD]
    rw [cmpI_eqD] at h
    omega
theorem swoCC : SWO (ltOf ccI) where
  irrefl x := by rw [ltCC]; simp
  trans x y z h1 h2 := by rw [ltCC] at *; simp at *; omega
  ntrans x y z h1 h2 := by rw [ltCC] at *; simp at *; omega
set_option maxRecDepth 100000 in
set_option maxHeartbeats 8000000 in
theorem cmpCC_at (x y : Int × Int) (w : World) : Calls Tryz.prog 56 #[.agg #[.int .u64 x.1, .int .u64 x.2], .agg #[.int .u64 y.1, .int .u64 y.2]] w fun ex w' => ex = .returned (.int .i64 (ccI x y)) ∧ w' = ((((w.alloc (.cells #[.int .u64 x.1, .int .u64 x.2] 28)).alloc (.cells #[.int .u64 y.1, .int .u64 y.2] 28)).drew).alloc (.cells #[.int .i64 (cmpI x.1 y.1), .int .i64 (cmpI x.2 y.2)] 3)) := by
  obtain ⟨a, b⟩ := x
  obtain ⟨c, d⟩ := y
  dsimp only
  unfold ccI
  dsimp only
  have C1 := fun X => cmpU_any a c X
  have C2 := fun X => cmpU_any b d X
  have OR := fun X g h0 h1 => or_any (cmpI a c) (cmpI b d) g X h0 h1
  generalize cmpI a c = p at *
  generalize cmpI b d = q at *
  generalize orI p q = z at *
  obtain ⟨A, hA⟩ : ∃ A, A = (w.alloc (.cells #[.int .u64 a, .int .u64 b] 28)).alloc (.cells #[.int .u64 c, .int .u64 d] 28) := ⟨_, rfl⟩
  have hsz : A.heap.size = w.heap.size + 2 := by rw [hA]; simp
  have c0 : A.cell? ⟨w.heap.size, 0, none⟩ = some (.int .u64 a) := by rw [hA]; go_simp
  have c1 : A.cell? ⟨w.heap.size, 1, none⟩ = some (.int .u64 b) := by rw [hA]; go_simp
  have c2 : A.cell? ⟨w.heap.size + 1, 0, none⟩ = some (.int .u64 c) := by rw [hA]; go_simp
  have c3 : A.cell? ⟨w.heap.size + 1, 1, none⟩ = some (.int .u64 d) := by rw [hA]; go_simp
  have HA : Hid (A = _) := hA
  rw [← hA]
  clear hA
  go_enter Tryz.func56, Tryz.ntmps56
  go_wp2_with fail
  rw [← HA.out]
  clear HA
  have S0 : (A.drew).cell? ⟨w.heap.size, 0, none⟩ = some (.int .u64 a) ∧ (A.drew).cell? ⟨w.heap.size, 1, none⟩ = some (.int .u64 b) ∧ (A.drew).cell? ⟨w.heap.size + 1, 0, none⟩ = some (.int .u64 c) ∧ (A.drew).cell? ⟨w.heap.size + 1, 1, none⟩ = some (.int .u64 d) := ⟨c0, c1, c2, c3⟩
  refine wp_held_end (S := fun W : World => W.cell? ⟨w.heap.size, 0, none⟩ = some (.int .u64 a) ∧ W.cell? ⟨w.heap.size, 1, none⟩ = some (.int .u64 b) ∧ W.cell? ⟨w.heap.size + 1, 0, none⟩ = some (.int .u64 c) ∧ W.cell? ⟨w.heap.size + 1, 1, none⟩ = some (.int .u64 d)) 13 rfl hmxp ?_
  simp only [Array.replicate_succ, Array.replicate_zero, List.push_toArray, List.nil_append, List.cons_append]
  refine held_take (i := 0) (v := (.pointer (some ⟨w.heap.size, 0, none⟩))) 5 rfl rfl (by kernel_rfl) (by kernel_rfl) (by kernel_rfl) rfl (fun w' hw' => by obtain ⟨q0, q1, q2, q3⟩ := hw'; go_simp) S0 ?_
  simp only [Act.put, List.setIfInBounds_toArray, List.set_cons_zero, List.set_cons_succ]
  refine held_take (i := 1) (v := (.int .u64 a)) 6 rfl rfl (by kernel_rfl) (by kernel_rfl) (by kernel_rfl) rfl (fun w' hw' => by obtain ⟨q0, q1, q2, q3⟩ := hw'; go_simp) S0 ?_
  simp only [Act.put, List.setIfInBounds_toArray, List.set_cons_zero, List.set_cons_succ]
  refine held_take (i := 2) (v := (.pointer (some ⟨w.heap.size + 1, 0, none⟩))) 7 rfl rfl (by kernel_rfl) (by kernel_rfl) (by kernel_rfl) rfl (fun w' hw' => by obtain ⟨q0, q1, q2, q3⟩ := hw'; go_simp) S0 ?_
  simp only [Act.put, List.setIfInBounds_toArray, List.set_cons_zero, List.set_cons_succ]
  refine held_take (i := 3) (v := (.int .u64 c)) 8 rfl rfl (by kernel_rfl) (by kernel_rfl) (by kernel_rfl) rfl (fun w' hw' => by obtain ⟨q0, q1, q2, q3⟩ := hw'; go_simp) S0 ?_
  simp only [Act.put, List.setIfInBounds_toArray, List.set_cons_zero, List.set_cons_succ]
  refine held_take (i := 5) (v := (.pointer (some ⟨w.heap.size, 1, none⟩))) 10 rfl rfl (by kernel_rfl) (by kernel_rfl) (by kernel_rfl) rfl (fun w' hw' => by obtain ⟨q0, q1, q2, q3⟩ := hw'; go_simp) S0 ?_
  simp only [Act.put, List.setIfInBounds_toArray, List.set_cons_zero, List.set_cons_succ]
  refine held_take (i := 6) (v := (.int .u64 b)) 11 rfl rfl (by kernel_rfl) (by kernel_rfl) (by kernel_rfl) rfl (fun w' hw' => by obtain ⟨q0, q1, q2, q3⟩ := hw'; go_simp) S0 ?_
  simp only [Act.put, List.setIfInBounds_toArray, List.set_cons_zero, List.set_cons_succ]
  refine held_take (i := 7) (v := (.pointer (some ⟨w.heap.size + 1, 1, none⟩))) 12 rfl rfl (by kernel_rfl) (by kernel_rfl) (by kernel_rfl) rfl (fun w' hw' => by obtain ⟨q0, q1, q2, q3⟩ := hw'; go_simp) S0 ?_
  simp only [Act.put, List.setIfInBounds_toArray, List.set_cons_zero, List.set_cons_succ]
  refine held_take (i := 8) (v := (.int .u64 d)) 13 rfl rfl (by kernel_rfl) (by kernel_rfl) (by kernel_rfl) rfl (fun w' hw' => by obtain ⟨q0, q1, q2, q3⟩ := hw'; go_simp) S0 ?_
  simp only [Act.put, List.setIfInBounds_toArray, List.set_cons_zero, List.set_cons_succ]
  refine held_call (i := 4) (f := 58) (args := #[.int .u64 a, .int .u64 c]) 9 (by kernel_rfl) rfl rfl rfl (by go_simp) ((C1 _).mono ?_)
  rintro ex w2 ⟨rfl, rfl⟩
  refine ⟨_, rfl, S0, ?_⟩
  simp only [Act.put, List.setIfInBounds_toArray, List.set_cons_zero, List.set_cons_succ]
  refine held_call (i := 9) (f := 58) (args := #[.int .u64 b, .int .u64 d]) 14 (by kernel_rfl) rfl rfl rfl (by go_simp) ((C2 _).mono ?_)
  rintro ex w2 ⟨rfl, rfl⟩
  refine ⟨_, rfl, S0, ?_⟩
  simp only [Act.put, List.setIfInBounds_toArray, List.set_cons_zero, List.set_cons_succ]
  have kX := (Keeps.refl (fun _ => False) A.drew).alloc (.cells #[.int .i64 p, .int .i64 q] 3)
  have bX := (MapKept.heap_alloc A.drew (.cells #[.int .i64 p, .int .i64 q] 3)).1
  have S1 : (A.drew.alloc (.cells #[.int .i64 p, .int .i64 q] 3)).cell? ⟨w.heap.size, 0, none⟩ = some (.int .u64 a) ∧ (A.drew.alloc (.cells #[.int .i64 p, .int .i64 q] 3)).cell? ⟨w.heap.size, 1, none⟩ = some (.int .u64 b) ∧ (A.drew.alloc (.cells #[.int .i64 p, .int .i64 q] 3)).cell? ⟨w.heap.size + 1, 0, none⟩ = some (.int .u64 c) ∧ (A.drew.alloc (.cells #[.int .i64 p, .int .i64 q] 3)).cell? ⟨w.heap.size + 1, 1, none⟩ = some (.int .u64 d) := ⟨kX.cellB (fun f => f) S0.1, kX.cellB (fun f => f) S0.2.1, kX.cellB (fun f => f) S0.2.2.1, kX.cellB (fun f => f) S0.2.2.2⟩
  refine held_val (i := 10) (v := (.slice (some ⟨A.drew.heap.size, 0, none⟩) 2 2)) (w' := A.drew.alloc (.cells #[.int .i64 p, .int .i64 q] 3)) (some 15) (by kernel_rfl) rfl rfl rfl (by go_simp) S1 ?_
  simp only [Act.put, List.setIfInBounds_toArray, List.set_cons_zero, List.set_cons_succ]
  refine held_call (i := 11) (f := 57) (args := #[.slice (some ⟨A.drew.heap.size, 0, none⟩) 2 2]) 16 (by kernel_rfl) rfl rfl rfl (by go_simp) ((OR _ A.drew.heap.size (by rw [cell_of_block bX]; rfl) (by rw [cell_of_block bX]; rfl)).mono ?_)
  rintro ex w2 ⟨rfl, rfl⟩
  refine ⟨_, rfl, S1, ?_⟩
  simp only [Act.put, List.setIfInBounds_toArray, List.set_cons_zero, List.set_cons_succ]
  refine held_take (i := 12) (v := (.int .i64 z)) 4 rfl rfl (by kernel_rfl) (by kernel_rfl) (by kernel_rfl) rfl (fun w' hw' => by obtain ⟨q0, q1, q2, q3⟩ := hw'; go_simp) S1 ?_
  simp only [Act.put, List.setIfInBounds_toArray, List.set_cons_zero, List.set_cons_succ]
  refine held_end (by kernel_rfl) ?_ _
  go_wp2_with fail
  go_ret
  exact ⟨rfl, rfl⟩
theorem sortC_any {w : World} {base : Nat} {v : Value} (Z : List (Int × Int)) (hl : Z.length ≤ 2000000000000) (h : OwnR clC 2 28 w base v Z) :
    Calls Tryz.prog 55 #[v, .func (.func 56) #[] #[]] w fun e w' => e = .returned (.tuple #[]) ∧ ∃ Y : List (Int × Int), OwnR clC 2 28 w' base v Y ∧ Y.Perm Z ∧ Y.Pairwise (fun p q => p.1 < q.1 ∨ p.1 = q.1 ∧ p.2 ≤ q.2) ∧ Keeps (fun q => v.ownBlock = some q) w w' := by
  by_cases hL : Z = []
  · subst hL
    obtain ⟨b, cp, rfl⟩ := h.form
    refine (AnyF.slices_SortFunc_none (P := Tryz.prog) (ρ := laysC6_ren) laysC6 b cp _ w).mono fun e w' ⟨h1, h2⟩ => ?_
    subst h2
    exact ⟨h1, [], h, .refl _, List.Pairwise.nil, Keeps.refl _ _⟩
  · have hlen : 0 < Z.length := List.length_pos_iff.2 hL
    obtain ⟨g, cap, cur, rfl, hbg, hgb, hgs⟩ := h.at hlen
    have hH := holdsK_own (by decide) cl_len h
    have eg : ∀ args w, (callFunc 56 args).run Tryz.prog w = .ok (.enter 56 args) w := enters_of Tryz.func56 (by kernel_rfl) rfl
    have hcmp : CmpLays Tryz.prog 56 #[] clC 2 ccI g 0 Z.toArray.size w := fun m os dk hs x y => by
      refine (cmpCC_at x y _).mono fun ex w' ⟨h1, h2⟩ => ?_
      have e1 : ∀ X : World, (((X.alloc (.cells #[.int .u64 x.1, .int .u64 x.2] 28)).alloc (.cells #[.int .u64 y.1, .int .u64 y.2] 28)).drew).alloc (.cells #[.int .i64 (cmpI x.1 y.1), .int .i64 (cmpI x.2 y.2)] 3) = (((X.drewN 1).alloc (.cells #[.int .u64 x.1, .int .u64 x.2] 28)).alloc (.cells #[.int .u64 y.1, .int .u64 y.2] 28)).alloc (.cells #[.int .i64 (cmpI x.1 y.1), .int .i64 (cmpI x.2 y.2)] 3) := fun X => rfl
      rw [e1, alloc_eq_grow, alloc_eq_grow, alloc_eq_grow, grow_grow, grow_grow] at h2
      exact ⟨h1, 1, _, h2⟩
    have hsz : Z.toArray.size = Z.length := by simp
    have C := AnyQ.slices_SortFunc (P := Tryz.prog) (ρ := laysC6_ren) laysC6 2 Tryz.isAgg28 Tryz.sizeOf28 clC cl_len cl_one ccI swoCC 56 #[] g 0 cap Z.toArray w eg hcmp hH (lt_of_block hgb) (by rw [hsz]; omega)
    rw [hsz] at C
    refine C.mono fun e w' ⟨h1, d', n, os, hp, hs, hw⟩ => ?_
    obtain ⟨hz1, _, hperm⟩ := hp
    rw [hsz] at hz1
    have e1 : d'.extract 0 Z.length = d' := by rw [← hz1]; exact Array.extract_size
    have e2 : Z.toArray.extract 0 Z.length = Z.toArray := by rw [← hsz]; exact Array.extract_size
    rw [e1, e2] at hperm
    have hdl : d'.toList.length = Z.length := by simpa using hz1
    have hso := own_sortedK (c := clC) (sz := 2) (by decide) cl_len (m := n) (os := os) (M := d'.toList) hdl h
    rw [show d'.toList.toArray = d' by simp, ← hw] at hso
    refine ⟨h1, d'.toList, hso.1, by simpa using hperm, ?_, hso.2.mono fun q _ e => by rw [e]; rfl⟩
    rw [List.pairwise_iff_getElem]
    intro i j hi hj hij
    have hi' : i < d'.size := by simpa using hi
    have hj' : j < d'.size := by simpa using hj
    have := hs i j (Nat.zero_le _) hij (by omega)
    rw [getElem!_pos d' j hj', getElem!_pos d' i hi', ltCC] at this
    simp only [decide_eq_false_iff_not] at this
    simp only [Array.getElem_toList]
    omega
end Go.Proofs.YthmiainhaebjiaaGreatDoor


/- A walk of slices.Compact at cells (layer 16). No statement of the seat is proved here. -/
namespace Go.Proofs.YthmiainhaebjiaaGreatDoor
open Go.RowKit Go.Shelf

/-- The first so many of a list, each that is like the one ahead of it left out. -/
def ddP (Z : List (Int × Int)) : Nat → List (Int × Int)
  | 0 => []
  | m + 1 => if 0 < m ∧ Z[m]? = Z[m - 1]? then ddP Z m else ddP Z m ++ (Z[m]?).toList
theorem ddP_one {Z : List (Int × Int)} (h : 0 < Z.length) : ddP Z 1 = [Z[0]] := by
  rw [ddP, if_neg (by omega), ddP, List.getElem?_eq_getElem h]; rfl
theorem ddP_same {Z : List (Int × Int)} {m : Nat} (h : m + 1 < Z.length) (he : Z[m + 1] = Z[m]) : ddP Z (m + 2) = ddP Z (m + 1) := by
  rw [ddP, if_pos ⟨by omega, by rw [List.getElem?_eq_getElem h, Nat.add_sub_cancel, List.getElem?_eq_getElem (by omega), he]⟩]
theorem ddP_new {Z : List (Int × Int)} {m : Nat} (h : m + 1 < Z.length) (he : Z[m + 1] ≠ Z[m]) : ddP Z (m + 2) = ddP Z (m + 1) ++ [Z[m + 1]] := by
  rw [ddP, if_neg (fun c => he (by have := c.2; rw [List.getElem?_eq_getElem h, Nat.add_sub_cancel, List.getElem?_eq_getElem (by omega)] at this; exact Option.some.inj this)), List.getElem?_eq_getElem h]; rfl
theorem ddP_mem (Z : List (Int × Int)) (p : Int × Int) : ∀ m, m ≤ Z.length → (p ∈ ddP Z m ↔ p ∈ Z.take m)
  | 0, _ => by simp [ddP]
  | m + 1, hm => by
    have ih := ddP_mem Z p m (by omega)
    have hlt : m < Z.length := by omega
    rw [ddP, List.take_succ_eq_append_getElem hlt, List.mem_append, List.mem_singleton]
    split
    · rename_i h
      rw [ih]
      refine ⟨.inl, fun q => q.elim id fun e => ?_⟩
      obtain ⟨h0, h1⟩ := h
      rw [List.getElem?_eq_getElem hlt, List.getElem?_eq_getElem (show m - 1 < Z.length by omega)] at h1
      rw [e, Option.some.inj h1]
      exact List.mem_take_iff_getElem.2 ⟨m - 1, by omega, rfl⟩
    · rw [List.mem_append, ih, List.getElem?_eq_getElem hlt]
      simp
theorem eq_cellW (a b c d : Int) (w : World) : (Op.equalIn 10000 28 (.agg #[.int .u64 a, .int .u64 b]) (.agg #[.int .u64 c, .int .u64 d])).run Tryz.prog w = .ok (a == c && b == d) w := by
  have h : (Op.equalIn 10000 28 (.agg #[.int .u64 a, .int .u64 b]) (.agg #[.int .u64 c, .int .u64 d])).run Tryz.prog w = .ok (decide ((a, b) = (c, d))) w := eq_cellO (a, b) (c, d) w
  have e : decide ((a, b) = (c, d)) = (a == c && b == d) := by
    rw [Bool.eq_iff_iff]
    simp
  rw [h, e]
theorem own_cellC {w : World} {base g n cap : Nat} {M : List (Int × Int)} (h : OwnR clC 2 28 w base (.slice (some ⟨g, 0, none⟩) n cap) M) (j : Nat) (hj : j < M.length) : w.cell? ⟨g, j * 2, none⟩ = some (.int .u64 (M[j]).1) ∧ w.cell? ⟨g, j * 2 + 1, none⟩ = some (.int .u64 (M[j]).2) ∧ ∀ o, w.frozen? ⟨g, o, none⟩ = false := by
  obtain ⟨g', off, e, hc⟩ := (h.els cl_len).at j hj
  simp only [Option.some.injEq, Addr.mk.injEq, and_true] at e
  obtain ⟨rfl, rfl⟩ := e
  obtain ⟨g2, cap2, cur, hv, -, hb, -⟩ := h.at (by omega)
  simp only [Value.slice.injEq, Option.some.injEq, Addr.mk.injEq, and_true] at hv
  obtain ⟨rfl, -, -⟩ := hv
  have h0 := hc 0 _ rfl
  have h1 := hc 1 _ rfl
  simp only [Nat.zero_add, Nat.add_zero] at h0 h1
  exact ⟨h0, h1, fun o => frozen_of_block hb _⟩
theorem OwnR.setC {w : World} {base g n cap : Nat} {M : List (Int × Int)} (h : OwnR clC 2 28 w base (.slice (some ⟨g, 0, none⟩) n cap) M) (k : Nat) (y : Int × Int) (hk : k < M.length) :
    OwnR clC 2 28 ((w.setCell ⟨g, k * 2, none⟩ (.int .u64 y.1)).setCell ⟨g, k * 2 + 1, none⟩ (.int .u64 y.2)) base (.slice (some ⟨g, 0, none⟩) n cap) (M.set k y) := by
  have a0 := h.set cl_len k 0 (y.1, (M[k]).2) (.int .u64 y.1) hk (by decide) rfl
  have a1 := a0.set cl_len k 1 y (.int .u64 y.2) (by simpa using hk) (by decide) (by rw [List.getElem_set_self]; rfl)
  simp only [List.set_set, Nat.add_zero] at a1
  exact a1
theorem OwnR.cutC {α : Type} {c : α → List Value} {sz : Nat} {t : TypeId} (hc : ∀ x, (c x).length = sz) {w : World} {base g n cap : Nat} {M : List α} (h : OwnR c sz t w base (.slice (some ⟨g, 0, none⟩) n cap) M) (k : Nat) (hk : k ≤ M.length) : OwnR c sz t w base (.slice (some ⟨g, 0, none⟩) k cap) (M.take k) := by
  rcases h.own.2 with ⟨hv, h2⟩ | ⟨g', cap', cur, hv, h1, h2, h3, h4, h5, h6⟩
  · cases hv
  · simp only [Value.slice.injEq, Option.some.injEq, Addr.mk.injEq, and_true] at hv
    obtain ⟨rfl, -, rfl⟩ := hv
    have hl : (M.take k).length = k := by simp; omega
    refine ⟨⟨flatV_len hc _, .inr ⟨g, cap, cur, by rw [hl], h1, h2, by rw [hl]; omega, h4, h5, ?_⟩⟩, h.base⟩
    rw [hl]
    have e : cur.toList.take (k * sz) = (cur.toList.take (M.length * sz)).take (k * sz) := by rw [List.take_take, Nat.min_eq_left (Nat.mul_le_mul_right _ hk)]
    rw [e, h6]
    apply List.ext_getElem?
    intro j
    have hfl := flatV_len hc M
    have hfk := flatV_len hc (M.take k)
    rw [hl] at hfk
    by_cases hj : j < k * sz
    · rw [List.getElem?_take_of_lt hj]
      have hz : 0 < sz := by
        rcases Nat.eq_zero_or_pos sz with h | h
        · rw [h, Nat.mul_zero] at hj; omega
        · exact h
      have e2 : j = j / sz * sz + j % sz := by rw [Nat.mul_comm]; exact (Nat.div_add_mod j sz).symm
      have hd : j / sz < k := (Nat.div_lt_iff_lt_mul hz).2 hj
      rw [e2, flatV_at hc M (j / sz) (j % sz) (by omega) (Nat.mod_lt _ hz), flatV_at hc (M.take k) (j / sz) (j % sz) (by omega) (Nat.mod_lt _ hz), List.getElem_take]
    · rw [List.getElem?_take_eq_none (by omega), List.getElem?_eq_none (by omega)]
end Go.Proofs.YthmiainhaebjiaaGreatDoor


/- A walk of slices.Compact at cells (layer 16). No statement of the seat is proved here. -/
namespace Go.Proofs.YthmiainhaebjiaaGreatDoor
open Go.RowKit Go.Shelf

theorem cells_keepsC {g : Nat} : ∀ (vs : List Value) (o : Nat) (w : World), Keeps (fun q => q = g) w (w.setCells g o vs)
  | [], _, w => Keeps.refl _ w
  | v :: vs, o, w => ((Keeps.refl (fun q => q = g) w).setCell (p := ⟨g, o, none⟩) (.inr rfl) v).trans (cells_keepsC vs (o + 1) _)
theorem setCells_ahead {α : Type} {c : α → List Value} {sz : Nat} {t : TypeId} {g n cap : Nat} {M : List α} : ∀ (vs : List Value) (o : Nat) (w : World) (base : Nat), M.length * sz ≤ o → OwnR c sz t w base (.slice (some ⟨g, 0, none⟩) n cap) M → OwnR c sz t (w.setCells g o vs) base (.slice (some ⟨g, 0, none⟩) n cap) M
  | [], _, _, _, _, h => h
  | v :: vs, o, w, base, ho, h => by
    refine setCells_ahead vs (o + 1) _ base (by omega) ?_
    rcases h.own.2 with ⟨hv, h2⟩ | ⟨g', cap', cur, hv, h1, h2, h3, h4, h5, h6⟩
    · cases hv
    · simp only [Value.slice.injEq, Option.some.injEq, Addr.mk.injEq, and_true] at hv
      obtain ⟨rfl, hn, rfl⟩ := hv
      refine ⟨⟨h.own.1, .inr ⟨g, cap, cur.setIfInBounds o v, by rw [hn], h1, block_set h2 _ _, h3, h4, by simpa using h5, ?_⟩⟩, by simpa using h.base⟩
      rw [← h6, Array.toList_setIfInBounds, List.take_set_of_le ho]
/-- clear of the rest of a row. -/
theorem run_clearC {w : World} {base g n cap k : Nat} {M : List (Int × Int)} (h : OwnR clC 2 28 w base (.slice (some ⟨g, 0, none⟩) n cap) M) (hk : k < M.length) (c : Nat) :
    ∃ w', (Builtin.clear_ #[24] 0 #[.slice (some ⟨g, k * 2, none⟩) (M.length - k) c]).run Tryz.prog w = .ok (.tuple #[]) w' ∧ OwnR clC 2 28 w' base (.slice (some ⟨g, 0, none⟩) k cap) (M.take k) ∧ Keeps (fun q => q = g) w w' := by
  obtain ⟨i0, hi, hz0, hz1, hz2⟩ := info_parts info_cl
  have hzv : ∀ w, (zeroValue 28).run Tryz.prog w = .ok (.agg #[.int .u64 0, .int .u64 0]) w := fun w => by
    have := Tryz.zeroValue28
    go_simp
  obtain ⟨g2, cap2, cur, hv, -, hb, hcur⟩ := h.at (by omega)
  simp only [Value.slice.injEq, Option.some.injEq, Addr.mk.injEq, and_true] at hv
  obtain ⟨rfl, -, rfl⟩ := hv
  obtain ⟨m, hm⟩ : ∃ m, M.length - k = m + 1 := ⟨M.length - k - 1, by omega⟩
  have hcl : ((Builtin.zeroCells (Value.agg #[.int .u64 0, .int .u64 0]).cells (m + 1)).toList).length = (m + 1) * 2 := by simp [Builtin.zeroCells, Value.cells]
  have hst := run_storeCells_cells (P := Tryz.prog) g (k * 2) (Builtin.zeroCells (Value.agg #[.int .u64 0, .int .u64 0]).cells (m + 1)).toList 0 w (fun j hj => by
    rw [hcl] at hj
    rw [Nat.add_zero, cell_of_block hb, Array.getElem?_eq_getElem (by omega)]; rfl) (fun j hj => frozen_of_block hb _) (by
    intro u hu
    simp [Builtin.zeroCells, Value.cells] at hu
    obtain ⟨i, hi, rfl⟩ := hu
    rcases Nat.mod_two_eq_zero_or_one i with q | q <;> simp [q, Value.oneCell'])
  simp only [Nat.add_zero] at hst
  have hkM : k ≤ M.length := by omega
  refine ⟨w.setCells g (k * 2) (Builtin.zeroCells (Value.agg #[.int .u64 0, .int .u64 0]).cells (m + 1)).toList, ?_, setCells_ahead (c := clC) _ (k * 2) w base (by rw [List.length_take]; have := Nat.min_le_left k M.length; omega) (h.cutC cl_len k hkM), cells_keepsC _ _ _⟩
  rw [hm]
  simp [Builtin.clear_, run_underlying Tryz.underlying24, hzv, hst]
set_option maxRecDepth 100000 in
set_option maxHeartbeats 8000000 in
theorem compact_any {w : World} {base : Nat} {v : Value} (Z : List (Int × Int)) (hl : Z.length ≤ 2000000000000) (h : OwnR clC 2 28 w base v Z) :
    Calls Tryz.prog 59 #[v] w fun e w' => ∃ u, e = .returned u ∧ OwnR clC 2 28 w' base u (ddP Z Z.length) ∧ Keeps (fun q => v.ownBlock = some q) w w' := by
  obtain ⟨b, cp, rfl⟩ := h.form
  by_cases h2 : Z.length < 2
  · have hdd : ddP Z Z.length = Z := by
      match Z, h2 with
      | [], _ => rfl
      | [x], _ => exact ddP_one (Z := [x]) (by simp)
    have h2i : (Z.length : Int) < 2 := by omega
    have HF : Hid (OwnR clC 2 28 w base (.slice b Z.length cp) (ddP Z Z.length)) := by unfold Hid; rw [hdd]; exact h
    clear h hdd
    go_enter Tryz.func59, Tryz.ntmps59
    go_wp2_with fail
    go_ret
    exact ⟨_, rfl, HF.out, Keeps.refl _ _⟩
  · have h2i : ¬ (Z.length : Int) < 2 := by omega
    obtain ⟨g, cap, cur, hv, hbg, hgb, -⟩ := h.at (by omega)
    simp only [Value.slice.injEq] at hv
    obtain ⟨rfl, -, rfl⟩ := hv
    have hcap : Z.length ≤ cp := by
      obtain ⟨a', c', hv', hl', _⟩ := (h.els cl_len).form
      simp only [Value.slice.injEq] at hv'
      obtain ⟨-, -, rfl⟩ := hv'
      exact hl'
    obtain ⟨n, hn⟩ : ∃ n, n = Z.length := ⟨_, rfl⟩
    rw [← hn] at h h2i hcap hl ⊢
    have HN : Hid (n = Z.length) := hn
    have hn2 : 2 ≤ n := by omega
    have HH : Hid (OwnR clC 2 28 w base (.slice (some ⟨g, 0, none⟩) n cp) Z) := h
    have HD1 : Hid (ddP Z 1 = Z.take 1) := by unfold Hid; rw [ddP_one (by omega), List.take_succ_eq_append_getElem (by omega)]; rfl
    have EQ := eq_cellW
    clear h h2 hgb hn
    go_enter Tryz.func59, Tryz.ntmps59
    go_wp2_with fail
    go_loopw [3] (fun u wr => ∃ p K : Nat, u = .int .i64 (K : Int) ∧ K ≤ n ∧ p < K ∧ Hid (K = p + 1 ∧ ddP Z K = Z.take K) ∧ Hid (OwnR clC 2 28 wr base (.slice (some ⟨g, 0, none⟩) n cp) Z) ∧ Keeps (fun q => q = g) w wr) (fun u _ => n - (intOf u).toNat)
    case atStart => exact ⟨0, 1, rfl, by omega, by omega, ⟨rfl, HD1.out⟩, HH, Keeps.refl _ _⟩
    case round =>
      clear HH HD1
      obtain ⟨p, K, rfl, hKn, hpK, hd, hO, kr⟩ := hrel
      generalize wr = Wo at *
      have hK0 : (0 : Int) ≤ (K : Int) := by omega
      have hp00 : (0 : Int) ≤ p := by omega
      have hpp : (p : Int) < n := by omega
      have hw1 : IntKind.i64.wrap ((K : Int) - 1) = (p : Int) := by rw [IntKind.wrap_i64]; have := hd.out.1; omega
      have hw2 : IntKind.i64.wrap ((K : Int) + 1) = (K : Int) + 1 := by rw [IntKind.wrap_i64]; omega
      by_cases hlt : K < n
      · have hpi : (K : Int) < n := by omega
        have hKZ : K < Z.length := by rw [← HN.out]; exact hlt
        have hpZ : p < Z.length := by omega
        have hpZ1 : p + 1 < Z.length := by have := hd.out.1; omega
        obtain ⟨x0, x1, fz⟩ := own_cellC hO.out K hKZ
        obtain ⟨y0, y1, -⟩ := own_cellC hO.out p hpZ
        have hZK : Z[K]'hKZ = Z[p + 1]'hpZ1 := by congr 1; exact hd.out.1
        by_cases he : Z[K]'hKZ = Z[p]'hpZ
        · have HO0 : Hid (∃ M : List (Int × Int), M.length = n ∧ OwnR clC 2 28 Wo.drew base (.slice (some ⟨g, 0, none⟩) n cp) M ∧ M.take K = ddP Z (K + 0 + 1) ∧ (∀ i, K + 0 ≤ i → M[i]? = Z[i]?)) := by
            refine ⟨Z, HN.out.symm, hO.out.keeps ((Keeps.refl (fun _ => False) Wo).drew) (fun _ _ f => f), ?_, fun _ _ => rfl⟩
            rw [← hd.out.2, hd.out.1, Nat.add_zero]
            exact (ddP_same hpZ1 (by rw [← hZK, he])).symm
          have KD : Keeps (fun q => q = g) w Wo.drew := kr.drew
          rw [← he] at y0 y1
          generalize Z[K]'hKZ = xa at *
          obtain ⟨xa1, xa2⟩ := xa
          dsimp only at x0 x1 y0 y1
          have hS0 : Wo.cell? ⟨g, K * 2, none⟩ = some (.int .u64 xa1) ∧ Wo.cell? ⟨g, K * 2 + 1, none⟩ = some (.int .u64 xa2) ∧ Wo.cell? ⟨g, p * 2, none⟩ = some (.int .u64 xa1) ∧ Wo.cell? ⟨g, p * 2 + 1, none⟩ = some (.int .u64 xa2) := ⟨x0, x1, y0, y1⟩
          have heb : (xa1 == xa1 && xa2 == xa2) = true := by simp
          have hKni : (K : Int) ≤ (n : Int) := by omega
          have hKc : (K : Int) ≤ (cp : Int) := by omega
          have hnc : (n : Int) ≤ (cp : Int) := by omega
          have hcK : ¬ cp = K := by omega
          have hcK2 : ¬ (cp : Int) = (K : Int) := by omega
          clear he hO kr hZK
          go_wp2_with fail
          go_region_held3 (fun W : World => W.cell? ⟨g, K * 2, none⟩ = some (.int .u64 xa1) ∧ W.cell? ⟨g, K * 2 + 1, none⟩ = some (.int .u64 xa2) ∧ W.cell? ⟨g, p * 2, none⟩ = some (.int .u64 xa1) ∧ W.cell? ⟨g, p * 2 + 1, none⟩ = some (.int .u64 xa2)) (first | assumption | (exact hS0) | go_keep) (fail)
          go_wp2_with fail
          go_loopw [3, 5] (fun u3 u5 wr => ∃ kk q Q : Nat, u3 = .int .i64 (kk : Int) ∧ u5 = .int .i64 (Q : Int) ∧ Q ≤ n - K ∧ q < Q ∧ kk ≤ K + q ∧ Hid (Q = q + 1 ∧ ∃ M : List (Int × Int), M.length = n ∧ OwnR clC 2 28 wr base (.slice (some ⟨g, 0, none⟩) n cp) M ∧ M.take kk = ddP Z (K + q + 1) ∧ (∀ i, K + q ≤ i → M[i]? = Z[i]?)) ∧ Keeps (fun q => q = g) w wr) (fun _ u5 _ => n - K - (intOf u5).toNat)
          case atStart => exact ⟨K, 0, 1, rfl, rfl, by omega, by omega, by omega, ⟨rfl, HO0.out⟩, KD⟩
          case round =>
            clear HO0 KD x0 x1 y0 y1 hS0 heb
            obtain ⟨kk, q, Q, rfl, rfl, hQ, hqQ, hkk, hM, kz⟩ := hrel
            have hQ0 : (0 : Int) ≤ (Q : Int) := by omega
            have hq0 : (0 : Int) ≤ (q : Int) := by omega
            have hk0 : (0 : Int) ≤ (kk : Int) := by omega
            have hkn : (kk : Int) < (n : Int) := by omega
            have hw3 : IntKind.i64.wrap ((Q : Int) - 1) = (q : Int) := by rw [IntKind.wrap_i64]; have := hM.out.1; omega
            have hw4 : IntKind.i64.wrap ((Q : Int) + 1) = (Q : Int) + 1 := by rw [IntKind.wrap_i64]; omega
            have hw5 : IntKind.i64.wrap ((kk : Int) + 1) = (kk : Int) + 1 := by rw [IntKind.wrap_i64]; omega
            obtain ⟨hQq, M, hMl, hMo, hMt, hMi⟩ := hM.out
            have HQ : Hid (Q = q + 1) := hQq
            by_cases hlt2 : Q < n - K
            · have hQi : (Q : Int) < ((n - K : Nat) : Int) := by omega
              have hqi : (q : Int) < ((n - K : Nat) : Int) := by omega
              have hiQ : K + Q < M.length := by omega
              have hiq : K + q < M.length := by omega
              have hjZ : K + q + 1 < Z.length := by have := HN.out; omega
              have hjZ0 : K + q < Z.length := by omega
              obtain ⟨x0, x1, fz2⟩ := own_cellC hMo (K + Q) hiQ
              obtain ⟨y0, y1, -⟩ := own_cellC hMo (K + q) hiq
              have e1 : M[K + Q]'hiQ = Z[K + q + 1]'hjZ := by
                have h5 := hMi (K + q + 1) (by omega)
                rw [List.getElem?_eq_getElem hjZ, List.getElem?_eq_getElem (by omega)] at h5
                have h6 : M[K + Q]'hiQ = M[K + q + 1]'(by omega) := by congr 1; omega
                rw [h6]; exact Option.some.inj h5
              have e2 : M[K + q]'hiq = Z[K + q]'hjZ0 := by
                have h5 := hMi (K + q) (Nat.le_refl _)
                rw [List.getElem?_eq_getElem hjZ0, List.getElem?_eq_getElem hiq] at h5
                exact Option.some.inj h5
              rw [e1] at x0 x1
              rw [e2] at y0 y1
              rw [Nat.add_mul] at x0 x1 y0 y1
              by_cases he2 : Z[K + q + 1]'hjZ = Z[K + q]'hjZ0
              · have HF : Hid (Q + 1 = Q + 1 ∧ ∃ M : List (Int × Int), M.length = n ∧ OwnR clC 2 28 wr.drew base (.slice (some ⟨g, 0, none⟩) n cp) M ∧ M.take kk = ddP Z (K + Q + 1) ∧ (∀ i, K + Q ≤ i → M[i]? = Z[i]?)) := by
                  refine ⟨rfl, M, hMl, hMo.keeps ((Keeps.refl (fun _ => False) wr).drew) (fun _ _ f => f), ?_, fun i hi => hMi i (by omega)⟩
                  rw [hMt, hQq]
                  exact (ddP_same hjZ he2).symm
                have HF2 := HF.out.2
                have HF3 : Hid (∃ M : List (Int × Int), M.length = n ∧ OwnR clC 2 28 wr.drew base (.slice (some ⟨g, 0, none⟩) n cp) M ∧ M.take kk = ddP Z (K + Q + 1) ∧ (∀ i, K + Q ≤ i → M[i]? = Z[i]?)) := HF2
                rw [← he2] at y0 y1
                generalize Z[K + q + 1]'hjZ = xa at *
                obtain ⟨xa1, xa2⟩ := xa
                dsimp only at x0 x1 y0 y1
                have heb : (xa1 == xa1 && xa2 == xa2) = true := by simp
                have hS2 : wr.cell? ⟨g, K * 2 + Q * 2, none⟩ = some (.int .u64 xa1) ∧ wr.cell? ⟨g, K * 2 + Q * 2 + 1, none⟩ = some (.int .u64 xa2) ∧ wr.cell? ⟨g, K * 2 + q * 2, none⟩ = some (.int .u64 xa1) ∧ wr.cell? ⟨g, K * 2 + q * 2 + 1, none⟩ = some (.int .u64 xa2) := ⟨x0, x1, y0, y1⟩
                have kd := kz.drew
                clear HF HF2 he2 e1 e2 hMi hMt hMo hMl hM hQq
                go_wp2_with fail
                go_region_held3 (fun W : World => W.cell? ⟨g, K * 2 + Q * 2, none⟩ = some (.int .u64 xa1) ∧ W.cell? ⟨g, K * 2 + Q * 2 + 1, none⟩ = some (.int .u64 xa2) ∧ W.cell? ⟨g, K * 2 + q * 2, none⟩ = some (.int .u64 xa1) ∧ W.cell? ⟨g, K * 2 + q * 2 + 1, none⟩ = some (.int .u64 xa2)) (first | assumption | (exact hS2) | go_keep) (fail)
                go_wp2_with fail
                go_roundw
                · exact ⟨kk, Q, Q + 1, rfl, by simp, by omega, by omega, by omega, ⟨rfl, HF3.out⟩, kd⟩
                · simp [intOf]; omega
              · have hkM : kk < M.length := by omega
                have hset := hMo.setC kk (Z[K + q + 1]'hjZ) hkM
                have kS := ((Keeps.refl (fun q => q = g) wr).setCell (p := ⟨g, kk * 2, none⟩) (.inr rfl) (.int .u64 (Z[K + q + 1]'hjZ).1)).setCell (p := ⟨g, kk * 2 + 1, none⟩) (.inr rfl) (.int .u64 (Z[K + q + 1]'hjZ).2)
                have HF3 : Hid (∃ M : List (Int × Int), M.length = n ∧ OwnR clC 2 28 ((wr.setCell ⟨g, kk * 2, none⟩ (.int .u64 (Z[K + q + 1]'hjZ).1)).setCell ⟨g, kk * 2 + 1, none⟩ (.int .u64 (Z[K + q + 1]'hjZ).2)) base (.slice (some ⟨g, 0, none⟩) n cp) M ∧ M.take (kk + 1) = ddP Z (K + Q + 1) ∧ (∀ i, K + Q ≤ i → M[i]? = Z[i]?)) := by
                  refine ⟨_, by rw [List.length_set]; exact hMl, hset, ?_, fun i hi => ?_⟩
                  · have hk2 : kk < (M.set kk (Z[K + q + 1]'hjZ)).length := by simpa using hkM
                    rw [List.take_succ_eq_append_getElem hk2, List.getElem_set_self, List.take_set_of_le (Nat.le_refl _), hMt, hQq]
                    exact (ddP_new hjZ he2).symm
                  · rw [List.getElem?_set_ne (by omega)]
                    exact hMi i (by omega)
                obtain ⟨v0, v1, -⟩ := own_cellC hMo kk hkM
                generalize M[kk]'hkM = ov at *
                generalize Z[K + q + 1]'hjZ = xa at *
                generalize Z[K + q]'hjZ0 = ya at *
                obtain ⟨xa1, xa2⟩ := xa
                obtain ⟨ya1, ya2⟩ := ya
                obtain ⟨ov1, ov2⟩ := ov
                dsimp only at x0 x1 y0 y1 v0 v1 HF3 kS
                have heb : (xa1 == ya1 && xa2 == ya2) = false := by
                  rw [Bool.eq_false_iff]
                  intro c
                  simp only [Bool.and_eq_true, beq_iff_eq] at c
                  exact he2 (by rw [c.1, c.2])
                have hS2 : wr.cell? ⟨g, K * 2 + Q * 2, none⟩ = some (.int .u64 xa1) ∧ wr.cell? ⟨g, K * 2 + Q * 2 + 1, none⟩ = some (.int .u64 xa2) ∧ wr.cell? ⟨g, K * 2 + q * 2, none⟩ = some (.int .u64 ya1) ∧ wr.cell? ⟨g, K * 2 + q * 2 + 1, none⟩ = some (.int .u64 ya2) := ⟨x0, x1, y0, y1⟩
                have f0 := fz2 (kk * 2)
                have f1 := fz2 (kk * 2 + 1)
                have KF := (kz.trans kS).drew
                have HF4 : Hid (∃ M : List (Int × Int), M.length = n ∧ OwnR clC 2 28 ((wr.setCell ⟨g, kk * 2, none⟩ (.int .u64 xa1)).setCell ⟨g, kk * 2 + 1, none⟩ (.int .u64 xa2)).drew base (.slice (some ⟨g, 0, none⟩) n cp) M ∧ M.take (kk + 1) = ddP Z (K + Q + 1) ∧ (∀ i, K + Q ≤ i → M[i]? = Z[i]?)) := by
                  obtain ⟨M', a1, a2, a3⟩ := HF3.out
                  exact ⟨M', a1, a2.keeps ((Keeps.refl (fun _ => False) _).drew) (fun _ _ f => f), a3⟩
                clear HF3 he2 e1 e2 hMi hMt hMo hMl hM hQq hset kS fz2
                go_wp2_with fail
                go_region_held3 (fun W : World => W.cell? ⟨g, K * 2 + Q * 2, none⟩ = some (.int .u64 xa1) ∧ W.cell? ⟨g, K * 2 + Q * 2 + 1, none⟩ = some (.int .u64 xa2) ∧ W.cell? ⟨g, K * 2 + q * 2, none⟩ = some (.int .u64 ya1) ∧ W.cell? ⟨g, K * 2 + q * 2 + 1, none⟩ = some (.int .u64 ya2)) (first | assumption | (exact hS2) | go_keep) (fail)
                go_wp2_with fail
                go_roundw
                · exact ⟨kk + 1, Q, Q + 1, by simp, by simp, by omega, by omega, by omega, ⟨rfl, HF4.out⟩, KF⟩
                · simp [intOf]; omega
            · have hQi : ¬ ((Q : Int) < ((n - K : Nat) : Int)) := by omega
              have hkM : kk < M.length := by omega
              have hkl : (kk : Int) ≤ (n : Int) := by omega
              have hkl2 : kk ≤ n := by omega
              have hkc2 : (kk : Int) ≤ (cp : Int) := by omega
              have hck : ¬ cp = kk := by omega
              obtain ⟨w9, p1, p2, p3⟩ := run_clearC hMo hkM (cp - kk)
              rw [hMl] at p1
              have HF : Hid (OwnR clC 2 28 w9 base (.slice (some ⟨g, 0, none⟩) kk cp) (ddP Z n)) := by
                unfold Hid
                have e3 : K + q + 1 = n := by omega
                rw [← e3, ← hMt]
                exact p2
              have KF : Keeps (fun q => q = g) w w9 := kz.trans p3
              clear hMi hMt hMo hMl hM hQq p2 p3
              go_wp2_with fail
              go_ret
              exact ⟨_, rfl, HF.out, KF.mono (fun q _ e => by subst e; rfl)⟩
        · have HF : Hid (ddP Z (K + 1) = Z.take (K + 1)) := by
            unfold Hid
            have e9 : ddP Z (K + 1) = ddP Z (p + 2) := by rw [hd.out.1]
            rw [e9, List.take_succ_eq_append_getElem hKZ, ← hd.out.2]
            have := ddP_new hpZ1 (by rw [← hZK]; exact he)
            rw [hZK, this, hd.out.1]
          generalize hxa : Z[K]'hKZ = xa at *
          generalize hya : Z[p]'hpZ = ya at *
          obtain ⟨xa1, xa2⟩ := xa
          obtain ⟨ya1, ya2⟩ := ya
          have heb : (xa1 == ya1 && xa2 == ya2) = false := by
            rw [Bool.eq_false_iff]
            intro c
            simp only [Bool.and_eq_true, beq_iff_eq] at c
            exact he (by rw [c.1, c.2])
          dsimp only at x0 x1 y0 y1
          have hS0 : Wo.cell? ⟨g, K * 2, none⟩ = some (.int .u64 xa1) ∧ Wo.cell? ⟨g, K * 2 + 1, none⟩ = some (.int .u64 xa2) ∧ Wo.cell? ⟨g, p * 2, none⟩ = some (.int .u64 ya1) ∧ Wo.cell? ⟨g, p * 2 + 1, none⟩ = some (.int .u64 ya2) := ⟨x0, x1, y0, y1⟩
          have kd := kr.drew
          have HO2 : Hid (OwnR clC 2 28 Wo.drew base (.slice (some ⟨g, 0, none⟩) n cp) Z) := hO.out.keeps ((Keeps.refl (fun _ => False) Wo).drew) (fun _ _ f => f)
          clear he hd hxa hya hO hZK
          go_wp2_with fail
          go_region_held3 (fun W : World => W.cell? ⟨g, K * 2, none⟩ = some (.int .u64 xa1) ∧ W.cell? ⟨g, K * 2 + 1, none⟩ = some (.int .u64 xa2) ∧ W.cell? ⟨g, p * 2, none⟩ = some (.int .u64 ya1) ∧ W.cell? ⟨g, p * 2 + 1, none⟩ = some (.int .u64 ya2)) (first | assumption | (exact hS0) | go_keep) (fail)
          go_wp2_with fail
          go_roundw
          · exact ⟨K, K + 1, by simp, by omega, by omega, ⟨rfl, HF.out⟩, HO2, kd⟩
          · simp [intOf]; omega
      · have hpi : ¬ ((K : Int) < (n : Int)) := by omega
        have HF : Hid (OwnR clC 2 28 Wo base (.slice (some ⟨g, 0, none⟩) n cp) (ddP Z n)) := by
          have e1 : K = n := by omega
          have e : ddP Z n = Z := by rw [← e1, hd.out.2, e1, HN.out, List.take_length]
          unfold Hid
          rw [e]
          exact hO.out
        clear hO hd
        go_wp2_with fail
        go_ret
        exact ⟨_, rfl, HF.out, kr.mono (fun q _ e => by subst e; rfl)⟩
end Go.Proofs.YthmiainhaebjiaaGreatDoor
