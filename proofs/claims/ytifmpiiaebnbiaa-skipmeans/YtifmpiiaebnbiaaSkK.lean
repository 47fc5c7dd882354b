
/- The walks of Has, First, After (layer 22). No statement of the seat is proved here. -/
import Derived.Test.YtifmpiiaebnbiaaSkJ
namespace Go.Proofs.Ytifmpiiaebnbiaa
open Go.RowKit

set_option maxHeartbeats 1000000 in
theorem has_any (b g c : Nat) (s : Wd) (at_ x : Int) (hat : isW at_) (rms : Rm s 131090) (w : World) (h : WdAt 27 w b g c s) :
    Calls Try.prog 24 #[.iface 23 (.pointer (some ⟨b, 0, none⟩)), .int .u64 at_, .int .u64 x] w fun e w' => e = .returned (.tuple #[.bool (s.has at_ x).1.1, .int .i64 (s.has at_ x).1.2]) ∧ Hs 27 w b g c w' (s.has at_ x).2 := by
  have oks := h.ok
  have HH := hid (Hs.start h)
  clear h
  unfold Wd.has
  obtain ⟨⟨⟨la, e⟩, s1⟩, eq1⟩ : ∃ r, s.search (pLt x) at_ = r := ⟨_, rfl⟩
  rw [eq1]
  dsimp only
  have h8 := (SrOk.of oks eq1).2.1
  have HE : Hid (_ = _) := eq1
  clear eq1
  go_enter Try.func24, Try.ntmps24
  go_wp2_with fail
  refine (below_any x _).mono ?_
  rintro e_ w1 ⟨rfl, hw1⟩
  have HK : Hid (Hs 27 w b g c w1 s ∧ Lo w1 b g w.heap.size (.cells #[.int .u64 x] 32 (0, 0))) := by rw [hw1]; exact hid ⟨HH.out.new (keeps_new w _), Lo.new HH.out.wd _⟩
  clear HH hw1
  go_wp2_with fail
  refine (search_r (pas_lt w.heap.size x) HE hat (rms.le (by omega)) HK.out.1.wd HK.out.2).mono ?_
  rintro e_ w2 ⟨rfl, h2⟩
  have HH := hid (HK.out.1.trans h2)
  clear HK h2 HE
  go_wp2_with (first | (refine wpList_store_row rfl 90 _ _ rfl w2.heap.size (lcs la) rfl rfl 90 (lcs zeros) (alloc_block w2 _) (by rw [size_las, lcs_size, h8]) (by rw [lcs_size, lcs_size, h8]; rfl) (lcs_one _) ?_) | (refine wpList_load_row rfl 90 _ rfl w2.heap.size rfl 90 (lcs la) (0, 0) _ (las_new HH.out la).2.at_ Try.underlying90 rfl (by rw [size_las, lcs_size, h8]) ?_))
  refine (have_any la h8 x _).mono ?_
  rintro e_ w3 ⟨rfl, k3⟩
  have H3 := hid ((las_new HH.out la).1.new k3)
  clear HH k3
  go_wp2_with fail
  go_ret2
  exact ⟨rfl, H3.out⟩
set_option maxHeartbeats 1000000 in
theorem aft_any (b g c : Nat) (s : Wd) (at_ x : Int) (hat : isW at_) (rms : Rm s 131090) (w : World) (h : WdAt 27 w b g c s) :
    Calls Try.prog 28 #[.iface 23 (.pointer (some ⟨b, 0, none⟩)), .int .u64 at_, .int .u64 x] w fun e w' => e = .returned (.tuple #[.int .u64 (s.aft at_ x).1.1, .bool (s.aft at_ x).1.2.1, .int .i64 (s.aft at_ x).1.2.2]) ∧ Hs 27 w b g c w' (s.aft at_ x).2 := by
  have oks := h.ok
  have HH := hid (Hs.start h)
  clear h
  unfold Wd.aft
  obtain ⟨⟨⟨la, e⟩, s1⟩, eq1⟩ : ∃ r, s.search (pLe x) at_ = r := ⟨_, rfl⟩
  rw [eq1]
  dsimp only
  have h8 := (SrOk.of oks eq1).2.1
  have HE : Hid (_ = _) := eq1
  clear eq1
  obtain ⟨⟨l1, l2, l3⟩, hl0⟩ : ∃ l, lk la 0 = l := ⟨_, rfl⟩
  rw [hl0]
  have hlk := hid hl0
  clear hl0
  go_enter Try.func28, Try.ntmps28
  go_wp2_with fail
  refine (upTo_any x _).mono ?_
  rintro e_ w1 ⟨rfl, hw1⟩
  have HK : Hid (Hs 27 w b g c w1 s ∧ Lo w1 b g w.heap.size (.cells #[.int .u64 x] 32 (0, 0))) := by rw [hw1]; exact hid ⟨HH.out.new (keeps_new w _), Lo.new HH.out.wd _⟩
  clear HH hw1
  go_wp2_with fail
  refine (search_r (pas_le w.heap.size x) HE hat (rms.le (by omega)) HK.out.1.wd HK.out.2).mono ?_
  rintro e_ w2 ⟨rfl, h2⟩
  have HH := hid (HK.out.1.trans h2)
  clear HK h2 HE
  go_wp2_with (first | (refine wpList_store_row rfl 90 _ _ rfl w2.heap.size (lcs la) rfl rfl 90 (lcs zeros) (alloc_block w2 _) (by rw [size_las, lcs_size, h8]) (by rw [lcs_size, lcs_size, h8]; rfl) (lcs_one _) ?_))
  have hl := las_new HH.out la
  have c0 := las_c0 hl.2.at_ h8 (i := 0) (by omega)
  have c1 := las_c1 hl.2.at_ h8 (i := 0) (by omega)
  have c2 := las_c2 hl.2.at_ h8 (i := 0) (by omega)
  have HL := hid hl
  clear hl HH
  have HB := hid HL.out.1
  clear HL
  obtain ⟨X, hX⟩ : ∃ X, X = (w2.alloc (lasO zeros)).setRow w2.heap.size (lcs la) := ⟨_, rfl⟩
  rw [← hX] at c0 c1 c2 HB
  change (Code.region _ _ _).wp _ _ _ ((w2.alloc (lasO zeros)).setRow w2.heap.size (lcs la))
  rw [← hX]
  clear hX
  simp only [Nat.zero_mul, Nat.zero_add] at c0 c1 c2
  rw [hlk.out] at c0 c1 c2
  dsimp only at c0 c1 c2
  refine wp_held_end (S := fun W : World => W.cell? ⟨w2.heap.size, 0, none⟩ = some (.int .u64 l1) ∧ W.cell? ⟨w2.heap.size, 1, none⟩ = some (.int .u64 l2) ∧ W.cell? ⟨w2.heap.size, 2, none⟩ = some (.int .u64 l3)) 10 rfl hmxp ?_
  simp only [Array.replicate_succ, Array.replicate_zero, List.push_toArray, List.nil_append, List.cons_append]
  refine held_take (i := 0) (v := (.pointer (some ⟨w2.heap.size, 0, none⟩))) 21 rfl rfl (by kernel_rfl) (by kernel_rfl) (by kernel_rfl) rfl (fun w' hw' => by obtain ⟨q0, q1, q2⟩ := hw'; go_simp) ⟨c0, c1, c2⟩ ?_
  simp only [Act.put, List.setIfInBounds_toArray, List.set_cons_zero, List.set_cons_succ]
  refine held_take (i := 1) (v := (.pointer (some ⟨w2.heap.size, 2, none⟩))) 22 rfl rfl (by kernel_rfl) (by kernel_rfl) (by kernel_rfl) rfl (fun w' hw' => by obtain ⟨q0, q1, q2⟩ := hw'; go_simp) ⟨c0, c1, c2⟩ ?_
  simp only [Act.put, List.setIfInBounds_toArray, List.set_cons_zero, List.set_cons_succ]
  refine held_take (i := 2) (v := (.int .u64 l3)) 23 rfl rfl (by kernel_rfl) (by kernel_rfl) (by kernel_rfl) rfl (fun w' hw' => by obtain ⟨q0, q1, q2⟩ := hw'; go_simp) ⟨c0, c1, c2⟩ ?_
  simp only [Act.put, List.setIfInBounds_toArray, List.set_cons_zero, List.set_cons_succ]
  refine held_take (i := 3) (v := (.pointer (some ⟨w2.heap.size, 0, none⟩))) 24 rfl rfl (by kernel_rfl) (by kernel_rfl) (by kernel_rfl) rfl (fun w' hw' => by obtain ⟨q0, q1, q2⟩ := hw'; go_simp) ⟨c0, c1, c2⟩ ?_
  simp only [Act.put, List.setIfInBounds_toArray, List.set_cons_zero, List.set_cons_succ]
  refine held_take (i := 4) (v := (.agg #[.int .u64 l1, .int .u64 l2, .int .u64 l3])) 25 rfl rfl (by kernel_rfl) (by kernel_rfl) (by kernel_rfl) rfl (fun w' hw' => by obtain ⟨q0, q1, q2⟩ := hw'; go_simp) ⟨c0, c1, c2⟩ ?_
  simp only [Act.put, List.setIfInBounds_toArray, List.set_cons_zero, List.set_cons_succ]
  refine held_take (i := 6) (v := (.int .i64 e)) 27 rfl rfl (by kernel_rfl) (by kernel_rfl) (by kernel_rfl) rfl (fun w' hw' => by obtain ⟨q0, q1, q2⟩ := hw'; go_simp) ⟨c0, c1, c2⟩ ?_
  simp only [Act.put, List.setIfInBounds_toArray, List.set_cons_zero, List.set_cons_succ]
  refine held_call (i := 5) (f := 59) (args := #[.agg #[.int .u64 l1, .int .u64 l2, .int .u64 l3]]) 26 (by kernel_rfl) rfl rfl rfl (by go_simp) ?_
  refine (leads_any ⟨l1, l2, l3⟩ _).mono ?_
  rintro e_ w3 ⟨rfl, k3⟩
  have H3 := hid (HB.out.drew.new k3)
  have c0' : w3.cell? ⟨w2.heap.size, 0, none⟩ = some (.int .u64 l1) := (World.cell?_of_block (k3.block w2.heap.size (World.block_lt_of_cell? _ _ c0) (fun f => f))).trans c0
  have c1' : w3.cell? ⟨w2.heap.size, 1, none⟩ = some (.int .u64 l2) := (World.cell?_of_block (k3.block w2.heap.size (World.block_lt_of_cell? _ _ c0) (fun f => f))).trans c1
  have c2' : w3.cell? ⟨w2.heap.size, 2, none⟩ = some (.int .u64 l3) := (World.cell?_of_block (k3.block w2.heap.size (World.block_lt_of_cell? _ _ c0) (fun f => f))).trans c2
  clear HB k3 c0 c1 c2
  have c0 := c0'
  have c1 := c1'
  have c2 := c2'
  clear c0' c1' c2'
  unfold Lk.leads
  refine ⟨_, rfl, ⟨c0, c1, c2⟩, ?_⟩
  simp only [Act.put, List.setIfInBounds_toArray, List.set_cons_zero, List.set_cons_succ]
  refine held_take (i := 7) (v := (.int .u64 l3)) 6 rfl rfl (by kernel_rfl) (by kernel_rfl) (by kernel_rfl) rfl (fun w' hw' => by obtain ⟨q0, q1, q2⟩ := hw'; go_simp) ⟨c0, c1, c2⟩ ?_
  simp only [Act.put, List.setIfInBounds_toArray, List.set_cons_zero, List.set_cons_succ]
  refine held_take (i := 8) (v := (.bool (l2 != 0))) 7 rfl rfl (by kernel_rfl) (by kernel_rfl) (by kernel_rfl) rfl (fun w' hw' => by obtain ⟨q0, q1, q2⟩ := hw'; go_simp) ⟨c0, c1, c2⟩ ?_
  simp only [Act.put, List.setIfInBounds_toArray, List.set_cons_zero, List.set_cons_succ]
  refine held_take (i := 9) (v := (.int .i64 e)) 8 rfl rfl (by kernel_rfl) (by kernel_rfl) (by kernel_rfl) rfl (fun w' hw' => by obtain ⟨q0, q1, q2⟩ := hw'; go_simp) ⟨c0, c1, c2⟩ ?_
  simp only [Act.put, List.setIfInBounds_toArray, List.set_cons_zero, List.set_cons_succ]
  refine held_end (by kernel_rfl) ?_ _
  clear c0 c1 c2
  go_wp2_with fail
  go_ret3
  exact ⟨rfl, H3.out⟩
set_option maxHeartbeats 1000000 in
theorem first_any (b g c : Nat) (s : Wd) (at_ : Int) (hat : isW at_) (rms : Rm s 2) (w : World) (h : WdAt 27 w b g c s) :
    Calls Try.prog 26 #[.iface 23 (.pointer (some ⟨b, 0, none⟩)), .int .u64 at_] w fun e w' => e = .returned (.tuple #[.int .u64 (s.first at_).1.1, .bool (s.first at_).1.2.1, .int .i64 (s.first at_).1.2.2]) ∧ Hs 27 w b g c w' (s.first at_).2 := by
  have HH := hid (And.intro ((Hs.start h).new (keeps_new w (wkO b 0))) (Lo.new h (wkO b 0)))
  clear h
  unfold Wd.first
  obtain ⟨⟨⟨⟨l1, l2, l3⟩, e⟩, n1, s1⟩, eq1⟩ : ∃ r, s.fol 0 at_ = r := ⟨_, rfl⟩
  rw [eq1]
  dsimp only
  have HE : Hid (_ = _) := eq1
  clear eq1
  go_enter Try.func26, Try.ntmps26
  go_wp2_with fail
  refine (follow_r HE (by omega) hat rms HH.out.1.wd HH.out.2).mono ?_
  rintro e_ w1 ⟨rfl, h1⟩
  have HF := hid (HH.out.1.acc h1.k h1.wd (fun i e => by omega))
  clear HH HE h1
  unfold Lk.v
  go_wp2_with fail
  have hl := Lo.new HF.out.wd (lkO ⟨l1, l2, l3⟩)
  have HB := hid (HF.out.new (keeps_new w1 (lkO ⟨l1, l2, l3⟩)))
  clear HF
  have c0 := lk_c0 hl.at_
  have c1 := lk_c1 hl.at_
  have c2 := lk_c2 hl.at_
  clear hl
  obtain ⟨X, hX⟩ : ∃ X, X = w1.alloc (lkO ⟨l1, l2, l3⟩) := ⟨_, rfl⟩
  rw [← hX] at c0 c1 c2 HB
  change (Code.region _ _ _).wp _ _ _ (w1.alloc (lkO ⟨l1, l2, l3⟩))
  rw [← hX]
  clear hX
  dsimp only at c0 c1 c2
  refine wp_held_end (S := fun W : World => W.cell? ⟨w1.heap.size, 0, none⟩ = some (.int .u64 l1) ∧ W.cell? ⟨w1.heap.size, 1, none⟩ = some (.int .u64 l2) ∧ W.cell? ⟨w1.heap.size, 2, none⟩ = some (.int .u64 l3)) 8 rfl hmxp ?_
  simp only [Array.replicate_succ, Array.replicate_zero, List.push_toArray, List.nil_append, List.cons_append]
  refine held_take (i := 0) (v := (.pointer (some ⟨w1.heap.size, 2, none⟩))) 19 rfl rfl (by kernel_rfl) (by kernel_rfl) (by kernel_rfl) rfl (fun w' hw' => by obtain ⟨q0, q1, q2⟩ := hw'; go_simp) ⟨c0, c1, c2⟩ ?_
  simp only [Act.put, List.setIfInBounds_toArray, List.set_cons_zero, List.set_cons_succ]
  refine held_take (i := 1) (v := (.int .u64 l3)) 20 rfl rfl (by kernel_rfl) (by kernel_rfl) (by kernel_rfl) rfl (fun w' hw' => by obtain ⟨q0, q1, q2⟩ := hw'; go_simp) ⟨c0, c1, c2⟩ ?_
  simp only [Act.put, List.setIfInBounds_toArray, List.set_cons_zero, List.set_cons_succ]
  refine held_take (i := 2) (v := (.agg #[.int .u64 l1, .int .u64 l2, .int .u64 l3])) 21 rfl rfl (by kernel_rfl) (by kernel_rfl) (by kernel_rfl) rfl (fun w' hw' => by obtain ⟨q0, q1, q2⟩ := hw'; go_simp) ⟨c0, c1, c2⟩ ?_
  simp only [Act.put, List.setIfInBounds_toArray, List.set_cons_zero, List.set_cons_succ]
  refine held_take (i := 4) (v := (.int .i64 e)) 23 rfl rfl (by kernel_rfl) (by kernel_rfl) (by kernel_rfl) rfl (fun w' hw' => by obtain ⟨q0, q1, q2⟩ := hw'; go_simp) ⟨c0, c1, c2⟩ ?_
  simp only [Act.put, List.setIfInBounds_toArray, List.set_cons_zero, List.set_cons_succ]
  refine held_call (i := 3) (f := 59) (args := #[.agg #[.int .u64 l1, .int .u64 l2, .int .u64 l3]]) 22 (by kernel_rfl) rfl rfl rfl (by go_simp) ?_
  refine (leads_any ⟨l1, l2, l3⟩ _).mono ?_
  rintro e_ w3 ⟨rfl, k3⟩
  have H3 := hid (HB.out.drew.new k3)
  have c0' : w3.cell? ⟨w1.heap.size, 0, none⟩ = some (.int .u64 l1) := (World.cell?_of_block (k3.block w1.heap.size (World.block_lt_of_cell? _ _ c0) (fun f => f))).trans c0
  have c1' : w3.cell? ⟨w1.heap.size, 1, none⟩ = some (.int .u64 l2) := (World.cell?_of_block (k3.block w1.heap.size (World.block_lt_of_cell? _ _ c0) (fun f => f))).trans c1
  have c2' : w3.cell? ⟨w1.heap.size, 2, none⟩ = some (.int .u64 l3) := (World.cell?_of_block (k3.block w1.heap.size (World.block_lt_of_cell? _ _ c0) (fun f => f))).trans c2
  clear HB k3 c0 c1 c2
  have c0 := c0'
  have c1 := c1'
  have c2 := c2'
  clear c0' c1' c2'
  unfold Lk.leads
  refine ⟨_, rfl, ⟨c0, c1, c2⟩, ?_⟩
  simp only [Act.put, List.setIfInBounds_toArray, List.set_cons_zero, List.set_cons_succ]
  refine held_take (i := 5) (v := (.int .u64 l3)) 4 rfl rfl (by kernel_rfl) (by kernel_rfl) (by kernel_rfl) rfl (fun w' hw' => by obtain ⟨q0, q1, q2⟩ := hw'; go_simp) ⟨c0, c1, c2⟩ ?_
  simp only [Act.put, List.setIfInBounds_toArray, List.set_cons_zero, List.set_cons_succ]
  refine held_take (i := 6) (v := (.bool (l2 != 0))) 5 rfl rfl (by kernel_rfl) (by kernel_rfl) (by kernel_rfl) rfl (fun w' hw' => by obtain ⟨q0, q1, q2⟩ := hw'; go_simp) ⟨c0, c1, c2⟩ ?_
  simp only [Act.put, List.setIfInBounds_toArray, List.set_cons_zero, List.set_cons_succ]
  refine held_take (i := 7) (v := (.int .i64 e)) 6 rfl rfl (by kernel_rfl) (by kernel_rfl) (by kernel_rfl) rfl (fun w' hw' => by obtain ⟨q0, q1, q2⟩ := hw'; go_simp) ⟨c0, c1, c2⟩ ?_
  simp only [Act.put, List.setIfInBounds_toArray, List.set_cons_zero, List.set_cons_succ]
  refine held_end (by kernel_rfl) ?_ _
  clear c0 c1 c2
  go_wp2_with fail
  go_ret3
  exact ⟨rfl, H3.out⟩
end Go.Proofs.Ytifmpiiaebnbiaa
