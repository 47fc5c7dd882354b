
/- The walks of Above and First (layer 21). No statement of the seat is proved here. -/
import Derived.Test.YtmnbilhblkobdaaLqG
namespace Go.Proofs.Ytmnbilhblkobdaa
open Go.RowKit

set_option maxHeartbeats 1000000 in
theorem above_any (b g c : Nat) (s : Wd) (l key : Int) (hce : s.c ≠ 0 ∨ s.f < 0) (w : World) (h : WdAt w b g c s) :
    Calls Try.prog 26 #[.iface 24 (.pointer (some ⟨b, 0, none⟩)), .int .u64 l, .int .u64 key] w fun e w' => e = .returned (.tuple #[.int .u64 (s.above l key).1.1, .bool (s.above l key).1.2.1, .int .i64 (s.above l key).1.2.2]) ∧ WdAt w' b g c (s.above l key).2 ∧ Keeps (two b g) w w' := by
  obtain ⟨⟨⟨⟨tl, tn, tk⟩, e⟩, P, s1⟩, eq1⟩ : ∃ r, s.way (pLe key) l = r := ⟨_, rfl⟩
  have hs : s.above l key = ((tk, Sp.there ⟨tl, tn, tk⟩, e), s1) := by unfold Wd.above; rw [eq1]
  rw [hs]
  have HE1 : Hid (_ = _) := eq1
  clear hs eq1
  have HH0 := hid (Hs.start h)
  have HX := hid (And.intro (HH0.out.new (keeps_new w (.cells #[.int .u64 key] 25))) (show KeyAt (w.alloc (.cells #[.int .u64 key] 25)) w.heap.size key from alloc_block w _))
  clear h
  go_enter Try.func26, Try.ntmps26
  go_wp2_with fail
  have hx := HX.out
  have hlb := hx.1.lb
  refine (way_r (pass_le w.heap.size key) HE1 hce hx.1.wd hx.2 (by show ¬ b = w.heap.size; omega) (by show ¬ g = w.heap.size; omega)).mono ?_
  rintro e_ w1 ⟨rfl, h1, j1, k1, f1⟩
  have HH : Hid (Hq w b g c (w1.alloc (.cells #[.int .u64 tl, .int .u64 tn, .int .u64 tk] 75)) s1 w1.heap.size ⟨tl, tn, tk⟩) := by
    have hq : Hs w b g c w1 s1 := ⟨h1, hx.1.k.step k1 (fun i hi e => by rcases e with e | e; exact e; omega), hlb⟩
    exact hid (hq.spot ⟨tl, tn, tk⟩)
  clear h1 j1 k1 f1 HH0
  unfold Sp.v
  go_wp2_with fail
  have hSa : (w1.alloc (.cells #[.int .u64 tl, .int .u64 tn, .int .u64 tk] 75)).drew.cell? ⟨w1.heap.size, 0, none⟩ = some (.int .u64 tl) ∧ (w1.alloc (.cells #[.int .u64 tl, .int .u64 tn, .int .u64 tk] 75)).drew.cell? ⟨w1.heap.size, 1, none⟩ = some (.int .u64 tn) ∧ (w1.alloc (.cells #[.int .u64 tl, .int .u64 tn, .int .u64 tk] 75)).drew.cell? ⟨w1.heap.size, 2, none⟩ = some (.int .u64 tk) := ⟨HH.out.sp.c0, HH.out.sp.c1, HH.out.sp.c2⟩
  refine wp_held_end (S := fun W : World => W.cell? ⟨w1.heap.size, 0, none⟩ = some (.int .u64 tl) ∧ W.cell? ⟨w1.heap.size, 1, none⟩ = some (.int .u64 tn) ∧ W.cell? ⟨w1.heap.size, 2, none⟩ = some (.int .u64 tk)) 8 rfl hmxp ?_
  simp only [Array.replicate_succ, Array.replicate_zero, List.push_toArray, List.nil_append, List.cons_append]
  refine held_take (i := 0) (v := (.pointer (some ⟨w1.heap.size, 2, none⟩))) 20 rfl rfl (by kernel_rfl) (by kernel_rfl) (by kernel_rfl) rfl (fun w' hw' => by obtain ⟨q0, q1, q2⟩ := hw'; go_simp) hSa ?_
  simp only [Act.put, List.setIfInBounds_toArray, List.set_cons_zero, List.set_cons_succ]
  refine held_take (i := 1) (v := (.int .u64 tk)) 21 rfl rfl (by kernel_rfl) (by kernel_rfl) (by kernel_rfl) rfl (fun w' hw' => by obtain ⟨q0, q1, q2⟩ := hw'; go_simp) hSa ?_
  simp only [Act.put, List.setIfInBounds_toArray, List.set_cons_zero, List.set_cons_succ]
  refine held_take (i := 2) (v := (.agg #[.int .u64 tl, .int .u64 tn, .int .u64 tk])) 22 rfl rfl (by kernel_rfl) (by kernel_rfl) (by kernel_rfl) rfl (fun w' hw' => by obtain ⟨q0, q1, q2⟩ := hw'; go_simp) hSa ?_
  simp only [Act.put, List.setIfInBounds_toArray, List.set_cons_zero, List.set_cons_succ]
  refine held_take (i := 4) (v := (.int .i64 e)) 24 rfl rfl (by kernel_rfl) (by kernel_rfl) (by kernel_rfl) rfl (fun w' hw' => by obtain ⟨q0, q1, q2⟩ := hw'; go_simp) hSa ?_
  simp only [Act.put, List.setIfInBounds_toArray, List.set_cons_zero, List.set_cons_succ]
  refine held_call (i := 3) (f := 48) (args := #[.agg #[.int .u64 tl, .int .u64 tn, .int .u64 tk]]) 23 (by kernel_rfl) rfl rfl rfl (by go_simp) ?_
  refine (there_any ⟨tl, tn, tk⟩ _).mono ?_
  rintro e_ w3 ⟨rfl, o_, hw_⟩
  replace HH := hid (HH.out.new (X' := w3) (by rw [hw_]; exact ((Keeps.refl _ _).drew).alloc o_))
  have hSb : w3.cell? ⟨w1.heap.size, 0, none⟩ = some (.int .u64 tl) ∧ w3.cell? ⟨w1.heap.size, 1, none⟩ = some (.int .u64 tn) ∧ w3.cell? ⟨w1.heap.size, 2, none⟩ = some (.int .u64 tk) := ⟨HH.out.sp.c0, HH.out.sp.c1, HH.out.sp.c2⟩
  clear hw_ hSa
  refine ⟨_, rfl, hSb, ?_⟩
  simp only [Act.put, List.setIfInBounds_toArray, List.set_cons_zero, List.set_cons_succ]
  refine held_take (i := 5) (v := (.int .u64 tk)) 6 rfl rfl (by kernel_rfl) (by kernel_rfl) (by kernel_rfl) rfl (fun w' hw' => by obtain ⟨q0, q1, q2⟩ := hw'; go_simp) hSb ?_
  simp only [Act.put, List.setIfInBounds_toArray, List.set_cons_zero, List.set_cons_succ]
  refine held_take (i := 6) (v := (.bool (Sp.there ⟨tl, tn, tk⟩))) 7 rfl rfl (by kernel_rfl) (by kernel_rfl) (by kernel_rfl) rfl (fun w' hw' => by obtain ⟨q0, q1, q2⟩ := hw'; go_simp) hSb ?_
  simp only [Act.put, List.setIfInBounds_toArray, List.set_cons_zero, List.set_cons_succ]
  refine held_take (i := 7) (v := (.int .i64 e)) 8 rfl rfl (by kernel_rfl) (by kernel_rfl) (by kernel_rfl) rfl (fun w' hw' => by obtain ⟨q0, q1, q2⟩ := hw'; go_simp) hSb ?_
  simp only [Act.put, List.setIfInBounds_toArray, List.set_cons_zero, List.set_cons_succ]
  refine held_end (by kernel_rfl) ?_ _
  clear hSb
  go_wp2_with fail
  go_ret3
  exact ⟨rfl, HH.out.hs.wd, HH.out.hs.k⟩
theorem above_r {b g c : Nat} {s : Wd} {l key x1 e1 : Int} {y1 : Bool} {s1 : Wd} (heq : Hid (s.above l key = ((x1, y1, e1), s1))) (hce : s.c ≠ 0 ∨ s.f < 0) {w : World} (h : WdAt w b g c s) :
    Calls Try.prog 26 #[.iface 24 (.pointer (some ⟨b, 0, none⟩)), .int .u64 l, .int .u64 key] w fun e w' => e = .returned (.tuple #[.int .u64 x1, .bool y1, .int .i64 e1]) ∧ WdAt w' b g c s1 ∧ Keeps (two b g) w w' := by
  have q := above_any b g c s l key hce w h
  rw [heq.out] at q
  exact q
set_option maxHeartbeats 1000000 in
theorem first_any (b g c : Nat) (s : Wd) (l : Int) (hce : s.c ≠ 0 ∨ s.f < 0) (w : World) (h : WdAt w b g c s) :
    Calls Try.prog 27 #[.iface 24 (.pointer (some ⟨b, 0, none⟩)), .int .u64 l] w fun e w' => e = .returned (.tuple #[.int .u64 (s.first l).1.1, .bool (s.first l).1.2.1, .int .i64 (s.first l).1.2.2]) ∧ WdAt w' b g c (s.first l).2 ∧ Keeps (two b g) w w' := by
  obtain ⟨⟨⟨⟨tl, tn, tk⟩, e⟩, P, s1⟩, eq1⟩ : ∃ r, s.way (pNo) l = r := ⟨_, rfl⟩
  have hs : s.first l = ((tk, Sp.there ⟨tl, tn, tk⟩, e), s1) := by unfold Wd.first; rw [eq1]
  rw [hs]
  have HE1 : Hid (_ = _) := eq1
  clear hs eq1
  have HH0 := hid (Hs.start h)
  clear h
  go_enter Try.func27, Try.ntmps27
  go_wp2_with fail
  have hx := HH0.out
  refine (way_r pass_no HE1 hce hx.wd trivial (fun f => f) (fun f => f)).mono ?_
  rintro e_ w1 ⟨rfl, h1, j1, k1, f1⟩
  have HH : Hid (Hq w b g c (w1.alloc (.cells #[.int .u64 tl, .int .u64 tn, .int .u64 tk] 75)) s1 w1.heap.size ⟨tl, tn, tk⟩) := by
    have hq : Hs w b g c w1 s1 := ⟨h1, hx.k.step k1 (fun i hi e => by rcases e with e | e; exact e; exact e.elim), hx.lb⟩
    exact hid (hq.spot ⟨tl, tn, tk⟩)
  clear h1 j1 k1 f1 HH0
  unfold Sp.v
  go_wp2_with fail
  have hSa : (w1.alloc (.cells #[.int .u64 tl, .int .u64 tn, .int .u64 tk] 75)).drew.cell? ⟨w1.heap.size, 0, none⟩ = some (.int .u64 tl) ∧ (w1.alloc (.cells #[.int .u64 tl, .int .u64 tn, .int .u64 tk] 75)).drew.cell? ⟨w1.heap.size, 1, none⟩ = some (.int .u64 tn) ∧ (w1.alloc (.cells #[.int .u64 tl, .int .u64 tn, .int .u64 tk] 75)).drew.cell? ⟨w1.heap.size, 2, none⟩ = some (.int .u64 tk) := ⟨HH.out.sp.c0, HH.out.sp.c1, HH.out.sp.c2⟩
  refine wp_held_end (S := fun W : World => W.cell? ⟨w1.heap.size, 0, none⟩ = some (.int .u64 tl) ∧ W.cell? ⟨w1.heap.size, 1, none⟩ = some (.int .u64 tn) ∧ W.cell? ⟨w1.heap.size, 2, none⟩ = some (.int .u64 tk)) 8 rfl hmxp ?_
  simp only [Array.replicate_succ, Array.replicate_zero, List.push_toArray, List.nil_append, List.cons_append]
  refine held_take (i := 0) (v := (.pointer (some ⟨w1.heap.size, 2, none⟩))) 17 rfl rfl (by kernel_rfl) (by kernel_rfl) (by kernel_rfl) rfl (fun w' hw' => by obtain ⟨q0, q1, q2⟩ := hw'; go_simp) hSa ?_
  simp only [Act.put, List.setIfInBounds_toArray, List.set_cons_zero, List.set_cons_succ]
  refine held_take (i := 1) (v := (.int .u64 tk)) 18 rfl rfl (by kernel_rfl) (by kernel_rfl) (by kernel_rfl) rfl (fun w' hw' => by obtain ⟨q0, q1, q2⟩ := hw'; go_simp) hSa ?_
  simp only [Act.put, List.setIfInBounds_toArray, List.set_cons_zero, List.set_cons_succ]
  refine held_take (i := 2) (v := (.agg #[.int .u64 tl, .int .u64 tn, .int .u64 tk])) 19 rfl rfl (by kernel_rfl) (by kernel_rfl) (by kernel_rfl) rfl (fun w' hw' => by obtain ⟨q0, q1, q2⟩ := hw'; go_simp) hSa ?_
  simp only [Act.put, List.setIfInBounds_toArray, List.set_cons_zero, List.set_cons_succ]
  refine held_take (i := 4) (v := (.int .i64 e)) 21 rfl rfl (by kernel_rfl) (by kernel_rfl) (by kernel_rfl) rfl (fun w' hw' => by obtain ⟨q0, q1, q2⟩ := hw'; go_simp) hSa ?_
  simp only [Act.put, List.setIfInBounds_toArray, List.set_cons_zero, List.set_cons_succ]
  refine held_call (i := 3) (f := 48) (args := #[.agg #[.int .u64 tl, .int .u64 tn, .int .u64 tk]]) 20 (by kernel_rfl) rfl rfl rfl (by go_simp) ?_
  refine (there_any ⟨tl, tn, tk⟩ _).mono ?_
  rintro e_ w3 ⟨rfl, o_, hw_⟩
  replace HH := hid (HH.out.new (X' := w3) (by rw [hw_]; exact ((Keeps.refl _ _).drew).alloc o_))
  have hSb : w3.cell? ⟨w1.heap.size, 0, none⟩ = some (.int .u64 tl) ∧ w3.cell? ⟨w1.heap.size, 1, none⟩ = some (.int .u64 tn) ∧ w3.cell? ⟨w1.heap.size, 2, none⟩ = some (.int .u64 tk) := ⟨HH.out.sp.c0, HH.out.sp.c1, HH.out.sp.c2⟩
  clear hw_ hSa
  refine ⟨_, rfl, hSb, ?_⟩
  simp only [Act.put, List.setIfInBounds_toArray, List.set_cons_zero, List.set_cons_succ]
  refine held_take (i := 5) (v := (.int .u64 tk)) 4 rfl rfl (by kernel_rfl) (by kernel_rfl) (by kernel_rfl) rfl (fun w' hw' => by obtain ⟨q0, q1, q2⟩ := hw'; go_simp) hSb ?_
  simp only [Act.put, List.setIfInBounds_toArray, List.set_cons_zero, List.set_cons_succ]
  refine held_take (i := 6) (v := (.bool (Sp.there ⟨tl, tn, tk⟩))) 5 rfl rfl (by kernel_rfl) (by kernel_rfl) (by kernel_rfl) rfl (fun w' hw' => by obtain ⟨q0, q1, q2⟩ := hw'; go_simp) hSb ?_
  simp only [Act.put, List.setIfInBounds_toArray, List.set_cons_zero, List.set_cons_succ]
  refine held_take (i := 7) (v := (.int .i64 e)) 6 rfl rfl (by kernel_rfl) (by kernel_rfl) (by kernel_rfl) rfl (fun w' hw' => by obtain ⟨q0, q1, q2⟩ := hw'; go_simp) hSb ?_
  simp only [Act.put, List.setIfInBounds_toArray, List.set_cons_zero, List.set_cons_succ]
  refine held_end (by kernel_rfl) ?_ _
  clear hSb
  go_wp2_with fail
  go_ret3
  exact ⟨rfl, HH.out.hs.wd, HH.out.hs.k⟩
theorem first_r {b g c : Nat} {s : Wd} {l x1 e1 : Int} {y1 : Bool} {s1 : Wd} (heq : Hid (s.first l = ((x1, y1, e1), s1))) (hce : s.c ≠ 0 ∨ s.f < 0) {w : World} (h : WdAt w b g c s) :
    Calls Try.prog 27 #[.iface 24 (.pointer (some ⟨b, 0, none⟩)), .int .u64 l] w fun e w' => e = .returned (.tuple #[.int .u64 x1, .bool y1, .int .i64 e1]) ∧ WdAt w' b g c s1 ∧ Keeps (two b g) w w' := by
  have q := first_any b g c s l hce w h
  rw [heq.out] at q
  exact q
end Go.Proofs.Ytmnbilhblkobdaa
