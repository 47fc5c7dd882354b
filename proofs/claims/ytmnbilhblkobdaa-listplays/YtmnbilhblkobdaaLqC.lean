
/- The walk of unhang (layer 21). No statement of the seat is proved here. -/
import Derived.Test.YtmnbilhblkobdaaLqB
namespace Go.Proofs.Ytmnbilhblkobdaa
open Go.RowKit

set_option maxHeartbeats 1000000 in
theorem unhang_any (b g c : Nat) (s : Wd) (t : Sp) (ht : t.Ok) (w : World) (h : WdAt w b g c s) :
    Calls Try.prog 43 #[.iface 24 (.pointer (some ⟨b, 0, none⟩)), t.v] w fun e w' => e = .returned (.int .i64 (s.unhang t).1) ∧ WdAt w' b g c (s.unhang t).2 ∧ Keeps (two b g) w w' := by
  have mg := meth_get b
  have mp := meth_put b
  have ng := nil_get b
  have np := nil_put b
  have oks : s.Ok := h.ok
  have HH := hid (Hs.start h)
  clear h
  have HH := hid (HH.out.spot t)
  obtain ⟨tl, tn, tk⟩ := t
  obtain ⟨htl, htn, htk⟩ := ht
  obtain ⟨⟨⟨x, e⟩, s1⟩, eq1⟩ : ∃ r, s.get (ld (Sp.nd ⟨tl, tn, tk⟩)) = r := ⟨_, rfl⟩
  have hwx : isW x := get_isW eq1 oks
  have oks1 : s1.Ok := by have q := (oks.get (ld (Sp.nd ⟨tl, tn, tk⟩))).1; rw [eq1] at q; exact q
  by_cases hze : e = 0
  · subst hze
    obtain ⟨⟨f, s2⟩, eq2⟩ : ∃ r, s1.put (tl) (x) = r := ⟨_, rfl⟩
    have hs : s.unhang ⟨tl, tn, tk⟩ = (f, s2) := by
      unfold Wd.unhang
      simp [eq1, eq2]
    rw [hs]
    have HE1 : Hid (_ = _) := eq1
    have HE2 : Hid (_ = _) := eq2
    clear hs eq1 eq2
    unfold Sp.v
    go_enter Try.func43, Try.ntmps43
    go_wp2_with fail
    have hSa : (w.alloc (.cells #[.int .u64 tl, .int .u64 tn, .int .u64 tk] 75)).drew.cell? ⟨w.heap.size, 0, none⟩ = some (.int .u64 tl) ∧ (w.alloc (.cells #[.int .u64 tl, .int .u64 tn, .int .u64 tk] 75)).drew.cell? ⟨w.heap.size, 1, none⟩ = some (.int .u64 tn) ∧ (w.alloc (.cells #[.int .u64 tl, .int .u64 tn, .int .u64 tk] 75)).drew.cell? ⟨w.heap.size, 2, none⟩ = some (.int .u64 tk) := ⟨HH.out.sp.c0, HH.out.sp.c1, HH.out.sp.c2⟩
    refine wp_held_end (S := fun W : World => W.cell? ⟨w.heap.size, 0, none⟩ = some (.int .u64 tl) ∧ W.cell? ⟨w.heap.size, 1, none⟩ = some (.int .u64 tn) ∧ W.cell? ⟨w.heap.size, 2, none⟩ = some (.int .u64 tk)) 13 rfl hmxp ?_
    simp only [Array.replicate_succ, Array.replicate_zero, List.push_toArray, List.nil_append, List.cons_append]
    refine held_take (i := 0) (v := (.iface 24 (.pointer (some ⟨b, 0, none⟩)))) 8 rfl rfl (by kernel_rfl) (by kernel_rfl) (by kernel_rfl) rfl (fun w' hw' => by obtain ⟨q0, q1, q2⟩ := hw'; go_simp) hSa ?_
    simp only [Act.put, List.setIfInBounds_toArray, List.set_cons_zero, List.set_cons_succ]
    refine held_take (i := 1) (v := (.agg #[.int .u64 tl, .int .u64 tn, .int .u64 tk])) 9 rfl rfl (by kernel_rfl) (by kernel_rfl) (by kernel_rfl) rfl (fun w' hw' => by obtain ⟨q0, q1, q2⟩ := hw'; go_simp) hSa ?_
    simp only [Act.put, List.setIfInBounds_toArray, List.set_cons_zero, List.set_cons_succ]
    refine held_take (i := 4) (v := (.func (.method "Get") #[.iface 24 (.pointer (some ⟨b, 0, none⟩))] #[])) 12 rfl rfl (by kernel_rfl) (by kernel_rfl) (by kernel_rfl) rfl (fun w' hw' => by obtain ⟨q0, q1, q2⟩ := hw'; go_simp) hSa ?_
    simp only [Act.put, List.setIfInBounds_toArray, List.set_cons_zero, List.set_cons_succ]
    refine held_take (i := 5) (v := (.func (.method "Get") #[.iface 24 (.pointer (some ⟨b, 0, none⟩))] #[])) 13 rfl rfl (by kernel_rfl) (by kernel_rfl) (by kernel_rfl) rfl (fun w' hw' => by obtain ⟨q0, q1, q2⟩ := hw'; go_simp) hSa ?_
    simp only [Act.put, List.setIfInBounds_toArray, List.set_cons_zero, List.set_cons_succ]
    refine held_take (i := 6) (v := (.iface 24 (.pointer (some ⟨b, 0, none⟩)))) 14 rfl rfl (by kernel_rfl) (by kernel_rfl) (by kernel_rfl) rfl (fun w' hw' => by obtain ⟨q0, q1, q2⟩ := hw'; go_simp) hSa ?_
    simp only [Act.put, List.setIfInBounds_toArray, List.set_cons_zero, List.set_cons_succ]
    refine held_call (i := 2) (f := 45) (args := #[.agg #[.int .u64 tl, .int .u64 tn, .int .u64 tk]]) 10 (by kernel_rfl) rfl rfl rfl (by go_simp) ?_
    refine (node_any ⟨tl, tn, tk⟩ _).mono ?_
    rintro e_ w1 ⟨rfl, o_, hw_⟩
    replace HH := hid (HH.out.new (X' := w1) (by rw [hw_]; exact ((Keeps.refl _ _).drew).alloc o_))
    have hSb : w1.cell? ⟨w.heap.size, 0, none⟩ = some (.int .u64 tl) ∧ w1.cell? ⟨w.heap.size, 1, none⟩ = some (.int .u64 tn) ∧ w1.cell? ⟨w.heap.size, 2, none⟩ = some (.int .u64 tk) := ⟨HH.out.sp.c0, HH.out.sp.c1, HH.out.sp.c2⟩
    clear hw_ hSa
    refine ⟨_, rfl, hSb, ?_⟩
    simp only [Act.put, List.setIfInBounds_toArray, List.set_cons_zero, List.set_cons_succ]
    refine held_call (i := 3) (f := 55) (args := #[.int .u64 (Sp.nd ⟨tl, tn, tk⟩)]) 11 (by kernel_rfl) rfl rfl rfl (by go_simp) ?_
    refine (leads_any _ _).mono ?_
    rintro e_ w_ ⟨rfl, hw_⟩
    subst w_
    refine ⟨_, rfl, hSb, ?_⟩
    simp only [Act.put, List.setIfInBounds_toArray, List.set_cons_zero, List.set_cons_succ]
    refine held_call (i := 7) (f := 74) (args := #[.pointer (some ⟨b, 0, none⟩), .int .u64 (ld (Sp.nd ⟨tl, tn, tk⟩))]) 15 (by kernel_rfl) rfl rfl rfl (by go_simp) ?_
    refine (tget_r HE1 (uw_isW _) HH.out.hs.wd).mono ?_
    rintro e_ w2 ⟨rfl, h2, k2⟩
    replace HH := hid (HH.out.acc k2 h2)
    have hSc : w2.cell? ⟨w.heap.size, 0, none⟩ = some (.int .u64 tl) ∧ w2.cell? ⟨w.heap.size, 1, none⟩ = some (.int .u64 tn) ∧ w2.cell? ⟨w.heap.size, 2, none⟩ = some (.int .u64 tk) := ⟨HH.out.sp.c0, HH.out.sp.c1, HH.out.sp.c2⟩
    clear h2 k2 hSb
    refine ⟨_, rfl, hSc, ?_⟩
    simp only [Act.put, List.setIfInBounds_toArray, List.set_cons_zero, List.set_cons_succ]
    refine held_take (i := 8) (v := (.tuple #[.int .u64 x, .int .i64 0])) 7 rfl rfl (by kernel_rfl) (by kernel_rfl) (by kernel_rfl) rfl (fun w' hw' => by obtain ⟨q0, q1, q2⟩ := hw'; go_simp) hSc ?_
    simp only [Act.put, List.setIfInBounds_toArray, List.set_cons_zero, List.set_cons_succ]
    refine held_take (i := 9) (v := (.int .u64 x)) 16 rfl rfl (by kernel_rfl) (by kernel_rfl) (by kernel_rfl) rfl (fun w' hw' => by obtain ⟨q0, q1, q2⟩ := hw'; go_simp) hSc ?_
    simp only [Act.put, List.setIfInBounds_toArray, List.set_cons_zero, List.set_cons_succ]
    refine held_take (i := 10) (v := (.int .i64 0)) 17 rfl rfl (by kernel_rfl) (by kernel_rfl) (by kernel_rfl) rfl (fun w' hw' => by obtain ⟨q0, q1, q2⟩ := hw'; go_simp) hSc ?_
    simp only [Act.put, List.setIfInBounds_toArray, List.set_cons_zero, List.set_cons_succ]
    refine held_take (i := 11) (v := (.int .u64 x)) 5 rfl rfl (by kernel_rfl) (by kernel_rfl) (by kernel_rfl) rfl (fun w' hw' => by obtain ⟨q0, q1, q2⟩ := hw'; go_simp) hSc ?_
    simp only [Act.put, List.setIfInBounds_toArray, List.set_cons_zero, List.set_cons_succ]
    refine held_take (i := 12) (v := (.int .i64 0)) 6 rfl rfl (by kernel_rfl) (by kernel_rfl) (by kernel_rfl) rfl (fun w' hw' => by obtain ⟨q0, q1, q2⟩ := hw'; go_simp) hSc ?_
    simp only [Act.put, List.setIfInBounds_toArray, List.set_cons_zero, List.set_cons_succ]
    refine held_end (by kernel_rfl) ?_ _
    clear hSc
    have q0 := HH.out.sp.c0
    go_wp2_with fail
    have hh := HH.out
    refine (tput_r HE2 htl hwx hh.hs.wd).mono ?_
    rintro e_ w3 ⟨rfl, h3, k3⟩
    replace HH := hid (hh.acc k3 h3)
    clear hh h3 k3
    go_wp2_with fail
    go_ret
    exact ⟨rfl, HH.out.hs.wd, HH.out.hs.k⟩
  · skip
    have hs : s.unhang ⟨tl, tn, tk⟩ = (e, s1) := by
      unfold Wd.unhang
      simp [eq1, hze]
    rw [hs]
    have HE1 : Hid (_ = _) := eq1
    clear hs eq1
    unfold Sp.v
    go_enter Try.func43, Try.ntmps43
    go_wp2_with fail
    have hSa : (w.alloc (.cells #[.int .u64 tl, .int .u64 tn, .int .u64 tk] 75)).drew.cell? ⟨w.heap.size, 0, none⟩ = some (.int .u64 tl) ∧ (w.alloc (.cells #[.int .u64 tl, .int .u64 tn, .int .u64 tk] 75)).drew.cell? ⟨w.heap.size, 1, none⟩ = some (.int .u64 tn) ∧ (w.alloc (.cells #[.int .u64 tl, .int .u64 tn, .int .u64 tk] 75)).drew.cell? ⟨w.heap.size, 2, none⟩ = some (.int .u64 tk) := ⟨HH.out.sp.c0, HH.out.sp.c1, HH.out.sp.c2⟩
    refine wp_held_end (S := fun W : World => W.cell? ⟨w.heap.size, 0, none⟩ = some (.int .u64 tl) ∧ W.cell? ⟨w.heap.size, 1, none⟩ = some (.int .u64 tn) ∧ W.cell? ⟨w.heap.size, 2, none⟩ = some (.int .u64 tk)) 13 rfl hmxp ?_
    simp only [Array.replicate_succ, Array.replicate_zero, List.push_toArray, List.nil_append, List.cons_append]
    refine held_take (i := 0) (v := (.iface 24 (.pointer (some ⟨b, 0, none⟩)))) 8 rfl rfl (by kernel_rfl) (by kernel_rfl) (by kernel_rfl) rfl (fun w' hw' => by obtain ⟨q0, q1, q2⟩ := hw'; go_simp) hSa ?_
    simp only [Act.put, List.setIfInBounds_toArray, List.set_cons_zero, List.set_cons_succ]
    refine held_take (i := 1) (v := (.agg #[.int .u64 tl, .int .u64 tn, .int .u64 tk])) 9 rfl rfl (by kernel_rfl) (by kernel_rfl) (by kernel_rfl) rfl (fun w' hw' => by obtain ⟨q0, q1, q2⟩ := hw'; go_simp) hSa ?_
    simp only [Act.put, List.setIfInBounds_toArray, List.set_cons_zero, List.set_cons_succ]
    refine held_take (i := 4) (v := (.func (.method "Get") #[.iface 24 (.pointer (some ⟨b, 0, none⟩))] #[])) 12 rfl rfl (by kernel_rfl) (by kernel_rfl) (by kernel_rfl) rfl (fun w' hw' => by obtain ⟨q0, q1, q2⟩ := hw'; go_simp) hSa ?_
    simp only [Act.put, List.setIfInBounds_toArray, List.set_cons_zero, List.set_cons_succ]
    refine held_take (i := 5) (v := (.func (.method "Get") #[.iface 24 (.pointer (some ⟨b, 0, none⟩))] #[])) 13 rfl rfl (by kernel_rfl) (by kernel_rfl) (by kernel_rfl) rfl (fun w' hw' => by obtain ⟨q0, q1, q2⟩ := hw'; go_simp) hSa ?_
    simp only [Act.put, List.setIfInBounds_toArray, List.set_cons_zero, List.set_cons_succ]
    refine held_take (i := 6) (v := (.iface 24 (.pointer (some ⟨b, 0, none⟩)))) 14 rfl rfl (by kernel_rfl) (by kernel_rfl) (by kernel_rfl) rfl (fun w' hw' => by obtain ⟨q0, q1, q2⟩ := hw'; go_simp) hSa ?_
    simp only [Act.put, List.setIfInBounds_toArray, List.set_cons_zero, List.set_cons_succ]
    refine held_call (i := 2) (f := 45) (args := #[.agg #[.int .u64 tl, .int .u64 tn, .int .u64 tk]]) 10 (by kernel_rfl) rfl rfl rfl (by go_simp) ?_
    refine (node_any ⟨tl, tn, tk⟩ _).mono ?_
    rintro e_ w1 ⟨rfl, o_, hw_⟩
    replace HH := hid (HH.out.new (X' := w1) (by rw [hw_]; exact ((Keeps.refl _ _).drew).alloc o_))
    have hSb : w1.cell? ⟨w.heap.size, 0, none⟩ = some (.int .u64 tl) ∧ w1.cell? ⟨w.heap.size, 1, none⟩ = some (.int .u64 tn) ∧ w1.cell? ⟨w.heap.size, 2, none⟩ = some (.int .u64 tk) := ⟨HH.out.sp.c0, HH.out.sp.c1, HH.out.sp.c2⟩
    clear hw_ hSa
    refine ⟨_, rfl, hSb, ?_⟩
    simp only [Act.put, List.setIfInBounds_toArray, List.set_cons_zero, List.set_cons_succ]
    refine held_call (i := 3) (f := 55) (args := #[.int .u64 (Sp.nd ⟨tl, tn, tk⟩)]) 11 (by kernel_rfl) rfl rfl rfl (by go_simp) ?_
    refine (leads_any _ _).mono ?_
    rintro e_ w_ ⟨rfl, hw_⟩
    subst w_
    refine ⟨_, rfl, hSb, ?_⟩
    simp only [Act.put, List.setIfInBounds_toArray, List.set_cons_zero, List.set_cons_succ]
    refine held_call (i := 7) (f := 74) (args := #[.pointer (some ⟨b, 0, none⟩), .int .u64 (ld (Sp.nd ⟨tl, tn, tk⟩))]) 15 (by kernel_rfl) rfl rfl rfl (by go_simp) ?_
    refine (tget_r HE1 (uw_isW _) HH.out.hs.wd).mono ?_
    rintro e_ w2 ⟨rfl, h2, k2⟩
    replace HH := hid (HH.out.acc k2 h2)
    have hSc : w2.cell? ⟨w.heap.size, 0, none⟩ = some (.int .u64 tl) ∧ w2.cell? ⟨w.heap.size, 1, none⟩ = some (.int .u64 tn) ∧ w2.cell? ⟨w.heap.size, 2, none⟩ = some (.int .u64 tk) := ⟨HH.out.sp.c0, HH.out.sp.c1, HH.out.sp.c2⟩
    clear h2 k2 hSb
    refine ⟨_, rfl, hSc, ?_⟩
    simp only [Act.put, List.setIfInBounds_toArray, List.set_cons_zero, List.set_cons_succ]
    refine held_take (i := 8) (v := (.tuple #[.int .u64 x, .int .i64 e])) 7 rfl rfl (by kernel_rfl) (by kernel_rfl) (by kernel_rfl) rfl (fun w' hw' => by obtain ⟨q0, q1, q2⟩ := hw'; go_simp) hSc ?_
    simp only [Act.put, List.setIfInBounds_toArray, List.set_cons_zero, List.set_cons_succ]
    refine held_take (i := 9) (v := (.int .u64 x)) 16 rfl rfl (by kernel_rfl) (by kernel_rfl) (by kernel_rfl) rfl (fun w' hw' => by obtain ⟨q0, q1, q2⟩ := hw'; go_simp) hSc ?_
    simp only [Act.put, List.setIfInBounds_toArray, List.set_cons_zero, List.set_cons_succ]
    refine held_take (i := 10) (v := (.int .i64 e)) 17 rfl rfl (by kernel_rfl) (by kernel_rfl) (by kernel_rfl) rfl (fun w' hw' => by obtain ⟨q0, q1, q2⟩ := hw'; go_simp) hSc ?_
    simp only [Act.put, List.setIfInBounds_toArray, List.set_cons_zero, List.set_cons_succ]
    refine held_take (i := 11) (v := (.int .u64 x)) 5 rfl rfl (by kernel_rfl) (by kernel_rfl) (by kernel_rfl) rfl (fun w' hw' => by obtain ⟨q0, q1, q2⟩ := hw'; go_simp) hSc ?_
    simp only [Act.put, List.setIfInBounds_toArray, List.set_cons_zero, List.set_cons_succ]
    refine held_take (i := 12) (v := (.int .i64 e)) 6 rfl rfl (by kernel_rfl) (by kernel_rfl) (by kernel_rfl) rfl (fun w' hw' => by obtain ⟨q0, q1, q2⟩ := hw'; go_simp) hSc ?_
    simp only [Act.put, List.setIfInBounds_toArray, List.set_cons_zero, List.set_cons_succ]
    refine held_end (by kernel_rfl) ?_ _
    clear hSc
    go_wp2_with fail
    go_ret
    exact ⟨rfl, HH.out.hs.wd, HH.out.hs.k⟩
theorem unhang_r {b g c : Nat} {s : Wd} {t : Sp} {e1 : Int} {s1 : Wd} (heq : Hid (s.unhang t = (e1, s1))) (ht : t.Ok) {w : World} (h : WdAt w b g c s) :
    Calls Try.prog 43 #[.iface 24 (.pointer (some ⟨b, 0, none⟩)), t.v] w fun e w' => e = .returned (.int .i64 e1) ∧ WdAt w' b g c s1 ∧ Keeps (two b g) w w' := by
  have q := unhang_any b g c s t ht w h
  rw [heq.out] at q
  exact q
end Go.Proofs.Ytmnbilhblkobdaa
