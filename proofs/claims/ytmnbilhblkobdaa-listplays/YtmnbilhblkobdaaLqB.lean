
/- The walks of empty, recount, hang and unhang (layer 21). No statement of the seat is proved here. -/
import Derived.Test.YtmnbilhblkobdaaLqA
namespace Go.Proofs.Ytmnbilhblkobdaa
open Go.RowKit

set_option maxHeartbeats 1000000 in
theorem recount_any (b g c : Nat) (s : Wd) (l more : Int) (hl : isW l) (w : World) (h : WdAt w b g c s) :
    Calls Try.prog 40 #[.iface 24 (.pointer (some ⟨b, 0, none⟩)), .int .u64 l, .int .u64 more] w fun e w' => e = .returned (.int .i64 (s.recount l more).1) ∧ WdAt w' b g c (s.recount l more).2 ∧ Keeps (two b g) w w' := by
  have mg := meth_get b
  have mp := meth_put b
  have ng := nil_get b
  have np := nil_put b
  have oks : s.Ok := h.ok
  have HH := hid (Hs.start h)
  clear h
  obtain ⟨⟨⟨x, e⟩, s1⟩, eq1⟩ : ∃ r, s.get (l) = r := ⟨_, rfl⟩
  have hwx : isW x := get_isW eq1 oks
  have oks1 : s1.Ok := by have q := (oks.get (l)).1; rw [eq1] at q; exact q
  by_cases hze : e = 0
  · subst hze
    obtain ⟨⟨f, s2⟩, eq2⟩ : ∃ r, s1.put (l) (uw (x + more)) = r := ⟨_, rfl⟩
    have hs : s.recount l more = (f, s2) := by
      unfold Wd.recount
      simp [eq1, eq2]
    rw [hs]
    have HE1 : Hid (_ = _) := eq1
    have HE2 : Hid (_ = _) := eq2
    clear hs eq1 eq2
    go_enter Try.func40, Try.ntmps40
    go_wp2_with fail
    have hh := HH.out
    refine (tget_r HE1 hl hh.wd).mono ?_
    rintro e_ w1 ⟨rfl, h1, k1⟩
    replace HH := hid (hh.acc k1 h1)
    clear hh h1 k1
    go_wp2_with fail
    have hh := HH.out
    refine (tput_r HE2 hl (uw_isW _) hh.wd).mono ?_
    rintro e_ w2 ⟨rfl, h2, k2⟩
    replace HH := hid (hh.acc k2 h2)
    clear hh h2 k2
    go_wp2_with fail
    go_ret
    exact ⟨rfl, HH.out.wd, HH.out.k⟩
  · skip
    have hs : s.recount l more = (e, s1) := by
      unfold Wd.recount
      simp [eq1, hze]
    rw [hs]
    have HE1 : Hid (_ = _) := eq1
    clear hs eq1
    go_enter Try.func40, Try.ntmps40
    go_wp2_with fail
    have hh := HH.out
    refine (tget_r HE1 hl hh.wd).mono ?_
    rintro e_ w1 ⟨rfl, h1, k1⟩
    replace HH := hid (hh.acc k1 h1)
    clear hh h1 k1
    go_wp2_with fail
    go_ret
    exact ⟨rfl, HH.out.wd, HH.out.k⟩
theorem recount_r {b g c : Nat} {s : Wd} {l more : Int} {e1 : Int} {s1 : Wd} (heq : Hid (s.recount l more = (e1, s1))) (hl : isW l) {w : World} (h : WdAt w b g c s) :
    Calls Try.prog 40 #[.iface 24 (.pointer (some ⟨b, 0, none⟩)), .int .u64 l, .int .u64 more] w fun e w' => e = .returned (.int .i64 e1) ∧ WdAt w' b g c s1 ∧ Keeps (two b g) w w' := by
  have q := recount_any b g c s l more hl w h
  rw [heq.out] at q
  exact q
set_option maxHeartbeats 1000000 in
theorem empty_any (b g c : Nat) (s : Wd) (l : Int) (hl : isW l) (w : World) (h : WdAt w b g c s) :
    Calls Try.prog 36 #[.iface 24 (.pointer (some ⟨b, 0, none⟩)), .int .u64 l] w fun e w' => e = .returned (.int .i64 (s.empty l).1) ∧ WdAt w' b g c (s.empty l).2 ∧ Keeps (two b g) w w' := by
  have mg := meth_get b
  have mp := meth_put b
  have ng := nil_get b
  have np := nil_put b
  have oks : s.Ok := h.ok
  have HH := hid (Hs.start h)
  clear h
  obtain ⟨⟨e, s1⟩, eq1⟩ : ∃ r, s.put (l) (0) = r := ⟨_, rfl⟩
  by_cases hze : e = 0
  · subst hze
    obtain ⟨⟨f, s2⟩, eq2⟩ : ∃ r, s1.put (ld l) (0) = r := ⟨_, rfl⟩
    have hs : s.empty l = (f, s2) := by
      unfold Wd.empty
      simp [eq1, eq2]
    rw [hs]
    have HE1 : Hid (_ = _) := eq1
    have HE2 : Hid (_ = _) := eq2
    clear hs eq1 eq2
    go_enter Try.func36, Try.ntmps36
    go_wp2_with fail
    have hh := HH.out
    refine (tput_r HE1 hl zero_isW hh.wd).mono ?_
    rintro e_ w1 ⟨rfl, h1, k1⟩
    replace HH := hid (hh.acc k1 h1)
    clear hh h1 k1
    go_wp2_with fail
    refine wp_held_end (S := fun W : World => True) 8 rfl hmxp ?_
    simp only [Array.replicate_succ, Array.replicate_zero, List.push_toArray, List.nil_append, List.cons_append]
    refine held_take (i := 0) (v := (.iface 24 (.pointer (some ⟨b, 0, none⟩)))) 12 rfl rfl (by kernel_rfl) (by kernel_rfl) (by kernel_rfl) rfl (fun w' hw' => by go_simp) trivial ?_
    simp only [Act.put, List.setIfInBounds_toArray, List.set_cons_zero, List.set_cons_succ]
    refine held_take (i := 1) (v := (.int .u64 l)) 13 rfl rfl (by kernel_rfl) (by kernel_rfl) (by kernel_rfl) rfl (fun w' hw' => by go_simp) trivial ?_
    simp only [Act.put, List.setIfInBounds_toArray, List.set_cons_zero, List.set_cons_succ]
    refine held_take (i := 3) (v := (.func (.method "Put") #[.iface 24 (.pointer (some ⟨b, 0, none⟩))] #[])) 15 rfl rfl (by kernel_rfl) (by kernel_rfl) (by kernel_rfl) rfl (fun w' hw' => by go_simp) trivial ?_
    simp only [Act.put, List.setIfInBounds_toArray, List.set_cons_zero, List.set_cons_succ]
    refine held_take (i := 4) (v := (.func (.method "Put") #[.iface 24 (.pointer (some ⟨b, 0, none⟩))] #[])) 16 rfl rfl (by kernel_rfl) (by kernel_rfl) (by kernel_rfl) rfl (fun w' hw' => by go_simp) trivial ?_
    simp only [Act.put, List.setIfInBounds_toArray, List.set_cons_zero, List.set_cons_succ]
    refine held_take (i := 5) (v := (.iface 24 (.pointer (some ⟨b, 0, none⟩)))) 17 rfl rfl (by kernel_rfl) (by kernel_rfl) (by kernel_rfl) rfl (fun w' hw' => by go_simp) trivial ?_
    simp only [Act.put, List.setIfInBounds_toArray, List.set_cons_zero, List.set_cons_succ]
    refine held_call (i := 2) (f := 55) (args := #[.int .u64 l]) 14 (by kernel_rfl) rfl rfl rfl (by go_simp) ?_
    refine (leads_any l _).mono ?_
    rintro e_ w_ ⟨rfl, hw_⟩
    subst w_
    refine ⟨_, rfl, trivial, ?_⟩
    simp only [Act.put, List.setIfInBounds_toArray, List.set_cons_zero, List.set_cons_succ]
    refine held_call (i := 6) (f := 75) (args := #[.pointer (some ⟨b, 0, none⟩), .int .u64 (ld l), .int .u64 0]) 18 (by kernel_rfl) rfl rfl rfl (by go_simp) ?_
    refine (tput_r HE2 (uw_isW _) zero_isW HH.out.wd.drew).mono ?_
    rintro e_ w2 ⟨rfl, h2, k2⟩
    have kd : Keeps (two b g) w1 w1.drew := (Keeps.refl _ w1).drew
    replace HH := hid (HH.out.acc (kd.trans k2) h2)
    clear h2 k2 kd
    refine ⟨_, rfl, trivial, ?_⟩
    simp only [Act.put, List.setIfInBounds_toArray, List.set_cons_zero, List.set_cons_succ]
    refine held_take (i := 7) (v := (.int .i64 f)) 4 rfl rfl (by kernel_rfl) (by kernel_rfl) (by kernel_rfl) rfl (fun w' hw' => by go_simp) trivial ?_
    simp only [Act.put, List.setIfInBounds_toArray, List.set_cons_zero, List.set_cons_succ]
    refine held_end (by kernel_rfl) ?_ _
    go_wp2_with fail
    go_ret
    exact ⟨rfl, HH.out.wd, HH.out.k⟩
  · skip
    have hs : s.empty l = (e, s1) := by
      unfold Wd.empty
      simp [eq1, hze]
    rw [hs]
    have HE1 : Hid (_ = _) := eq1
    clear hs eq1
    go_enter Try.func36, Try.ntmps36
    go_wp2_with fail
    have hh := HH.out
    refine (tput_r HE1 hl zero_isW hh.wd).mono ?_
    rintro e_ w1 ⟨rfl, h1, k1⟩
    replace HH := hid (hh.acc k1 h1)
    clear hh h1 k1
    go_wp2_with fail
    go_ret
    exact ⟨rfl, HH.out.wd, HH.out.k⟩
theorem empty_r {b g c : Nat} {s : Wd} {l : Int} {e1 : Int} {s1 : Wd} (heq : Hid (s.empty l = (e1, s1))) (hl : isW l) {w : World} (h : WdAt w b g c s) :
    Calls Try.prog 36 #[.iface 24 (.pointer (some ⟨b, 0, none⟩)), .int .u64 l] w fun e w' => e = .returned (.int .i64 e1) ∧ WdAt w' b g c s1 ∧ Keeps (two b g) w w' := by
  have q := empty_any b g c s l hl w h
  rw [heq.out] at q
  exact q
set_option maxHeartbeats 1000000 in
theorem hang_any (b g c : Nat) (s : Wd) (t : Sp) (node key : Int) (ht : t.Ok) (hnode : isW node) (hkey : isW key) (w : World) (h : WdAt w b g c s) :
    Calls Try.prog 39 #[.iface 24 (.pointer (some ⟨b, 0, none⟩)), t.v, .int .u64 node, .int .u64 key] w fun e w' => e = .returned (.int .i64 (s.hang t node key).1) ∧ WdAt w' b g c (s.hang t node key).2 ∧ Keeps (two b g) w w' := by
  have mg := meth_get b
  have mp := meth_put b
  have ng := nil_get b
  have np := nil_put b
  have oks : s.Ok := h.ok
  have HH := hid (Hs.start h)
  clear h
  have HH := hid (HH.out.spot t)
  obtain ⟨tl, tn, tk⟩ := t
  obtain ⟨htl, htn, htk⟩ := ht
  obtain ⟨⟨e, s1⟩, eq1⟩ : ∃ r, s.put (node) (key) = r := ⟨_, rfl⟩
  by_cases hze : e = 0
  · subst hze
    obtain ⟨⟨f, s2⟩, eq2⟩ : ∃ r, s1.put (ld node) (tn) = r := ⟨_, rfl⟩
    by_cases hzf : f = 0
    · subst hzf
      obtain ⟨⟨f2, s3⟩, eq3⟩ : ∃ r, s2.put (tl) (uw (node + 1)) = r := ⟨_, rfl⟩
      have hs : s.hang ⟨tl, tn, tk⟩ node key = (f2, s3) := by
        unfold Wd.hang
        simp [eq1, eq2, eq3]
      rw [hs]
      have HE1 : Hid (_ = _) := eq1
      have HE2 : Hid (_ = _) := eq2
      have HE3 : Hid (_ = _) := eq3
      clear hs eq1 eq2 eq3
      unfold Sp.v
      go_enter Try.func39, Try.ntmps39
      go_wp2_with fail
      have hh := HH.out
      refine (tput_r HE1 hnode hkey hh.hs.wd).mono ?_
      rintro e_ w1 ⟨rfl, h1, k1⟩
      replace HH := hid (hh.acc k1 h1)
      clear hh h1 k1
      go_wp2_with fail
      have hSa : w1.drew.cell? ⟨w.heap.size, 1, none⟩ = some (.int .u64 tn) := HH.out.sp.c1
      refine wp_held_end (S := fun W : World => W.cell? ⟨w.heap.size, 1, none⟩ = some (.int .u64 tn)) 10 rfl hmxp ?_
      simp only [Array.replicate_succ, Array.replicate_zero, List.push_toArray, List.nil_append, List.cons_append]
      refine held_take (i := 0) (v := (.iface 24 (.pointer (some ⟨b, 0, none⟩)))) 16 rfl rfl (by kernel_rfl) (by kernel_rfl) (by kernel_rfl) rfl (fun w' hw' => by obtain q0 := hw'; go_simp) hSa ?_
      simp only [Act.put, List.setIfInBounds_toArray, List.set_cons_zero, List.set_cons_succ]
      refine held_take (i := 1) (v := (.int .u64 node)) 17 rfl rfl (by kernel_rfl) (by kernel_rfl) (by kernel_rfl) rfl (fun w' hw' => by obtain q0 := hw'; go_simp) hSa ?_
      simp only [Act.put, List.setIfInBounds_toArray, List.set_cons_zero, List.set_cons_succ]
      refine held_take (i := 3) (v := (.pointer (some ⟨w.heap.size, 1, none⟩))) 19 rfl rfl (by kernel_rfl) (by kernel_rfl) (by kernel_rfl) rfl (fun w' hw' => by obtain q0 := hw'; go_simp) hSa ?_
      simp only [Act.put, List.setIfInBounds_toArray, List.set_cons_zero, List.set_cons_succ]
      refine held_take (i := 4) (v := (.int .u64 tn)) 20 rfl rfl (by kernel_rfl) (by kernel_rfl) (by kernel_rfl) rfl (fun w' hw' => by obtain q0 := hw'; go_simp) hSa ?_
      simp only [Act.put, List.setIfInBounds_toArray, List.set_cons_zero, List.set_cons_succ]
      refine held_take (i := 5) (v := (.func (.method "Put") #[.iface 24 (.pointer (some ⟨b, 0, none⟩))] #[])) 21 rfl rfl (by kernel_rfl) (by kernel_rfl) (by kernel_rfl) rfl (fun w' hw' => by obtain q0 := hw'; go_simp) hSa ?_
      simp only [Act.put, List.setIfInBounds_toArray, List.set_cons_zero, List.set_cons_succ]
      refine held_take (i := 6) (v := (.func (.method "Put") #[.iface 24 (.pointer (some ⟨b, 0, none⟩))] #[])) 22 rfl rfl (by kernel_rfl) (by kernel_rfl) (by kernel_rfl) rfl (fun w' hw' => by obtain q0 := hw'; go_simp) hSa ?_
      simp only [Act.put, List.setIfInBounds_toArray, List.set_cons_zero, List.set_cons_succ]
      refine held_take (i := 7) (v := (.iface 24 (.pointer (some ⟨b, 0, none⟩)))) 23 rfl rfl (by kernel_rfl) (by kernel_rfl) (by kernel_rfl) rfl (fun w' hw' => by obtain q0 := hw'; go_simp) hSa ?_
      simp only [Act.put, List.setIfInBounds_toArray, List.set_cons_zero, List.set_cons_succ]
      refine held_call (i := 2) (f := 55) (args := #[.int .u64 node]) 18 (by kernel_rfl) rfl rfl rfl (by go_simp) ?_
      refine (leads_any node _).mono ?_
      rintro e_ w_ ⟨rfl, hw_⟩
      subst w_
      refine ⟨_, rfl, hSa, ?_⟩
      simp only [Act.put, List.setIfInBounds_toArray, List.set_cons_zero, List.set_cons_succ]
      refine held_call (i := 8) (f := 75) (args := #[.pointer (some ⟨b, 0, none⟩), .int .u64 (ld node), .int .u64 tn]) 24 (by kernel_rfl) rfl rfl rfl (by go_simp) ?_
      refine (tput_r HE2 (uw_isW _) htn HH.out.hs.wd.drew).mono ?_
      rintro e_ w2 ⟨rfl, h2, k2⟩
      have kd : Keeps (two b g) w1 w1.drew := (Keeps.refl _ w1).drew
      replace HH := hid (HH.out.acc (kd.trans k2) h2)
      have hSb : w2.cell? ⟨w.heap.size, 1, none⟩ = some (.int .u64 tn) := HH.out.sp.c1
      clear h2 k2 kd
      refine ⟨_, rfl, hSb, ?_⟩
      simp only [Act.put, List.setIfInBounds_toArray, List.set_cons_zero, List.set_cons_succ]
      refine held_take (i := 9) (v := (.int .i64 0)) 9 rfl rfl (by kernel_rfl) (by kernel_rfl) (by kernel_rfl) rfl (fun w' hw' => by obtain q0 := hw'; go_simp) hSb ?_
      simp only [Act.put, List.setIfInBounds_toArray, List.set_cons_zero, List.set_cons_succ]
      refine held_end (by kernel_rfl) ?_ _
      clear hSa hSb
      have q0 := HH.out.sp.c0
      go_wp2_with fail
      have hh := HH.out
      refine (tput_r HE3 htl (uw_isW _) hh.hs.wd).mono ?_
      rintro e_ w3 ⟨rfl, h3, k3⟩
      replace HH := hid (hh.acc k3 h3)
      clear hh h3 k3
      go_wp2_with fail
      go_ret
      exact ⟨rfl, HH.out.hs.wd, HH.out.hs.k⟩
    · skip
      have hs : s.hang ⟨tl, tn, tk⟩ node key = (f, s2) := by
        unfold Wd.hang
        simp [eq1, eq2, hzf]
      rw [hs]
      have HE1 : Hid (_ = _) := eq1
      have HE2 : Hid (_ = _) := eq2
      clear hs eq1 eq2
      unfold Sp.v
      go_enter Try.func39, Try.ntmps39
      go_wp2_with fail
      have hh := HH.out
      refine (tput_r HE1 hnode hkey hh.hs.wd).mono ?_
      rintro e_ w1 ⟨rfl, h1, k1⟩
      replace HH := hid (hh.acc k1 h1)
      clear hh h1 k1
      go_wp2_with fail
      have hSa : w1.drew.cell? ⟨w.heap.size, 1, none⟩ = some (.int .u64 tn) := HH.out.sp.c1
      refine wp_held_end (S := fun W : World => W.cell? ⟨w.heap.size, 1, none⟩ = some (.int .u64 tn)) 10 rfl hmxp ?_
      simp only [Array.replicate_succ, Array.replicate_zero, List.push_toArray, List.nil_append, List.cons_append]
      refine held_take (i := 0) (v := (.iface 24 (.pointer (some ⟨b, 0, none⟩)))) 16 rfl rfl (by kernel_rfl) (by kernel_rfl) (by kernel_rfl) rfl (fun w' hw' => by obtain q0 := hw'; go_simp) hSa ?_
      simp only [Act.put, List.setIfInBounds_toArray, List.set_cons_zero, List.set_cons_succ]
      refine held_take (i := 1) (v := (.int .u64 node)) 17 rfl rfl (by kernel_rfl) (by kernel_rfl) (by kernel_rfl) rfl (fun w' hw' => by obtain q0 := hw'; go_simp) hSa ?_
      simp only [Act.put, List.setIfInBounds_toArray, List.set_cons_zero, List.set_cons_succ]
      refine held_take (i := 3) (v := (.pointer (some ⟨w.heap.size, 1, none⟩))) 19 rfl rfl (by kernel_rfl) (by kernel_rfl) (by kernel_rfl) rfl (fun w' hw' => by obtain q0 := hw'; go_simp) hSa ?_
      simp only [Act.put, List.setIfInBounds_toArray, List.set_cons_zero, List.set_cons_succ]
      refine held_take (i := 4) (v := (.int .u64 tn)) 20 rfl rfl (by kernel_rfl) (by kernel_rfl) (by kernel_rfl) rfl (fun w' hw' => by obtain q0 := hw'; go_simp) hSa ?_
      simp only [Act.put, List.setIfInBounds_toArray, List.set_cons_zero, List.set_cons_succ]
      refine held_take (i := 5) (v := (.func (.method "Put") #[.iface 24 (.pointer (some ⟨b, 0, none⟩))] #[])) 21 rfl rfl (by kernel_rfl) (by kernel_rfl) (by kernel_rfl) rfl (fun w' hw' => by obtain q0 := hw'; go_simp) hSa ?_
      simp only [Act.put, List.setIfInBounds_toArray, List.set_cons_zero, List.set_cons_succ]
      refine held_take (i := 6) (v := (.func (.method "Put") #[.iface 24 (.pointer (some ⟨b, 0, none⟩))] #[])) 22 rfl rfl (by kernel_rfl) (by kernel_rfl) (by kernel_rfl) rfl (fun w' hw' => by obtain q0 := hw'; go_simp) hSa ?_
      simp only [Act.put, List.setIfInBounds_toArray, List.set_cons_zero, List.set_cons_succ]
      refine held_take (i := 7) (v := (.iface 24 (.pointer (some ⟨b, 0, none⟩)))) 23 rfl rfl (by kernel_rfl) (by kernel_rfl) (by kernel_rfl) rfl (fun w' hw' => by obtain q0 := hw'; go_simp) hSa ?_
      simp only [Act.put, List.setIfInBounds_toArray, List.set_cons_zero, List.set_cons_succ]
      refine held_call (i := 2) (f := 55) (args := #[.int .u64 node]) 18 (by kernel_rfl) rfl rfl rfl (by go_simp) ?_
      refine (leads_any node _).mono ?_
      rintro e_ w_ ⟨rfl, hw_⟩
      subst w_
      refine ⟨_, rfl, hSa, ?_⟩
      simp only [Act.put, List.setIfInBounds_toArray, List.set_cons_zero, List.set_cons_succ]
      refine held_call (i := 8) (f := 75) (args := #[.pointer (some ⟨b, 0, none⟩), .int .u64 (ld node), .int .u64 tn]) 24 (by kernel_rfl) rfl rfl rfl (by go_simp) ?_
      refine (tput_r HE2 (uw_isW _) htn HH.out.hs.wd.drew).mono ?_
      rintro e_ w2 ⟨rfl, h2, k2⟩
      have kd : Keeps (two b g) w1 w1.drew := (Keeps.refl _ w1).drew
      replace HH := hid (HH.out.acc (kd.trans k2) h2)
      have hSb : w2.cell? ⟨w.heap.size, 1, none⟩ = some (.int .u64 tn) := HH.out.sp.c1
      clear h2 k2 kd
      refine ⟨_, rfl, hSb, ?_⟩
      simp only [Act.put, List.setIfInBounds_toArray, List.set_cons_zero, List.set_cons_succ]
      refine held_take (i := 9) (v := (.int .i64 f)) 9 rfl rfl (by kernel_rfl) (by kernel_rfl) (by kernel_rfl) rfl (fun w' hw' => by obtain q0 := hw'; go_simp) hSb ?_
      simp only [Act.put, List.setIfInBounds_toArray, List.set_cons_zero, List.set_cons_succ]
      refine held_end (by kernel_rfl) ?_ _
      clear hSa hSb
      go_wp2_with fail
      go_ret
      exact ⟨rfl, HH.out.hs.wd, HH.out.hs.k⟩
  · skip
    have hs : s.hang ⟨tl, tn, tk⟩ node key = (e, s1) := by
      unfold Wd.hang
      simp [eq1, hze]
    rw [hs]
    have HE1 : Hid (_ = _) := eq1
    clear hs eq1
    unfold Sp.v
    go_enter Try.func39, Try.ntmps39
    go_wp2_with fail
    have hh := HH.out
    refine (tput_r HE1 hnode hkey hh.hs.wd).mono ?_
    rintro e_ w1 ⟨rfl, h1, k1⟩
    replace HH := hid (hh.acc k1 h1)
    clear hh h1 k1
    go_wp2_with fail
    go_ret
    exact ⟨rfl, HH.out.hs.wd, HH.out.hs.k⟩
theorem hang_r {b g c : Nat} {s : Wd} {t : Sp} {node key : Int} {e1 : Int} {s1 : Wd} (heq : Hid (s.hang t node key = (e1, s1))) (ht : t.Ok) (hnode : isW node) (hkey : isW key) {w : World} (h : WdAt w b g c s) :
    Calls Try.prog 39 #[.iface 24 (.pointer (some ⟨b, 0, none⟩)), t.v, .int .u64 node, .int .u64 key] w fun e w' => e = .returned (.int .i64 e1) ∧ WdAt w' b g c s1 ∧ Keeps (two b g) w w' := by
  have q := hang_any b g c s t node key ht hnode hkey w h
  rw [heq.out] at q
  exact q
end Go.Proofs.Ytmnbilhblkobdaa
