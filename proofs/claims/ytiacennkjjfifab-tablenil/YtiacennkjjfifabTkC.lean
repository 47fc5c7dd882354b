
/- The walks of asked, Get and Put, of the statement's tx and of the document's tape (layer 25). No statement of the seat is proved here. -/
import Derived.Test.YtiacennkjjfifabTkB
namespace Go.Proofs.Ytiacennkjjfifab
open Go.RowKit

theorem WdAt.cell1 {T : TypeId} {w : World} {b g c : Nat} {s : Wd} (h : WdAt T w b g c s) : ∃ a' c', w.cell? ⟨b, 1, none⟩ = some (.slice a' s.L.length c') := by
  obtain ⟨v, h1, h2, _⟩ := h.lg
  rcases h2.2 with ⟨rfl, e⟩ | ⟨g', cap, cur, rfl, _⟩
  · exact ⟨none, 0, by rw [cell_of_block h1, e]; rfl⟩
  · exact ⟨_, _, by rw [cell_of_block h1]; rfl⟩
theorem Wd.ask_fl {s : Wd} {a : Int} (h : s.g < (s.L.length : Int)) (h2 : s.c ≠ 0) : s.ask a = s.c := by unfold Wd.ask; rw [if_pos ⟨h, h2⟩]
theorem Wd.ask_no {s : Wd} {a : Int} (h : ¬ (s.g < (s.L.length : Int) ∧ s.c ≠ 0)) (h2 : (s.W.length : Int) ≤ a) : s.ask a = 4 := by unfold Wd.ask; rw [if_neg h, if_pos h2]
theorem Wd.ask_ok {s : Wd} {a : Int} (h : ¬ (s.g < (s.L.length : Int) ∧ s.c ≠ 0)) (h2 : ¬ (s.W.length : Int) ≤ a) : s.ask a = 0 := by unfold Wd.ask; rw [if_neg h, if_neg h2]
theorem Wd.ask_in {s : Wd} {a : Int} (h : s.ask a = 0) : a < (s.W.length : Int) := by
  unfold Wd.ask at h
  split at h
  · rename_i q; exact absurd h q.2
  · split at h
    · cases h
    · omega
theorem get_isW {s : Wd} {a x e : Int} {s1 : Wd} (heq : s.get a = ((x, e), s1)) (h : s.Ok) : isW x := by
  have hq := (h.get a).2.1
  rw [heq] at hq
  exact hq
theorem size_acc : (Try.prog.info? 98).map (·.size) = some 3 := by kernel_rfl

set_option maxHeartbeats 10000000 in
theorem task_any (b g c : Nat) (s : Wd) (p : Bool) (a x : Int) (hr : Rm s 1) (w : World) (h : WdAt 65 w b g c s) :
    Calls Try.prog 68 #[.pointer (some ⟨b, 0, none⟩), .agg #[.bool p, .int .u64 a, .int .u64 x]] w fun e w' => e = .returned (.int .i64 ((s.lg ⟨p, a, x⟩).ask a)) ∧ Hs 65 w b g c w' (s.lg ⟨p, a, x⟩) := by
  have hlen := h.ok.2
  obtain ⟨r, hrr⟩ : ∃ r, (s.lg ⟨p, a, x⟩).ask a = r := ⟨_, rfl⟩
  rw [hrr]
  have HRR : Hid (_ = _) := hrr
  clear hrr
  have hwl : IntKind.u64.wrap (s.W.length : Int) = (s.W.length : Int) := by rw [IntKind.wrap_u64]; omega
  have HH : Hid (∀ X, X = w.alloc (.cells #[.bool p, .int .u64 a, .int .u64 x] 98) → Hs 65 w b g c X s ∧ Lo X b g w.heap.size (.cells #[.bool p, .int .u64 a, .int .u64 x] 98 (0, 0))) := by
    intro X hX
    subst hX
    exact ⟨(Hs.start h).new (keeps_new w _), Lo.new h _⟩
  have hbq : b ≠ w.heap.size := Nat.ne_of_lt h.ltb
  clear h
  go_enter Try.func68, Try.ntmps68
  go_wp2_with fail
  obtain ⟨X, hX⟩ : ∃ X, X = w.alloc (.cells #[.bool p, .int .u64 a, .int .u64 x] 98) := ⟨_, rfl⟩
  rw [← hX]
  have hx := HH.out X hX
  clear HH hX
  have hy1 : WdAt 65 X.drew b g c s := hx.1.wd.like rfl
  obtain ⟨v, v', w', t1, t2, t3, t4, ⟨a', c', t5⟩, t6, t7⟩ := hy1.tell hr ⟨p, a, x⟩
  have HT : Hid (Hs 65 w b g c (w'.setCell ⟨b, 1, none⟩ v') (s.lg ⟨p, a, x⟩) ∧ Lo (w'.setCell ⟨b, 1, none⟩ v') b g w.heap.size (.cells #[.bool p, .int .u64 a, .int .u64 x] 98 (0, 0))) := by
    have h1 := hx.1.drew.trans ⟨t6, t7⟩
    exact hid ⟨h1, (hx.2.like (X := X.drew) rfl).kq t7 (fun f => f)⟩
  have HR : Hid (_ = _) := t2
  have hfb : w'.frozen? ⟨b, 1, none⟩ = false := by
    obtain ⟨v, h1, _⟩ := hy1.lg
    exact frozen_of_block (t3.trans h1) 1
  have hcb : w'.cell? ⟨b, 1, none⟩ = some v := (World.cell?_of_block t3).trans t1
  have hlo := hx.2
  have hq0 : ∀ W : World, W.heap[w.heap.size]? = X.heap[w.heap.size]? → W.cell? ⟨w.heap.size, 0, none⟩ = some (.bool p) ∧ W.cell? ⟨w.heap.size, 1, none⟩ = some (.int .u64 a) ∧ W.cell? ⟨w.heap.size, 2, none⟩ = some (.int .u64 x) := by
    intro W hW
    have := hW.trans hlo.at_
    exact ⟨by rw [cell_of_block this]; rfl, by rw [cell_of_block this]; rfl, by rw [cell_of_block this]; rfl⟩
  have HQ := hid hq0
  have hqX := hq0 X rfl
  have S0 : X.drew.cell? ⟨b, 1, none⟩ = some v ∧ X.drew.cell? ⟨w.heap.size, 0, none⟩ = some (.bool p) ∧ X.drew.cell? ⟨w.heap.size, 1, none⟩ = some (.int .u64 a) ∧ X.drew.cell? ⟨w.heap.size, 2, none⟩ = some (.int .u64 x) := ⟨t1, hq0 _ rfl⟩
  have hql := hx.2.lt
  have hbl := hx.1.wd.ltb
  have S1 : (X.drew.alloc (.cells #[.bool p, .int .u64 a, .int .u64 x] 98)).cell? ⟨b, 1, none⟩ = some v ∧ (X.drew.alloc (.cells #[.bool p, .int .u64 a, .int .u64 x] 98)).cell? ⟨w.heap.size, 0, none⟩ = some (.bool p) ∧ (X.drew.alloc (.cells #[.bool p, .int .u64 a, .int .u64 x] 98)).cell? ⟨w.heap.size, 1, none⟩ = some (.int .u64 a) ∧ (X.drew.alloc (.cells #[.bool p, .int .u64 a, .int .u64 x] 98)).cell? ⟨w.heap.size, 2, none⟩ = some (.int .u64 x) := by
    have ka := keeps_new X.drew (.cells #[.bool p, .int .u64 a, .int .u64 x] 98)
    exact ⟨(World.cell?_of_block (ka.block b hbl (fun f => f))).trans t1, hq0 _ (ka.block _ hql (fun f => f))⟩
  have S2 : w'.cell? ⟨b, 1, none⟩ = some v ∧ w'.cell? ⟨w.heap.size, 0, none⟩ = some (.bool p) ∧ w'.cell? ⟨w.heap.size, 1, none⟩ = some (.int .u64 a) ∧ w'.cell? ⟨w.heap.size, 2, none⟩ = some (.int .u64 x) := ⟨hcb, hq0 _ (t4.block _ hql (hx.2.like (X := X.drew) rfl).no)⟩
  clear hq0 hlo t1 t2 t4 t6 t7 hy1 hcb hql hbl hqX HQ hx
  subst t5
  refine wp_until (S := fun W : World => W.cell? ⟨b, 1, none⟩ = some v ∧ W.cell? ⟨w.heap.size, 0, none⟩ = some (.bool p) ∧ W.cell? ⟨w.heap.size, 1, none⟩ = some (.int .u64 a) ∧ W.cell? ⟨w.heap.size, 2, none⟩ = some (.int .u64 x)) 10 11 rfl hmxp ?_
  simp only [Array.replicate_succ, Array.replicate_zero, List.push_toArray, List.nil_append, List.cons_append]
  refine u_take (i := 0) (v := (.pointer (some ⟨b, 0, none⟩))) 5 rfl rfl (by kernel_rfl) (by kernel_rfl) (by kernel_rfl) (by kernel_rfl) rfl (fun w' hw' => by obtain ⟨q0, q1, q2, q3⟩ := hw'; go_simp) S0 ?_
  simp only [Act.put, List.setIfInBounds_toArray, List.set_cons_zero, List.set_cons_succ]
  refine u_take (i := 1) (v := (.pointer (some ⟨b, 0, none⟩))) 6 rfl rfl (by kernel_rfl) (by kernel_rfl) (by kernel_rfl) (by kernel_rfl) rfl (fun w' hw' => by obtain ⟨q0, q1, q2, q3⟩ := hw'; go_simp) S0 ?_
  simp only [Act.put, List.setIfInBounds_toArray, List.set_cons_zero, List.set_cons_succ]
  refine u_take (i := 2) (v := (.pointer (some ⟨b, 0, none⟩))) 7 rfl rfl (by kernel_rfl) (by kernel_rfl) (by kernel_rfl) (by kernel_rfl) rfl (fun w' hw' => by obtain ⟨q0, q1, q2, q3⟩ := hw'; go_simp) S0 ?_
  simp only [Act.put, List.setIfInBounds_toArray, List.set_cons_zero, List.set_cons_succ]
  refine u_take (i := 3) (v := (.pointer (some ⟨b, 1, none⟩))) 8 rfl rfl (by kernel_rfl) (by kernel_rfl) (by kernel_rfl) (by kernel_rfl) rfl (fun w' hw' => by obtain ⟨q0, q1, q2, q3⟩ := hw'; go_simp) S0 ?_
  simp only [Act.put, List.setIfInBounds_toArray, List.set_cons_zero, List.set_cons_succ]
  refine u_take (i := 4) (v := (v)) 9 rfl rfl (by kernel_rfl) (by kernel_rfl) (by kernel_rfl) (by kernel_rfl) rfl (fun w' hw' => by obtain ⟨q0, q1, q2, q3⟩ := hw'; go_simp) S0 ?_
  simp only [Act.put, List.setIfInBounds_toArray, List.set_cons_zero, List.set_cons_succ]
  refine u_take (i := 5) (v := (.agg #[.bool p, .int .u64 a, .int .u64 x])) 10 rfl rfl (by kernel_rfl) (by kernel_rfl) (by kernel_rfl) (by kernel_rfl) rfl (fun w' hw' => by obtain ⟨q0, q1, q2, q3⟩ := hw'; go_simp) S0 ?_
  simp only [Act.put, List.setIfInBounds_toArray, List.set_cons_zero, List.set_cons_succ]
  refine u_val (i := 6) (v := .slice (some ⟨X.heap.size, 0, none⟩) 1 1) (w' := X.drew.alloc (.cells #[.bool p, .int .u64 a, .int .u64 x] 98)) (some 11) (by kernel_rfl) rfl rfl rfl (by go_simp) S1 ?_
  simp only [Act.put, List.setIfInBounds_toArray, List.set_cons_zero, List.set_cons_succ]
  refine u_val (i := 7) (v := .slice a' (s.L.length + 1) c') (w' := w') (some 12) (by kernel_rfl) rfl rfl rfl (run_append_op rfl rfl rfl HR.out) S2 ?_
  simp only [Act.put, List.setIfInBounds_toArray, List.set_cons_zero, List.set_cons_succ]
  refine u_val (i := 8) (v := .pointer (some ⟨b, 0, none⟩)) (w' := w') (some 13) (by kernel_rfl) rfl rfl rfl (by go_simp) S2 ?_
  simp only [Act.put, List.setIfInBounds_toArray, List.set_cons_zero, List.set_cons_succ]
  refine u_val (i := 9) (v := .pointer (some ⟨b, 1, none⟩)) (w' := w') (some 14) (by kernel_rfl) rfl rfl rfl (by go_simp) S2 ?_
  simp only [Act.put, List.setIfInBounds_toArray, List.set_cons_zero, List.set_cons_succ]
  have q0 := S2.1
  refine u_last (w' := w'.setCell ⟨b, 1, none⟩ (.slice a' (s.L.length + 1) c')) (by kernel_rfl) rfl rfl rfl (by go_simp) (by kernel_rfl) ?_
  clear S0 S1 S2 HR q0 hfb t3
  generalize w'.setCell ⟨b, 1, none⟩ (.slice a' (s.L.length + 1) c') = Y at HT ⊢
  obtain ⟨a2, c2, hc1⟩ := HT.out.1.wd.cell1
  have hc0 : Y.cell? ⟨b, 0, none⟩ = some (.slice (adr g c) s.W.length c) := HT.out.1.wd.cell0
  have hc2 : Y.cell? ⟨b, 2, none⟩ = some (.int .i64 s.g) := HT.out.1.wd.cell2
  have hc3 : Y.cell? ⟨b, 3, none⟩ = some (.int .i64 s.c) := HT.out.1.wd.cell3
  have e1 : Y.cell? ⟨w.heap.size, 1, none⟩ = some (.int .u64 a) := by rw [cell_of_block HT.out.2.at_]; rfl
  have hln : (s.lg ⟨p, a, x⟩).L.length = s.L.length + 1 := by simp [Wd.lg]
  rw [hln] at hc1
  generalize s.L.length + 1 = n at hc1 hln ⊢
  by_cases hg : s.g < (n : Int)
  · by_cases hc : s.c = 0
    · by_cases hw : (s.W.length : Int) ≤ a
      · obtain rfl : r = 4 := HRR.out.symm.trans (Wd.ask_no (fun e => absurd (show s.c = 0 from hc) e.2) hw)
        clear hln HRR
        go_wp2_with fail
        go_quiet (fail)
        go_wp2_with fail
        go_quiet (fail)
        go_wp2_with fail
        go_ret
        exact ⟨rfl, HT.out.1.like rfl rfl rfl rfl⟩
      · obtain rfl : r = 0 := HRR.out.symm.trans (Wd.ask_ok (fun e => absurd (show s.c = 0 from hc) e.2) hw)
        clear hln HRR
        go_wp2_with fail
        go_quiet (fail)
        go_wp2_with fail
        go_quiet (fail)
        go_wp2_with fail
        go_ret
        exact ⟨rfl, HT.out.1.like rfl rfl rfl rfl⟩
    · obtain rfl : r = s.c := HRR.out.symm.trans (Wd.ask_fl (by rw [hln]; exact hg) hc)
      clear hln HRR
      have hc' : (s.c != 0) = true := by simpa using hc
      go_wp2_with fail
      go_quiet (fail)
      go_wp2_with fail
      go_ret
      exact ⟨rfl, HT.out.1.like rfl rfl rfl rfl⟩
  · have hg1 : decide (s.g < (n : Int)) = false := by simpa using hg
    have hg2 : (n : Int) ≤ s.g := by omega
    by_cases hw : (s.W.length : Int) ≤ a
    · obtain rfl : r = 4 := HRR.out.symm.trans (Wd.ask_no (by rw [hln]; exact fun e => hg e.1) hw)
      clear hln HRR hg
      go_wp2_with fail
      go_quiet (fail)
      go_wp2_with fail
      go_quiet (fail)
      go_wp2_with fail
      go_ret
      exact ⟨rfl, HT.out.1.like rfl rfl rfl rfl⟩
    · obtain rfl : r = 0 := HRR.out.symm.trans (Wd.ask_ok (by rw [hln]; exact fun e => hg e.1) hw)
      clear hln HRR hg
      go_wp2_with fail
      go_quiet (fail)
      go_wp2_with fail
      go_quiet (fail)
      go_wp2_with fail
      go_ret
      exact ⟨rfl, HT.out.1.like rfl rfl rfl rfl⟩

set_option maxHeartbeats 10000000 in
theorem tget_any (b g c : Nat) (s : Wd) (a : Int) (ha : isW a) (hr : Rm s 1) (w : World) (h : WdAt 65 w b g c s) :
    Calls Try.prog 66 #[.pointer (some ⟨b, 0, none⟩), .int .u64 a] w fun e w' => e = .returned (.tuple #[.int .u64 (s.get a).1.1, .int .i64 (s.get a).1.2]) ∧ Hs 65 w b g c w' (s.get a).2 := by
  have HA := hid (task_any b g c s false a 0 hr w h)
  have hcap := h.cap
  clear h
  unfold isW at ha
  by_cases hz : (s.lg ⟨false, a, 0⟩).ask a = 0
  · have hin := Wd.ask_in hz
    have hin' : a < (s.W.length : Int) := hin
    have hs : s.get a = ((oat s.W a.toNat, 0), s.lg ⟨false, a, 0⟩) := by unfold Wd.get; rw [if_neg (by simp [hz])]
    rw [hs]
    rw [hz] at HA
    obtain ⟨i, rfl⟩ : ∃ i : Nat, a = (i : Int) := ⟨a.toNat, by omega⟩
    have hc0 : c ≠ 0 := by omega
    have hi : i < s.W.length := by omega
    clear hs hz hin hin'
    go_enter Try.func66, Try.ntmps66
    go_wp2_with fail
    refine HA.out.mono ?_
    rintro e_ w1 ⟨rfl, h1⟩
    have c0 := h1.wd.cell0
    rw [adr_pos hc0] at c0
    have c0' : w1.cell? ⟨b, 0, none⟩ = some (.slice (some ⟨g, 0, none⟩) s.W.length c) := c0
    have cw : w1.cell? ⟨g, i, none⟩ = some (.int .u64 (oat s.W i)) := h1.wd.wcell i hi
    have H1 := hid h1
    clear h1 c0 HA
    go_wp2_with fail
    go_ret2
    exact ⟨rfl, H1.out⟩
  · have hs : s.get a = ((0, (s.lg ⟨false, a, 0⟩).ask a), s.lg ⟨false, a, 0⟩) := by unfold Wd.get; rw [if_pos hz]
    rw [hs]
    clear hs
    generalize (s.lg ⟨false, a, 0⟩).ask a = r at *
    go_enter Try.func66, Try.ntmps66
    go_wp2_with fail
    refine HA.out.mono ?_
    rintro e_ w1 ⟨rfl, h1⟩
    have H1 := hid h1
    clear h1 HA
    go_wp2_with fail
    go_ret2
    exact ⟨rfl, H1.out⟩
set_option maxHeartbeats 10000000 in
theorem tput_any (b g c : Nat) (s : Wd) (a x : Int) (ha : isW a) (hx : isW x) (hr : Rm s 1) (w : World) (h : WdAt 65 w b g c s) :
    Calls Try.prog 67 #[.pointer (some ⟨b, 0, none⟩), .int .u64 a, .int .u64 x] w fun e w' => e = .returned (.int .i64 (s.put a x).1) ∧ Hs 65 w b g c w' (s.put a x).2 := by
  have HA := hid (task_any b g c s true a x hr w h)
  have hcap := h.cap
  clear h
  unfold isW at ha
  by_cases hz : (s.lg ⟨true, a, x⟩).ask a = 0
  · have hin := Wd.ask_in hz
    have hin' : a < (s.W.length : Int) := hin
    have hs : s.put a x = (0, { s.lg ⟨true, a, x⟩ with W := s.W.set a.toNat x }) := by unfold Wd.put; rw [if_neg (by simp [hz])]
    rw [hs]
    rw [hz] at HA
    obtain ⟨i, rfl⟩ : ∃ i : Nat, a = (i : Int) := ⟨a.toNat, by omega⟩
    have hc0 : c ≠ 0 := by omega
    have hi : i < s.W.length := by omega
    clear hs hz hin hin'
    go_enter Try.func67, Try.ntmps67
    go_wp2_with fail
    refine HA.out.mono ?_
    rintro e_ w1 ⟨rfl, h1⟩
    have c0 := h1.wd.cell0
    rw [adr_pos hc0] at c0
    have c0' : w1.cell? ⟨b, 0, none⟩ = some (.slice (some ⟨g, 0, none⟩) s.W.length c) := c0
    have cw : w1.cell? ⟨g, i, none⟩ = some (.int .u64 (oat s.W i)) := h1.wd.wcell i hi
    have cf : w1.frozen? ⟨g, i, none⟩ = false := h1.wd.wfrozen i (by show 0 < s.W.length; omega)
    have H1 := hid h1
    clear h1 c0 HA
    go_wp2_with fail
    go_ret
    have q := H1.out.wd.store i hx (by show i < s.W.length; omega)
    exact ⟨rfl, q.1, H1.out.k.trans q.2⟩
  · have hs : s.put a x = ((s.lg ⟨true, a, x⟩).ask a, s.lg ⟨true, a, x⟩) := by unfold Wd.put; rw [if_pos hz]
    rw [hs]
    clear hs
    generalize (s.lg ⟨true, a, x⟩).ask a = r at *
    go_enter Try.func67, Try.ntmps67
    go_wp2_with fail
    refine HA.out.mono ?_
    rintro e_ w1 ⟨rfl, h1⟩
    have H1 := hid h1
    clear h1 HA
    go_wp2_with fail
    go_ret
    exact ⟨rfl, H1.out⟩
theorem tget_r {b g c : Nat} {s : Wd} {a x e : Int} {s1 : Wd} (heq : Hid (s.get a = ((x, e), s1))) (ha : isW a) (hr : Rm s 1) {w : World} (h : WdAt 65 w b g c s) :
    Calls Try.prog 66 #[.pointer (some ⟨b, 0, none⟩), .int .u64 a] w fun r w' => r = .returned (.tuple #[.int .u64 x, .int .i64 e]) ∧ Hs 65 w b g c w' s1 := by
  have hq := tget_any b g c s a ha hr w h
  rw [heq.out] at hq
  exact hq
theorem tput_r {b g c : Nat} {s : Wd} {a x e : Int} {s1 : Wd} (heq : Hid (s.put a x = (e, s1))) (ha : isW a) (hx : isW x) (hr : Rm s 1) {w : World} (h : WdAt 65 w b g c s) :
    Calls Try.prog 67 #[.pointer (some ⟨b, 0, none⟩), .int .u64 a, .int .u64 x] w fun r w' => r = .returned (.int .i64 e) ∧ Hs 65 w b g c w' s1 := by
  have hq := tput_any b g c s a x ha hx hr w h
  rw [heq.out] at hq
  exact hq

end Go.Proofs.Ytiacennkjjfifab
