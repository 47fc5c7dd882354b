
/- The walk of Pop (layer 24). No statement of the seat is proved here. -/
import Derived.Test.YtalopkllldnipaaRkZc
namespace Go.Proofs.Ytalopkllldnipaa
open Go.RowKit

theorem give_u {b g c : Nat} {s s1 : Wd} {a p n e1 : Int} (heq : Hid (giveU a p n s = (((), e1), s1))) (hp : isW p) {w : World} (h : WdAt w b g c s) :
    Calls Try.prog 61 #[.iface 24 (.pointer (some ⟨b, 0, none⟩)), .int .u64 a, .int .u64 p, .int .u64 n] w fun e w' => e = .returned (.int .i64 e1) ∧ WdAt w' b g c s1 ∧ Keeps (two b g) w w' := by
  refine give_r (hid ?_) hp h
  have q := heq.out
  unfold giveU at q
  injection q with q1 q2
  injection q1 with q3 q4
  exact Prod.ext q4 q2
theorem treF_none {x : Int} {s s1 : Wd} (h : treF x s = ((none, 0), s1)) : x = 0 := by
  unfold treF at h
  split at h
  · assumption
  · obtain ⟨l, f, s2, _, h2, h3⟩ := bnd_step h
    by_cases hf : f = 0
    · have := (rtn_eq (h2 hf)).1; cases this
    · exact absurd (h3 hf).1.symm hf
theorem bnd_assoc {α β γ : Type} (F : Wd → (α × Int) × Wd) (G : α → Wd → (β × Int) × Wd) (H : β → Wd → (γ × Int) × Wd) (d : β) (f : γ) (s : Wd) : bnd (bnd F G d) H f s = bnd F (fun x => bnd (G x) H f) f s := by
  obtain ⟨⟨⟨x, e⟩, s1⟩, hF⟩ : ∃ r, F s = r := ⟨_, rfl⟩
  by_cases he : e = 0
  · subst he
    rw [bnd_ok hF]
    unfold bnd
    rw [hF]
    simp
  · rw [bnd_no hF he]
    unfold bnd
    rw [hF]
    simp [he]
/-- What a region that asks for an entry comes to. -/
def Rrk (W0 : World) (v : Value) (e : Int) (q : Nat) (y z : Value) (w' : World) : Prop := y = v ∧ z = .int .i64 e ∧ Keeps (fun _ => False) W0 w' ∧ Blk w' q 40 #[.float .f64 0, .int .u64 0] ∧ W0.heap.size ≤ q
theorem rkA {k x e : Int} {v : Value} {w0 : World} (hc : ∀ w, Calls Try.prog 50 #[.int .u64 k, .int .u64 x] w fun r w' => r = .returned (.tuple #[v, .int .i64 e]) ∧ Keeps (fun _ => False) w w') {S : World → Prop} (hS : ∀ X, Keeps (fun _ => False) w0 X → S X) :
    Calls Try.prog 50 #[.int .u64 k, .int .u64 x] (w0.alloc (.cells #[.float .f64 0, .int .u64 0] 40)) fun r w' => ∃ y z, r = .returned (.tuple #[y, z]) ∧ S w' ∧ Rrk w0 v e w0.heap.size y z w' := by
  have kn := keeps_new w0 (.cells #[.float .f64 0, .int .u64 0] 40)
  refine (hc _).mono ?_
  rintro r w' ⟨rfl, k1⟩
  have k2 := kn.trans k1
  exact ⟨_, _, rfl, hS _ k2, rfl, rfl, k2, (blk_new w0 _ _).kept k1 (fun f => f), Nat.le_refl _⟩
theorem rkB {k x e : Int} {v : Value} {w0 : World} (hc : ∀ w, Calls Try.prog 50 #[.int .u64 k, .int .u64 x] w fun r w' => r = .returned (.tuple #[v, .int .i64 e]) ∧ Keeps (fun _ => False) w w') {S : World → Prop} (hS : ∀ X, Keeps (fun _ => False) w0 X → S X) :
    Calls Try.prog 50 #[.int .u64 k, .int .u64 x] w0 fun r w' => ∃ y z, r = .returned (.tuple #[y, z]) ∧ S w' ∧ Rrk w0 v e w'.heap.size y z (w'.alloc (.cells #[.float .f64 0, .int .u64 0] 40)) := by
  refine (hc _).mono ?_
  rintro r w' ⟨rfl, k1⟩
  have kn := keeps_new w' (.cells #[.float .f64 0, .int .u64 0] 40)
  exact ⟨_, _, rfl, hS _ k1, rfl, rfl, k1.trans kn, blk_new w' _ _, k1.size⟩

set_option maxHeartbeats 4000000 in
theorem pop_any {b g c : Nat} {s s1 : Wd} {r h0 e : Int} {o : Option (Int × Int)} (heq : Hid (Wd.rpop r h0 s = ((o, e), s1))) (hh : isW h0) {w : World} (h : WdAt w b g c s) :
    Calls Try.prog 28 #[.iface 24 (.pointer (some ⟨b, 0, none⟩)), .int .u64 r, .int .u64 h0] w fun a w' => a = .returned (.tuple #[rkV o, .bool o.isSome, .int .i64 e]) ∧ WdAt w' b g c s1 ∧ Keeps (two b g) w w' := by
  obtain ⟨p, e1, s2, h1, h2, h3⟩ := bnd_step heq.out
  have hp := hepF_isW h1 h.ok
  have HL := hid (And.intro h.ltb h.ltg)
  have kn := keeps_new w (.cells #[.float .f64 0, .int .u64 0] 40)
  have HC := hid (heap_any (hid h1) hh (h.kept kn (fun f => f) (fun f => f)))
  have H2 := hid (And.intro h2 h3)
  clear h1 h2 h3 h heq kn
  go_enter Try.func28, Try.ntmps28
  go_wp2_with fail
  refine HC.out.mono ?_
  rintro a w1 ⟨rfl, h1, k1⟩
  have HF : Hid (WdAt (w1.alloc (.cells #[.int .u64 p.1, .int .u64 p.2] 111)) b g c s2 ∧ Keeps (two b g) w (w1.alloc (.cells #[.int .u64 p.1, .int .u64 p.2] 111)) ∧ Blk (w1.alloc (.cells #[.int .u64 p.1, .int .u64 p.2] 111)) w.heap.size 40 #[.float .f64 0, .int .u64 0] ∧ Blk (w1.alloc (.cells #[.int .u64 p.1, .int .u64 p.2] 111)) w1.heap.size 111 #[.int .u64 p.1, .int .u64 p.2] ∧ w.heap.size + 1 ≤ w1.heap.size) := by
    have hl := HL.out
    have kn := keeps_new w (.cells #[.float .f64 0, .int .u64 0] 40)
    have k2 := keeps_new w1 (.cells #[.int .u64 p.1, .int .u64 p.2] 111)
    have hz := k1.size
    exact hid ⟨h1.kept k2 (fun f => f) (fun f => f), ((kn.mono (fun _ _ f => f.elim)).trans k1).trans (k2.mono (fun _ _ f => f.elim)), ((blk_new w _ _).kept k1 (fun f => by rcases f with f | f <;> omega)).kept k2 (fun f => f), blk_new w1 _ _, by simpa using hz⟩
  have d0 : (w1.alloc (.cells #[.int .u64 p.1, .int .u64 p.2] 111)).cell? ⟨w.heap.size, 0, none⟩ = some (.float .f64 0) := HF.out.2.2.1.cell rfl
  have d1 : (w1.alloc (.cells #[.int .u64 p.1, .int .u64 p.2] 111)).cell? ⟨w.heap.size, 1, none⟩ = some (.int .u64 0) := HF.out.2.2.1.cell rfl
  have f0 := HF.out.2.2.1.frozen 0
  have f1 := HF.out.2.2.1.frozen 1
  have g1 : (w1.alloc (.cells #[.int .u64 p.1, .int .u64 p.2] 111)).cell? ⟨w1.heap.size, 1, none⟩ = some (.int .u64 p.2) := HF.out.2.2.2.1.cell rfl
  clear HC h1 k1
  by_cases he1 : e1 = 0
  rotate_left
  · go_wp2_with fail
    refine bodyPost_ret (ranked_ret3 rfl _ _ w.heap.size _ _ (HF.out.2.2.1.set2 _ _) rfl) rfl ?_
    obtain ⟨rfl, rfl, rfl⟩ := H2.out.2 he1
    exact ⟨rfl, fin2 HL.out HF.out.1 HF.out.2.1⟩
  subst he1
  replace H2 := hid (H2.out.1 rfl)
  by_cases hp0 : p.2 = 0
  · have H2 := H2.out
    rw [if_pos hp0] at H2
    obtain ⟨rfl, rfl, rfl⟩ := rtn_eq H2
    have hpb : (p.2 == 0) = true := by simp [hp0]
    clear H2 hp0
    go_wp2_with fail
    refine bodyPost_ret (ranked_ret3 rfl _ _ w.heap.size _ _ (HF.out.2.2.1.set2 _ _) rfl) rfl ?_
    exact ⟨rfl, fin2 HL.out HF.out.1 HF.out.2.1⟩
  have H2 := H2.out
  rw [if_neg hp0] at H2
  obtain ⟨to, e2, s3, h4, h5, h6⟩ := bnd_step H2
  have hpb : (p.2 == 0) = false := by simpa using hp0
  have HC := hid (tree_any (hid h4) hp.2 HF.out.1)
  have HT0 := hid (fun (he : e2 = 0) => (by rintro rfl; subst he; exact hp0 (treF_none h4) : to ≠ none))
  have H5 := hid (And.intro h5 h6)
  clear h4 h5 h6 H2
  go_wp2_with fail
  refine HC.out.mono ?_
  rintro a w2 ⟨po, rfl, h2, k2, t2⟩
  have HG : Hid (WdAt w2 b g c s3 ∧ Keeps (two b g) w w2 ∧ Blk w2 w.heap.size 40 #[.float .f64 0, .int .u64 0] ∧ Blk w2 w1.heap.size 111 #[.int .u64 p.1, .int .u64 p.2] ∧ w.heap.size + 1 ≤ w1.heap.size ∧ w1.heap.size < w2.heap.size ∧ (e2 = 0 → PtAt w2 (w1.heap.size + 1) po to)) := by
    obtain ⟨a1, a2, a3, a4, a5⟩ := HF.out
    have hl := HL.out
    have e1 : (w1.alloc (.cells #[.int .u64 p.1, .int .u64 p.2] 111)).heap.size = w1.heap.size + 1 := by simp
    have hz := k2.size
    rw [e1] at t2 hz
    exact hid ⟨h2, a2.trans k2, a3.kept k2 (fun f => by rcases f with f | f <;> omega), a4.kept k2 (fun f => by rcases f with f | f <;> omega), a5, by omega, t2⟩
  clear HC HF h2 k2 t2 d0 d1 f0 f1 g1
  have d0 : w2.cell? ⟨w.heap.size, 0, none⟩ = some (.float .f64 0) := HG.out.2.2.1.cell rfl
  have d1 : w2.cell? ⟨w.heap.size, 1, none⟩ = some (.int .u64 0) := HG.out.2.2.1.cell rfl
  have f0 := HG.out.2.2.1.frozen 0
  have f1 := HG.out.2.2.1.frozen 1
  by_cases he2 : e2 = 0
  rotate_left
  · go_wp2_with fail
    refine bodyPost_ret (ranked_ret3 rfl _ _ w.heap.size _ _ (HG.out.2.2.1.set2 _ _) rfl) rfl ?_
    obtain ⟨rfl, rfl, rfl⟩ := H5.out.2 he2
    exact ⟨rfl, fin2 HL.out HG.out.1 HG.out.2.1⟩
  subst he2
  obtain ⟨t, hto⟩ : ∃ t, to = some t := by
    have := HT0.out rfl
    cases to with
    | none => exact absurd rfl this
    | some t => exact ⟨t, rfl⟩
  subst hto
  obtain ⟨qr, hqr, rfl, hqt⟩ := HG.out.2.2.2.2.2.2 (by first | rfl | trivial)
  have H6 : (if reK (oat t.c 0) = true then bnd (mldF (oat t.c 2) (oat t.c 3)) (fun top => bnd (becU h0 p (uw (p.1 - 1)) top) (fun _ => bnd (giveU r t.at_ 5) (fun _ => rtn (some t.ent)) none) none) none else err none 340) s3 = ((o, e), s1) := H5.out.1 (by first | rfl | trivial)
  have H6 := hid H6
  obtain ⟨VX, VY, VE, HV⟩ : ∃ VX VY VE, Hid ((∀ w, Calls Try.prog 50 #[.int .u64 (oat t.c 0), .int .u64 (oat t.c 1)] w fun r w' => r = .returned (.tuple #[.agg #[.float .f64 VX, .int .u64 VY], .int .i64 VE]) ∧ Keeps (fun _ => False) w w') ∧ ((reK (oat t.c 0) = true ∧ VX = reB (oat t.c 0) ∧ VY = oat t.c 1 ∧ VE = 0) ∨ (¬ reK (oat t.c 0) = true ∧ VE = 340))) := by
    by_cases hK : reK (oat t.c 0) = true
    · refine ⟨_, _, _, hid ⟨fun w => ?_, .inl ⟨hK, rfl, rfl, rfl⟩⟩⟩
      have q := ranked_any (oat t.c 0) (oat t.c 1) (hqt.wc 0) w
      rw [if_pos hK, if_pos hK] at q
      exact q
    · refine ⟨0, 0, _, hid ⟨fun w => ?_, .inr ⟨hK, rfl⟩⟩⟩
      have q := ranked_any (oat t.c 0) (oat t.c 1) (hqt.wc 0) w
      rw [if_neg hK, if_neg hK] at q
      exact q
  have hSX : ∀ X : World, Keeps (fun _ => False) w2.drew X → X.cell? ⟨qr, 1, none⟩ = some (.int .u64 (oat t.c 0)) ∧ X.cell? ⟨qr, 2, none⟩ = some (.int .u64 (oat t.c 1)) := fun X hX => by
    have k1 : Keeps (fun _ => False) w2 X := ((Keeps.refl _ w2).drewN 1).trans hX
    exact ⟨(hqt.kept k1 (fun f => f)).cells.2.1, (hqt.kept k1 (fun f => f)).cells.2.2.1⟩
  have hS0 : w2.drew.cell? ⟨qr, 1, none⟩ = some (.int .u64 (oat t.c 0)) ∧ w2.drew.cell? ⟨qr, 2, none⟩ = some (.int .u64 (oat t.c 1)) := hSX _ (Keeps.refl _ _)
  have hS1 : (w2.drew.alloc (.cells #[.float .f64 0, .int .u64 0] 40)).cell? ⟨qr, 1, none⟩ = some (.int .u64 (oat t.c 0)) ∧ (w2.drew.alloc (.cells #[.float .f64 0, .int .u64 0] 40)).cell? ⟨qr, 2, none⟩ = some (.int .u64 (oat t.c 1)) := hSX _ (keeps_new _ _)
  have HSZ : Hid (∀ (qn : Nat) (Y : World), Keeps (fun _ => False) w2.drew Y → w2.drew.heap.size ≤ qn → ((Y.setCell ⟨qn, 0, none⟩ (.float .f64 VX)).setCell ⟨qn, 1, none⟩ (.int .u64 VY)).cell? ⟨qr, 1, none⟩ = some (.int .u64 (oat t.c 0)) ∧ ((Y.setCell ⟨qn, 0, none⟩ (.float .f64 VX)).setCell ⟨qn, 1, none⟩ (.int .u64 VY)).cell? ⟨qr, 2, none⟩ = some (.int .u64 (oat t.c 1))) := hid (fun qn Y hY hq => by
    have k1 : Keeps (fun _ => False) w2 Y := ((Keeps.refl _ w2).drewN 1).trans hY
    have hq' : w2.heap.size ≤ qn := hq
    have hlt := hqt.lt
    have k3 : Keeps (fun _ => False) w2 ((Y.setCell ⟨qn, 0, none⟩ (.float .f64 VX)).setCell ⟨qn, 1, none⟩ (.int .u64 VY)) := k1.step (keeps_set2 Y qn (.float .f64 VX) (.int .u64 VY)) (fun i hi e => by omega)
    exact ⟨(hqt.kept k3 (fun f => f)).cells.2.1, (hqt.kept k3 (fun f => f)).cells.2.2.1⟩)
  have HRA : Hid (∀ (S : World → Prop), (∀ X, Keeps (fun _ => False) w2.drew X → S X) → Calls Try.prog 50 #[.int .u64 (oat t.c 0), .int .u64 (oat t.c 1)] (w2.drew.alloc (.cells #[.float .f64 0, .int .u64 0] 40)) fun r w' => ∃ y z, r = .returned (.tuple #[y, z]) ∧ S w' ∧ Rrk w2.drew (.agg #[.float .f64 VX, .int .u64 VY]) VE w2.drew.heap.size y z w') := hid (fun S hS => rkA HV.out.1 hS)
  have HRB : Hid (∀ (S : World → Prop), (∀ X, Keeps (fun _ => False) w2.drew X → S X) → Calls Try.prog 50 #[.int .u64 (oat t.c 0), .int .u64 (oat t.c 1)] w2.drew fun r w' => ∃ y z, r = .returned (.tuple #[y, z]) ∧ S w' ∧ Rrk w2.drew (.agg #[.float .f64 VX, .int .u64 VY]) VE w'.heap.size y z (w'.alloc (.cells #[.float .f64 0, .int .u64 0] 40))) := hid (fun S hS => rkB HV.out.1 hS)
  have HQT := hid hqt
  clear hqt d0 d1 f0 f1
  go_wp2_with fail
  refine wp_held_end (S := fun W : World => W.cell? ⟨qr, 1, none⟩ = some (.int .u64 (oat t.c 0)) ∧ W.cell? ⟨qr, 2, none⟩ = some (.int .u64 (oat t.c 1))) 17 rfl hmxp ?_
  simp only [Array.replicate_succ, Array.replicate_zero, List.push_toArray, List.nil_append, List.cons_append]
  refine held_take (i := 0) (v := (.pointer (some ⟨qr, 0, none⟩))) 43 rfl rfl (by kernel_rfl) (by kernel_rfl) (by kernel_rfl) rfl (fun w' hw' => by obtain ⟨r0, r1⟩ := hw'; go_simp) hS0 ?_
  simp only [Act.put, List.setIfInBounds_toArray, List.set_cons_zero, List.set_cons_succ]
  refine held_take (i := 1) (v := (.pointer (some ⟨qr, 0, none⟩))) 44 rfl rfl (by kernel_rfl) (by kernel_rfl) (by kernel_rfl) rfl (fun w' hw' => by obtain ⟨r0, r1⟩ := hw'; go_simp) hS0 ?_
  simp only [Act.put, List.setIfInBounds_toArray, List.set_cons_zero, List.set_cons_succ]
  refine held_take (i := 2) (v := (.pointer (some ⟨qr, 1, none⟩))) 45 rfl rfl (by kernel_rfl) (by kernel_rfl) (by kernel_rfl) rfl (fun w' hw' => by obtain ⟨r0, r1⟩ := hw'; go_simp) hS0 ?_
  simp only [Act.put, List.setIfInBounds_toArray, List.set_cons_zero, List.set_cons_succ]
  refine held_take (i := 3) (v := (.pointer (some ⟨qr, 1, none⟩))) 46 rfl rfl (by kernel_rfl) (by kernel_rfl) (by kernel_rfl) rfl (fun w' hw' => by obtain ⟨r0, r1⟩ := hw'; go_simp) hS0 ?_
  simp only [Act.put, List.setIfInBounds_toArray, List.set_cons_zero, List.set_cons_succ]
  refine held_take (i := 4) (v := (.int .u64 (oat t.c 0))) 47 rfl rfl (by kernel_rfl) (by kernel_rfl) (by kernel_rfl) rfl (fun w' hw' => by obtain ⟨r0, r1⟩ := hw'; go_simp) hS0 ?_
  simp only [Act.put, List.setIfInBounds_toArray, List.set_cons_zero, List.set_cons_succ]
  refine held_take (i := 5) (v := (.pointer (some ⟨qr, 0, none⟩))) 48 rfl rfl (by kernel_rfl) (by kernel_rfl) (by kernel_rfl) rfl (fun w' hw' => by obtain ⟨r0, r1⟩ := hw'; go_simp) hS0 ?_
  simp only [Act.put, List.setIfInBounds_toArray, List.set_cons_zero, List.set_cons_succ]
  refine held_take (i := 6) (v := (.pointer (some ⟨qr, 0, none⟩))) 49 rfl rfl (by kernel_rfl) (by kernel_rfl) (by kernel_rfl) rfl (fun w' hw' => by obtain ⟨r0, r1⟩ := hw'; go_simp) hS0 ?_
  simp only [Act.put, List.setIfInBounds_toArray, List.set_cons_zero, List.set_cons_succ]
  refine held_take (i := 7) (v := (.pointer (some ⟨qr, 1, none⟩))) 50 rfl rfl (by kernel_rfl) (by kernel_rfl) (by kernel_rfl) rfl (fun w' hw' => by obtain ⟨r0, r1⟩ := hw'; go_simp) hS0 ?_
  simp only [Act.put, List.setIfInBounds_toArray, List.set_cons_zero, List.set_cons_succ]
  refine held_take (i := 8) (v := (.pointer (some ⟨qr, 2, none⟩))) 51 rfl rfl (by kernel_rfl) (by kernel_rfl) (by kernel_rfl) rfl (fun w' hw' => by obtain ⟨r0, r1⟩ := hw'; go_simp) hS0 ?_
  simp only [Act.put, List.setIfInBounds_toArray, List.set_cons_zero, List.set_cons_succ]
  refine held_take (i := 9) (v := (.int .u64 (oat t.c 1))) 52 rfl rfl (by kernel_rfl) (by kernel_rfl) (by kernel_rfl) rfl (fun w' hw' => by obtain ⟨r0, r1⟩ := hw'; go_simp) hS0 ?_
  simp only [Act.put, List.setIfInBounds_toArray, List.set_cons_zero, List.set_cons_succ]
  refine held_call3_alloc (i := 10) (j := 14) (f := 50) (args := #[.int .u64 (oat t.c 0), .int .u64 (oat t.c 1)]) (o := .cells #[.float .f64 0, .int .u64 0] 40) (Rrk w2.drew (.agg #[.float .f64 VX, .int .u64 VY]) VE) 53 12 42 54 55 11 12 13 (by kernel_rfl) (by kernel_rfl) (by kernel_rfl) rfl rfl rfl rfl rfl rfl rfl rfl rfl rfl (by decide) (by decide) (fun t => rfl) (fun t => rfl) (fun t => rfl) (fun t => rfl) (fun t => rfl) (by kernel_rfl) ⟨by kernel_rfl, by kernel_rfl⟩ ⟨by kernel_rfl, by kernel_rfl⟩ ⟨by kernel_rfl, by kernel_rfl⟩ ⟨by kernel_rfl, by kernel_rfl⟩ ⟨by kernel_rfl, by kernel_rfl⟩ ⟨by kernel_rfl, by kernel_rfl⟩ (fun w' hw' => by go_simp) (fun w' v hw' => by go_simp) (fun w' => by go_simp) (fun a' w' => by go_simp) (fun y z w' hw' => by go_simp) (fun y z w' hw' => by go_simp) (fun y z w' hw' => by go_simp) (fun y z p w' hw' => by go_simp) (fun y z p w' hw' => by go_simp) (fun y z p w' hw' => by go_simp) hS0 hS1 (HRA.out _ hSX) (HRB.out _ hSX) ?_
  rintro qn y z Y ⟨rfl, rfl, hR2, hR3, hR4⟩
  have hSY := hSX Y hR2
  have HR := hid (And.intro hR2 (And.intro hR3 hR4))
  have z0 : Y.cell? ⟨qn, 0, none⟩ = some (.float .f64 0) := hR3.cell (i := 0) rfl
  have z1 : Y.cell? ⟨qn, 1, none⟩ = some (.int .u64 0) := hR3.cell (i := 1) rfl
  have zf0 := hR3.frozen 0
  have zf1 := hR3.frozen 1
  have hSZ := HSZ.out qn Y hR2 hR4
  clear hR2 hR3 hR4
  refine ⟨hSY, ?_⟩
  simp only [Act.put, List.setIfInBounds_toArray, List.set_cons_zero, List.set_cons_succ]
  refine held_none (i := 15) (w' := (Y.setCell ⟨qn, 0, none⟩ (.float .f64 VX)).setCell ⟨qn, 1, none⟩ (.int .u64 VY)) (by kernel_rfl) rfl rfl rfl (by go_simp) hSZ ?_
  simp only [List.setIfInBounds_toArray, List.set_cons_zero, List.set_cons_succ]
  refine held_take (i := 16) (v := (.int .i64 VE)) 10 rfl rfl (by kernel_rfl) (by kernel_rfl) (by kernel_rfl) rfl (fun w' hw' => by obtain ⟨r0, r1⟩ := hw'; go_simp) hSZ ?_
  simp only [Act.put, List.setIfInBounds_toArray, List.set_cons_zero, List.set_cons_succ]
  refine held_end (by kernel_rfl) ?_ _
  have HY : Hid (∃ Y2, Y2 = (Y.setCell ⟨qn, 0, none⟩ (.float .f64 VX)).setCell ⟨qn, 1, none⟩ (.int .u64 VY) ∧ WdAt Y2 b g c s3 ∧ Keeps (two b g) w Y2 ∧ Blk Y2 w.heap.size 40 #[.float .f64 0, .int .u64 0] ∧ Blk Y2 w1.heap.size 111 #[.int .u64 p.1, .int .u64 p.2] ∧ TrAt Y2 qr t ∧ Blk Y2 qn 40 #[.float .f64 VX, .int .u64 VY] ∧ w.heap.size + 1 ≤ w1.heap.size ∧ w1.heap.size < qn) := by
    obtain ⟨a1, a2, a3, a4, a5, a6, _⟩ := HG.out
    obtain ⟨r2, r3, r4⟩ := HR.out
    have hl := HL.out
    have r4' : w2.heap.size ≤ qn := r4
    have hs2 := a2.size
    have hlt := HQT.out.lt
    have k1 : Keeps (fun _ => False) w2 Y := ((Keeps.refl _ w2).drewN 1).trans r2
    have k3 : Keeps (fun _ => False) w2 ((Y.setCell ⟨qn, 0, none⟩ (.float .f64 VX)).setCell ⟨qn, 1, none⟩ (.int .u64 VY)) := k1.step (keeps_set2 Y qn (.float .f64 VX) (.int .u64 VY)) (fun i hi e => by omega)
    exact hid ⟨_, rfl, a1.kept k3 (fun f => f) (fun f => f), a2.trans (k3.mono (fun _ _ f => f.elim)), a3.kept k3 (fun f => f), a4.kept k3 (fun f => f), HQT.out.kept k3 (fun f => f), r3.set2 _ _, a5, by omega⟩
  obtain ⟨Y2, HY⟩ : ∃ Y2, Hid (Y2 = (Y.setCell ⟨qn, 0, none⟩ (.float .f64 VX)).setCell ⟨qn, 1, none⟩ (.int .u64 VY) ∧ WdAt Y2 b g c s3 ∧ Keeps (two b g) w Y2 ∧ Blk Y2 w.heap.size 40 #[.float .f64 0, .int .u64 0] ∧ Blk Y2 w1.heap.size 111 #[.int .u64 p.1, .int .u64 p.2] ∧ TrAt Y2 qr t ∧ Blk Y2 qn 40 #[.float .f64 VX, .int .u64 VY] ∧ w.heap.size + 1 ≤ w1.heap.size ∧ w1.heap.size < qn) := by
    obtain ⟨Y2, h⟩ := HY.out
    exact ⟨Y2, hid h⟩
  rw [← HY.out.1]
  replace HY := hid HY.out.2
  clear HR hSY z0 z1 zf0 zf1 hS0 hS1 hSX HSZ hSZ HRA HRB HG HQT HT0 H5
  have d0 : Y2.cell? ⟨w.heap.size, 0, none⟩ = some (.float .f64 0) := HY.out.2.2.1.cell rfl
  have d1 : Y2.cell? ⟨w.heap.size, 1, none⟩ = some (.int .u64 0) := HY.out.2.2.1.cell rfl
  have f0 := HY.out.2.2.1.frozen 0
  have f1 := HY.out.2.2.1.frozen 1
  rcases HV.out.2 with ⟨hK, rfl, rfl, rfl⟩ | ⟨hK, rfl⟩
  rotate_left
  · have H6 := H6.out
    rw [if_neg hK] at H6
    unfold err at H6
    simp only [Prod.mk.injEq] at H6
    obtain ⟨⟨rfl, rfl⟩, rfl⟩ := H6
    clear HV hK
    go_wp2_with fail
    refine bodyPost_ret (ranked_ret3 rfl _ _ w.heap.size _ _ (HY.out.2.2.1.set2 _ _) rfl) rfl ?_
    exact ⟨rfl, fin2 HL.out HY.out.1 HY.out.2.1⟩
  have H6 := H6.out
  rw [if_pos hK] at H6
  have H6' : bnd (bnd (mldF (oat t.c 2) (oat t.c 3)) (fun top => becU h0 p (uw (p.1 - 1)) top) ()) (fun _ => bnd (giveU r t.at_ 5) (fun _ => rtn (some t.ent)) none) none s3 = ((o, e), s1) := by rw [← H6]; exact bnd_assoc _ _ _ _ _ _
  obtain ⟨⟨⟩, e5, s5, h4, h5, h6⟩ := bnd_step H6'
  have qne : qr ≠ b ∧ qr ≠ g := by have := HL.out; have := HY.out.2.2.2.2.2.2.1; omega
  have HC := hid (unroot_any (hid h4) hh HY.out.1 HY.out.2.2.2.2.1 qne)
  have H7 := hid (And.intro h5 h6)
  have HQ := hid qne
  have q0 : Y2.cell? ⟨w1.heap.size, 0, none⟩ = some (.int .u64 p.1) := HY.out.2.2.2.1.cell rfl
  have q1 : Y2.cell? ⟨w1.heap.size, 1, none⟩ = some (.int .u64 p.2) := HY.out.2.2.2.1.cell rfl
  clear h4 h5 h6 H6 H6' HV hK qne d0 d1 f0 f1
  go_wp2_with fail
  refine HC.out.mono ?_
  rintro a w3 ⟨rfl, h3, k3⟩
  have HX : Hid (WdAt w3 b g c s5 ∧ Keeps (two b g) w w3 ∧ Blk w3 w.heap.size 40 #[.float .f64 0, .int .u64 0] ∧ TrAt w3 qr t ∧ Blk w3 qn 40 #[.float .f64 (reB (oat t.c 0)), .int .u64 (oat t.c 1)] ∧ w.heap.size < qn) := by
    obtain ⟨a1, a2, a3, a4, a5, a6, a7, a8⟩ := HY.out
    have hl := HL.out
    exact hid ⟨h3, a2.trans k3, a3.kept k3 (fun f => by rcases f with f | f <;> omega), a5.kept k3 (fun f => by rcases f with f | f; exact HQ.out.1 f; exact HQ.out.2 f), a6.kept k3 (fun f => by rcases f with f | f <;> omega), by omega⟩
  clear HC HY h3 k3 q0 q1
  have d0 : w3.cell? ⟨w.heap.size, 0, none⟩ = some (.float .f64 0) := HX.out.2.2.1.cell rfl
  have d1 : w3.cell? ⟨w.heap.size, 1, none⟩ = some (.int .u64 0) := HX.out.2.2.1.cell rfl
  have f0 := HX.out.2.2.1.frozen 0
  have f1 := HX.out.2.2.1.frozen 1
  by_cases he5 : e5 = 0
  rotate_left
  · go_wp2_with fail
    refine bodyPost_ret (ranked_ret3 rfl _ _ w.heap.size _ _ (HX.out.2.2.1.set2 _ _) rfl) rfl ?_
    obtain ⟨rfl, rfl, rfl⟩ := H7.out.2 he5
    exact ⟨rfl, fin2 HL.out HX.out.1 HX.out.2.1⟩
  subst he5
  obtain ⟨⟨⟩, e6, s6, h4, h5, h6⟩ := bnd_step (H7.out.1 rfl)
  have HC := hid (give_u (a := r) (n := 5) (hid h4) HX.out.2.2.2.1.wat HX.out.1)
  have q0 := HX.out.2.2.2.1.cells.1
  have H8 := hid (And.intro h5 h6)
  clear h4 h5 h6 H7 d0 d1 f0 f1
  go_wp2_with fail
  refine HC.out.mono ?_
  rintro a w4 ⟨rfl, h3, k3⟩
  have HW : Hid (WdAt w4 b g c s6 ∧ Keeps (two b g) w w4 ∧ Blk w4 w.heap.size 40 #[.float .f64 0, .int .u64 0] ∧ Blk w4 qn 40 #[.float .f64 (reB (oat t.c 0)), .int .u64 (oat t.c 1)]) := by
    obtain ⟨a1, a2, a3, a4, a5, a6⟩ := HX.out
    have hl := HL.out
    exact hid ⟨h3, a2.trans k3, a3.kept k3 (fun f => by rcases f with f | f <;> omega), a5.kept k3 (fun f => by rcases f with f | f <;> omega)⟩
  clear HC HX h3 k3 q0
  have d0 : w4.cell? ⟨w.heap.size, 0, none⟩ = some (.float .f64 0) := HW.out.2.2.1.cell rfl
  have d1 : w4.cell? ⟨w.heap.size, 1, none⟩ = some (.int .u64 0) := HW.out.2.2.1.cell rfl
  have f0 := HW.out.2.2.1.frozen 0
  have f1 := HW.out.2.2.1.frozen 1
  have q0 : w4.cell? ⟨qn, 0, none⟩ = some (.float .f64 (reB (oat t.c 0))) := HW.out.2.2.2.cell rfl
  have q1 : w4.cell? ⟨qn, 1, none⟩ = some (.int .u64 (oat t.c 1)) := HW.out.2.2.2.cell rfl
  by_cases he6 : e6 = 0
  rotate_left
  · go_wp2_with fail
    refine bodyPost_ret (ranked_ret3 rfl _ _ w.heap.size _ _ (HW.out.2.2.1.set2 _ _) rfl) rfl ?_
    obtain ⟨rfl, rfl, rfl⟩ := H8.out.2 he6
    exact ⟨rfl, fin2 HL.out HW.out.1 HW.out.2.1⟩
  subst he6
  go_wp2_with fail
  refine bodyPost_ret (ranked_ret3 rfl _ _ w.heap.size _ _ (HW.out.2.2.1.set2 _ _) rfl) rfl ?_
  obtain ⟨rfl, rfl, rfl⟩ := rtn_eq (H8.out.1 (by first | rfl | trivial))
  exact ⟨rfl, fin2 HL.out HW.out.1 HW.out.2.1⟩
end Go.Proofs.Ytalopkllldnipaa
