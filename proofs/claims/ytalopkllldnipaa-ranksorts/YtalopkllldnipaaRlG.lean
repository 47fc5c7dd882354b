
/- The walk of All (layer 24). No statement of the seat is proved here. -/
import Derived.Test.YtalopkllldnipaaRlF
namespace Go.Proofs.Ytalopkllldnipaa
open Go.RowKit

/-- An entry's cells; a row of entries of the call's own. -/
def entC (p : Int × Int) : List Value := [.float .f64 (reB p.1), .int .u64 p.2]
theorem info_ranked : (Try.prog.info? 40).map (fun i => (i.zero, i.size, i.bytes)) = some (some (.agg #[.float .f64 0, .int .u64 0]), 2, 16) := by kernel_rfl
def Er (w : World) (base : Nat) (v : Value) (l : List (Int × Int)) : Prop := w.ownsRow base 40 2 v l.length (l.flatMap entC)
theorem Er.nil (w : World) (base : Nat) : Er w base (.slice none 0 0) [] := ⟨rfl, .inl ⟨rfl, rfl⟩⟩
theorem Er.keeps {w w' : World} {base : Nat} {v : Value} {l : List (Int × Int)} {S : Nat → Prop} (h : Er w base v l) (k : Keeps S w w') (hs : ∀ g, v.ownBlock = some g → ¬ S g) : Er w' base v l := own_keeps h k hs
theorem Er.block {w : World} {base : Nat} {v : Value} {l : List (Int × Int)} (h : Er w base v l) {i : Nat} (hi : v.ownBlock = some i) : base ≤ i ∧ ∃ cur, w.heap[i]? = some (.cells cur 40 (0, 0)) := by
  rcases id h.2 with ⟨h1, h2⟩ | ⟨g, cap, cur, rfl, h1, h2, _⟩
  · rw [h1] at hi; cases hi
  · have e : g = i := by simpa [Value.ownBlock] using hi
    subst e
    exact ⟨h1, cur, h2⟩
theorem Er.form {w : World} {base : Nat} {v : Value} {l : List (Int × Int)} (h : Er w base v l) : ∃ a c, v = .slice a l.length c := by
  rcases id h.2 with ⟨h1, h2⟩ | ⟨g, cap, cur, rfl, _⟩
  · exact ⟨none, 0, by rw [h1, h2]⟩
  · exact ⟨_, cap, rfl⟩
theorem Er.push {w : World} {base : Nat} {v : Value} {l : List (Int × Int)} (h : Er w base v l) (hb : base ≤ w.heap.size) (hl : l.length < 4000000000) (p : Int × Int) :
    ∃ v' w', (Builtin.append_ #[41, 41] 41 #[v, .slice (some ⟨w.heap.size, 0, none⟩) 1 1]).run Try.prog (w.alloc (.cells #[.float .f64 (reB p.1), .int .u64 p.2] 40)) = .ok v' w' ∧ Er w' base v' (l ++ [p]) ∧ Keeps (fun g => v.ownBlock = some g) w w' := by
  have h0 : (w.alloc (.cells #[.float .f64 (reB p.1), .int .u64 p.2] 40)).ownsRow base 40 2 v l.length (l.flatMap entC) := own_keeps h ((Keeps.refl (fun _ => False) w).alloc _) (fun _ _ f => f)
  have hbn := blk_new w 40 #[.float .f64 (reB p.1), .int .u64 p.2]
  obtain ⟨v', w', r1, r2, r3, r4⟩ := own_push (P := Try.prog) (w.alloc (.cells #[.float .f64 (reB p.1), .int .u64 p.2] 40)) base 41 41 40 (.agg #[.float .f64 0, .int .u64 0]) 2 16 Try.underlying41 info_ranked rfl (by decide) v l.length (l.flatMap entC) h0 ⟨w.heap.size, 0, none⟩ 1 1 (entC p) rfl (fun j u hj => by
    have hj2 : j < 2 := by
      have := (List.getElem?_eq_some_iff.1 hj).1
      simpa [entC] using this
    rw [addr_add, Nat.zero_add]
    have : j = 0 ∨ j = 1 := by omega
    rcases this with rfl | rfl
    · simp [entC] at hj; subst hj; exact hbn.cell rfl
    · simp [entC] at hj; subst hj; exact hbn.cell rfl) (fun u hu => by simp [entC] at hu; rcases hu with rfl | rfl <;> rfl) (by omega) (by decide) (by simp; omega)
  refine ⟨v', w', r1, ?_, ((Keeps.refl _ w).alloc _).trans (keeps_grown r3)⟩
  unfold Er
  rw [List.flatMap_append, List.length_append]
  simpa using r2

set_option maxRecDepth 100000 in
set_option maxHeartbeats 4000000 in
theorem all_any {b g c : Nat} {l : List (Int × Int)} {h0 e : Int} {s s1 : Wd} (heq : Hid (Wd.rall h0 s = ((l, e), s1))) (hh : isW h0) {w : World} (h : WdAt w b g c s) :
    Calls Try.prog 22 #[.iface 24 (.pointer (some ⟨b, 0, none⟩)), .int .u64 h0] w fun r w' => ∃ v, r = .returned (.tuple #[v, .int .i64 e]) ∧ Er w' w.heap.size v l ∧ WdAt w' b g c s1 ∧ Keeps (two b g) w w' := by
  obtain ⟨F, e1, s2, h1, h2, h3⟩ := bnd_step heq.out
  have HNM := hid (fun (he : e1 = 0) => allF_num (by rw [← he]; exact h1))
  have HL := hid (And.intro h.ltb h.ltg)
  have HC := hid (allT_any (hid h1) hh h)
  have H2 := hid (And.intro h2 h3)
  clear h h1 h2 h3 heq
  go_enter Try.func22, Try.ntmps22
  go_wp2_with fail
  refine HC.out.mono ?_
  rintro a w1 ⟨v, rfl, h1, k1, g1⟩
  have HF := hid (And.intro h1 (And.intro k1 g1))
  clear HC h1 k1 g1
  by_cases he1 : e1 = 0
  rotate_left
  · go_wp2_with fail
    go_ret2
    obtain ⟨rfl, rfl, rfl⟩ := H2.out.2 he1
    exact ⟨_, rfl, Er.nil _ _, HF.out.1, HF.out.2.1⟩
  subst he1
  obtain ⟨rfl, rfl, rfl⟩ := rtn_eq (H2.out.1 rfl)
  obtain ⟨qs, p1, p2, p3, p4, p5⟩ := HF.out.2.2 rfl
  have HS := hid (sortT_any p1 p2 p3 p4 p5)
  have HNM2 := hid (HNM.out rfl)
  have HF2 := hid (And.intro HF.out.1 (And.intro HF.out.2.1 (And.intro p1 (And.intro p3 HF.out.2.1.size))))
  clear p1 p2 p3 p4 p5 H2 HF
  go_wp2_with fail
  refine HS.out.mono ?_
  rintro a w2 ⟨rfl, qs', F', q1, q2, q3, q4, q5, q6, k2⟩
  have HG : Hid (WdAt w2 b g c s1 ∧ Keeps (two b g) w w2 ∧ Pr w2 w.heap.size v qs' ∧ qs'.length = F'.length ∧ (∀ (i q : Nat) (t : Tr), qs'[i]? = some q → F'[i]? = some t → TrAt w2 q t) ∧ F'.length < 3000000000 ∧ Num F' ∧ F'.map Tr.ent = sortE (F.map Tr.ent) ∧ w.heap.size ≤ w2.heap.size) := by
    obtain ⟨a1, a2, a3, a4, a5⟩ := HF2.out
    have hl := HL.out
    have hlo : ∀ i, v.ownBlock = some i → w.heap.size ≤ i := fun i hi => (a3.block hi).1
    refine hid ⟨a1.kept k2 (fun f => by have := hlo _ f; omega) (fun f => by have := hlo _ f; omega), a2.step k2 (fun i hi f => by have := hlo _ f; omega), q1, q2, q4, by rw [q5.length_eq]; exact a4, fun t ht => HNM2.out t (q5.mem_iff.1 ht), sortE_of q5 q6, Nat.le_trans a5 k2.size⟩
  clear HS HF2 q1 q2 q3 q4 q5 q6 k2 HNM HNM2
  obtain ⟨va, vc, rfl⟩ : ∃ a n, v = .slice a F'.length n := by
    obtain ⟨a, n, hv⟩ := HG.out.2.2.1.form
    exact ⟨a, n, by rw [hv, HG.out.2.2.2.1]⟩
  go_wp2_with fail
  go_loopw [8, 28] (fun ev iv wr => ∃ n : Nat, iv = .int .i64 (n : Int) ∧ n ≤ F'.length ∧ Hid (WdAt wr b g c s1 ∧ Keeps (two b g) w wr ∧ Pr wr w.heap.size (.slice va F'.length vc) qs' ∧ (∀ (i q : Nat) (t : Tr), qs'[i]? = some q → F'[i]? = some t → TrAt wr q t) ∧ Er wr w.heap.size ev ((F'.take n).map Tr.ent) ∧ w.heap.size ≤ wr.heap.size)) (fun _ iv _ => F'.length - (intOf iv).toNat)
  case atStart => exact ⟨0, rfl, Nat.zero_le _, hid ⟨HG.out.1, HG.out.2.1, HG.out.2.2.1, HG.out.2.2.2.2.1, Er.nil _ _, HG.out.2.2.2.2.2.2.2.2⟩⟩
  case round =>
    obtain ⟨n, rfl, hn, hr⟩ := hrel
    by_cases hlt : n < F'.length
    · have hlti : (n : Int) < F'.length := by omega
      have hni : (0 : Int) ≤ n := by omega
      have hn9 : n < 3000000000 := by have := HG.out.2.2.2.2.2.1; omega
      have hqn : n < qs'.length := by rw [HG.out.2.2.2.1]; exact hlt
      obtain ⟨gq, rfl, hcq⟩ := hr.out.2.2.1.at n hqn
      have hq : qs'[n]? = some qs'[n] := List.getElem?_eq_getElem hqn
      obtain ⟨t, ht⟩ : ∃ t, F'[n]? = some t := ⟨_, List.getElem?_eq_getElem hlt⟩
      generalize qs'[n] = qr at hcq hq
      replace hcq : wr.cell? ⟨gq, n, none⟩ = some (.pointer (some ⟨qr, 0, none⟩)) := hcq
      have hqt := hr.out.2.2.2.1 n qr t hq ht
      have hK := HG.out.2.2.2.2.2.2.1 t (List.mem_of_getElem? ht)
      have HTK : Hid ((F'.take (n + 1)).map Tr.ent = (F'.take n).map Tr.ent ++ [t.ent]) := hid (by
        rw [List.take_add_one, ht]
        simp)
      obtain ⟨k0, k1, rb, hke⟩ : ∃ k0 k1 rb, Hid (t.ent = (k0, k1) ∧ reB k0 = rb) := ⟨_, _, _, hid ⟨rfl, rfl⟩⟩
      have hk0 : oat t.c 0 = k0 := congrArg Prod.fst hke.out.1
      have hk1 : oat t.c 1 = k1 := congrArg Prod.snd hke.out.1
      have HRC : Hid (∀ w, Calls Try.prog 50 #[.int .u64 k0, .int .u64 k1] w fun r w' => r = .returned (.tuple #[.agg #[.float .f64 rb, .int .u64 k1], .int .i64 0]) ∧ Keeps (fun _ => False) w w') := hid (fun w => by
        have q := ranked_any k0 k1 (by rw [← hk0]; exact hqt.wc 0) w
        rw [hk0] at hK
        rw [if_pos hK, if_pos hK, hke.out.2] at q
        exact q)
      have hSX : ∀ X : World, Keeps (fun _ => False) wr.drew X → X.cell? ⟨qr, 1, none⟩ = some (.int .u64 k0) ∧ X.cell? ⟨qr, 2, none⟩ = some (.int .u64 k1) := fun X hX => by
        have k3 : Keeps (fun _ => False) wr X := ((Keeps.refl _ wr).drewN 1).trans hX
        rw [← hk0, ← hk1]
        exact ⟨(hqt.kept k3 (fun f => f)).cells.2.1, (hqt.kept k3 (fun f => f)).cells.2.2.1⟩
      have hS0 : wr.drew.cell? ⟨qr, 1, none⟩ = some (.int .u64 k0) ∧ wr.drew.cell? ⟨qr, 2, none⟩ = some (.int .u64 k1) := hSX _ (Keeps.refl _ _)
      have hS1 : (wr.drew.alloc (.cells #[.float .f64 0, .int .u64 0] 40)).cell? ⟨qr, 1, none⟩ = some (.int .u64 k0) ∧ (wr.drew.alloc (.cells #[.float .f64 0, .int .u64 0] 40)).cell? ⟨qr, 2, none⟩ = some (.int .u64 k1) := hSX _ (keeps_new _ _)
      have HSZ : Hid (∀ (qn : Nat) (Y : World), Keeps (fun _ => False) wr.drew Y → wr.drew.heap.size ≤ qn → ((Y.setCell ⟨qn, 0, none⟩ (.float .f64 rb)).setCell ⟨qn, 1, none⟩ (.int .u64 k1)).cell? ⟨qr, 1, none⟩ = some (.int .u64 k0) ∧ ((Y.setCell ⟨qn, 0, none⟩ (.float .f64 rb)).setCell ⟨qn, 1, none⟩ (.int .u64 k1)).cell? ⟨qr, 2, none⟩ = some (.int .u64 k1)) := hid (fun qn Y hY hq => by
        have k3 : Keeps (fun _ => False) wr Y := ((Keeps.refl _ wr).drewN 1).trans hY
        have hq' : wr.heap.size ≤ qn := hq
        have hlt := hqt.lt
        have k4 : Keeps (fun _ => False) wr ((Y.setCell ⟨qn, 0, none⟩ (.float .f64 rb)).setCell ⟨qn, 1, none⟩ (.int .u64 k1)) := k3.step (keeps_set2 Y qn (.float .f64 rb) (.int .u64 k1)) (fun i hi e => by omega)
        rw [← hk0, ← hk1] at *
        exact ⟨(hqt.kept k4 (fun f => f)).cells.2.1, (hqt.kept k4 (fun f => f)).cells.2.2.1⟩)
      have HRA : Hid (∀ (S : World → Prop), (∀ X, Keeps (fun _ => False) wr.drew X → S X) → Calls Try.prog 50 #[.int .u64 k0, .int .u64 k1] (wr.drew.alloc (.cells #[.float .f64 0, .int .u64 0] 40)) fun r w' => ∃ y z, r = .returned (.tuple #[y, z]) ∧ S w' ∧ Rrk wr.drew (.agg #[.float .f64 rb, .int .u64 k1]) 0 wr.drew.heap.size y z w') := hid (fun S hS => rkA HRC.out hS)
      have HRB : Hid (∀ (S : World → Prop), (∀ X, Keeps (fun _ => False) wr.drew X → S X) → Calls Try.prog 50 #[.int .u64 k0, .int .u64 k1] wr.drew fun r w' => ∃ y z, r = .returned (.tuple #[y, z]) ∧ S w' ∧ Rrk wr.drew (.agg #[.float .f64 rb, .int .u64 k1]) 0 w'.heap.size y z (w'.alloc (.cells #[.float .f64 0, .int .u64 0] 40))) := hid (fun S hS => rkB HRC.out hS)
      clear hqt hK hk0 hk1 hq ht hqn
      go_wp2_with fail
      refine wp_held_end (S := fun W : World => W.cell? ⟨qr, 1, none⟩ = some (.int .u64 k0) ∧ W.cell? ⟨qr, 2, none⟩ = some (.int .u64 k1)) 17 rfl hmxp ?_
      simp only [Array.replicate_succ, Array.replicate_zero, List.push_toArray, List.nil_append, List.cons_append]
      refine held_take (i := 0) (v := (.pointer (some ⟨qr, 0, none⟩))) 33 rfl rfl (by kernel_rfl) (by kernel_rfl) (by kernel_rfl) rfl (fun w' hw' => by obtain ⟨r0, r1⟩ := hw'; go_simp) hS0 ?_
      simp only [Act.put, List.setIfInBounds_toArray, List.set_cons_zero, List.set_cons_succ]
      refine held_take (i := 1) (v := (.pointer (some ⟨qr, 0, none⟩))) 34 rfl rfl (by kernel_rfl) (by kernel_rfl) (by kernel_rfl) rfl (fun w' hw' => by obtain ⟨r0, r1⟩ := hw'; go_simp) hS0 ?_
      simp only [Act.put, List.setIfInBounds_toArray, List.set_cons_zero, List.set_cons_succ]
      refine held_take (i := 2) (v := (.pointer (some ⟨qr, 1, none⟩))) 35 rfl rfl (by kernel_rfl) (by kernel_rfl) (by kernel_rfl) rfl (fun w' hw' => by obtain ⟨r0, r1⟩ := hw'; go_simp) hS0 ?_
      simp only [Act.put, List.setIfInBounds_toArray, List.set_cons_zero, List.set_cons_succ]
      refine held_take (i := 3) (v := (.pointer (some ⟨qr, 1, none⟩))) 36 rfl rfl (by kernel_rfl) (by kernel_rfl) (by kernel_rfl) rfl (fun w' hw' => by obtain ⟨r0, r1⟩ := hw'; go_simp) hS0 ?_
      simp only [Act.put, List.setIfInBounds_toArray, List.set_cons_zero, List.set_cons_succ]
      refine held_take (i := 4) (v := (.int .u64 k0)) 37 rfl rfl (by kernel_rfl) (by kernel_rfl) (by kernel_rfl) rfl (fun w' hw' => by obtain ⟨r0, r1⟩ := hw'; go_simp) hS0 ?_
      simp only [Act.put, List.setIfInBounds_toArray, List.set_cons_zero, List.set_cons_succ]
      refine held_take (i := 5) (v := (.pointer (some ⟨qr, 0, none⟩))) 38 rfl rfl (by kernel_rfl) (by kernel_rfl) (by kernel_rfl) rfl (fun w' hw' => by obtain ⟨r0, r1⟩ := hw'; go_simp) hS0 ?_
      simp only [Act.put, List.setIfInBounds_toArray, List.set_cons_zero, List.set_cons_succ]
      refine held_take (i := 6) (v := (.pointer (some ⟨qr, 0, none⟩))) 39 rfl rfl (by kernel_rfl) (by kernel_rfl) (by kernel_rfl) rfl (fun w' hw' => by obtain ⟨r0, r1⟩ := hw'; go_simp) hS0 ?_
      simp only [Act.put, List.setIfInBounds_toArray, List.set_cons_zero, List.set_cons_succ]
      refine held_take (i := 7) (v := (.pointer (some ⟨qr, 1, none⟩))) 40 rfl rfl (by kernel_rfl) (by kernel_rfl) (by kernel_rfl) rfl (fun w' hw' => by obtain ⟨r0, r1⟩ := hw'; go_simp) hS0 ?_
      simp only [Act.put, List.setIfInBounds_toArray, List.set_cons_zero, List.set_cons_succ]
      refine held_take (i := 8) (v := (.pointer (some ⟨qr, 2, none⟩))) 41 rfl rfl (by kernel_rfl) (by kernel_rfl) (by kernel_rfl) rfl (fun w' hw' => by obtain ⟨r0, r1⟩ := hw'; go_simp) hS0 ?_
      simp only [Act.put, List.setIfInBounds_toArray, List.set_cons_zero, List.set_cons_succ]
      refine held_take (i := 9) (v := (.int .u64 k1)) 42 rfl rfl (by kernel_rfl) (by kernel_rfl) (by kernel_rfl) rfl (fun w' hw' => by obtain ⟨r0, r1⟩ := hw'; go_simp) hS0 ?_
      simp only [Act.put, List.setIfInBounds_toArray, List.set_cons_zero, List.set_cons_succ]
      refine held_call3_alloc (i := 10) (j := 14) (f := 50) (args := #[.int .u64 k0, .int .u64 k1]) (o := .cells #[.float .f64 0, .int .u64 0] 40) (Rrk wr.drew (.agg #[.float .f64 rb, .int .u64 k1]) 0) 43 11 32 44 45 11 12 13 (by kernel_rfl) (by kernel_rfl) (by kernel_rfl) rfl rfl rfl rfl rfl rfl rfl rfl rfl rfl (by decide) (by decide) (fun t => rfl) (fun t => rfl) (fun t => rfl) (fun t => rfl) (fun t => rfl) (by kernel_rfl) ⟨by kernel_rfl, by kernel_rfl⟩ ⟨by kernel_rfl, by kernel_rfl⟩ ⟨by kernel_rfl, by kernel_rfl⟩ ⟨by kernel_rfl, by kernel_rfl⟩ ⟨by kernel_rfl, by kernel_rfl⟩ ⟨by kernel_rfl, by kernel_rfl⟩ (fun w' hw' => by go_simp) (fun w' v hw' => by go_simp) (fun w' => by go_simp) (fun a' w' => by go_simp) (fun y z w' hw' => by go_simp) (fun y z w' hw' => by go_simp) (fun y z w' hw' => by go_simp) (fun y z p w' hw' => by go_simp) (fun y z p w' hw' => by go_simp) (fun y z p w' hw' => by go_simp) hS0 hS1 (HRA.out _ hSX) (HRB.out _ hSX) ?_
      rintro qn y z Y ⟨rfl, rfl, hR2, hR3, hR4⟩
      have hSY := hSX Y hR2
      have HR := hid (And.intro hR2 (And.intro hR3 hR4))
      have z0 : Y.cell? ⟨qn, 0, none⟩ = some (.float .f64 0) := hR3.cell (i := 0) rfl
      have z1 : Y.cell? ⟨qn, 1, none⟩ = some (.int .u64 0) := hR3.cell (i := 1) rfl
      have zf0 := hR3.frozen 0
      have zf1 := hR3.frozen 1
      have hSZ := HSZ.out qn Y hR2 hR4
      clear hR2 hR3 hR4
      refine ⟨hSY, ?_⟩
      simp only [Act.put, List.setIfInBounds_toArray, List.set_cons_zero, List.set_cons_succ]
      refine held_none (i := 15) (w' := (Y.setCell ⟨qn, 0, none⟩ (.float .f64 rb)).setCell ⟨qn, 1, none⟩ (.int .u64 k1)) (by kernel_rfl) rfl rfl rfl (by go_simp) hSZ ?_
      simp only [List.setIfInBounds_toArray, List.set_cons_zero, List.set_cons_succ]
      refine held_take (i := 16) (v := (.int .i64 0)) 12 rfl rfl (by kernel_rfl) (by kernel_rfl) (by kernel_rfl) rfl (fun w' hw' => by obtain ⟨r0, r1⟩ := hw'; go_simp) hSZ ?_
      simp only [Act.put, List.setIfInBounds_toArray, List.set_cons_zero, List.set_cons_succ]
      refine held_end (by kernel_rfl) ?_ _
      have HY : Hid (∃ Y2, Y2 = (Y.setCell ⟨qn, 0, none⟩ (.float .f64 rb)).setCell ⟨qn, 1, none⟩ (.int .u64 k1) ∧ WdAt Y2 b g c s1 ∧ Keeps (two b g) w Y2 ∧ Pr Y2 w.heap.size (.slice (some ⟨gq, 0, none⟩) F'.length vc) qs' ∧ (∀ (i q : Nat) (t : Tr), qs'[i]? = some q → F'[i]? = some t → TrAt Y2 q t) ∧ Er Y2 w.heap.size u8 ((F'.take n).map Tr.ent) ∧ w.heap.size ≤ Y2.heap.size ∧ Blk Y2 qn 40 #[.float .f64 rb, .int .u64 k1]) := by
        obtain ⟨a1, a2, a3, a4, a5, a6⟩ := hr.out
        obtain ⟨r2, r3, r4⟩ := HR.out
        have r4' : wr.heap.size ≤ qn := r4
        have k3 : Keeps (fun _ => False) wr Y := ((Keeps.refl _ wr).drewN 1).trans r2
        have k4 : Keeps (fun _ => False) wr ((Y.setCell ⟨qn, 0, none⟩ (.float .f64 rb)).setCell ⟨qn, 1, none⟩ (.int .u64 k1)) := k3.step (keeps_set2 Y qn (.float .f64 rb) (.int .u64 k1)) (fun i hi e => by omega)
        exact hid ⟨_, rfl, a1.kept k4 (fun f => f) (fun f => f), a2.trans (k4.mono (fun _ _ f => f.elim)), a3.keeps k4 (fun _ _ f => f), fun i q t h1 h2 => (a4 i q t h1 h2).kept k4 (fun f => f), a5.keeps k4 (fun _ _ f => f), Nat.le_trans a6 k4.size, r3.set2 _ _⟩
      obtain ⟨Y2, HY⟩ : ∃ Y2, Hid (Y2 = (Y.setCell ⟨qn, 0, none⟩ (.float .f64 rb)).setCell ⟨qn, 1, none⟩ (.int .u64 k1) ∧ WdAt Y2 b g c s1 ∧ Keeps (two b g) w Y2 ∧ Pr Y2 w.heap.size (.slice (some ⟨gq, 0, none⟩) F'.length vc) qs' ∧ (∀ (i q : Nat) (t : Tr), qs'[i]? = some q → F'[i]? = some t → TrAt Y2 q t) ∧ Er Y2 w.heap.size u8 ((F'.take n).map Tr.ent) ∧ w.heap.size ≤ Y2.heap.size ∧ Blk Y2 qn 40 #[.float .f64 rb, .int .u64 k1]) := by
        obtain ⟨Y2, h⟩ := HY.out
        exact ⟨Y2, hid h⟩
      rw [← HY.out.1]
      replace HY := hid HY.out.2
      clear HR hSY z0 z1 zf0 zf1 hS0 hS1 hSX HSZ hSZ HRA HRB hcq hr
      have y0 : Y2.cell? ⟨qn, 0, none⟩ = some (.float .f64 rb) := HY.out.2.2.2.2.2.2.cell rfl
      have y1 : Y2.cell? ⟨qn, 1, none⟩ = some (.int .u64 k1) := HY.out.2.2.2.2.2.2.cell rfl
      obtain ⟨ea, en, ec, rfl⟩ : ∃ a n c, u8 = .slice a n c := by
        obtain ⟨a, c, e⟩ := HY.out.2.2.2.2.1.form
        exact ⟨a, _, c, e⟩
      obtain ⟨v', w', hap, her, hk⟩ := HY.out.2.2.2.2.1.push HY.out.2.2.2.2.2.1 (by have h9 := HG.out.2.2.2.2.2.1; simp; omega) (k0, k1)
      rw [show reB (k0, k1).1 = rb from hke.out.2] at hap
      obtain ⟨va', n', vc', rfl⟩ : ∃ a n c, v' = .slice a n c := by
        obtain ⟨a, c, e⟩ := her.form
        exact ⟨a, _, c, e⟩
      have HRN := hid hap
      have HZ : Hid (WdAt w' b g c s1 ∧ Keeps (two b g) w w' ∧ Pr w' w.heap.size (.slice (some ⟨gq, 0, none⟩) F'.length vc) qs' ∧ (∀ (i q : Nat) (t : Tr), qs'[i]? = some q → F'[i]? = some t → TrAt w' q t) ∧ Er w' w.heap.size (.slice va' n' vc') ((F'.take (n + 1)).map Tr.ent) ∧ w.heap.size ≤ w'.heap.size) := by
        obtain ⟨a1, a2, a3, a4, a5, a6, _⟩ := HY.out
        have hl := HL.out
        have hlo : ∀ i, (Value.slice ea en ec).ownBlock = some i → w.heap.size ≤ i ∧ ∃ cur, Y2.heap[i]? = some (.cells cur 40 (0, 0)) := fun i hi => a5.block hi
        refine hid ⟨a1.kept hk (fun f => by have := (hlo _ f).1; omega) (fun f => by have := (hlo _ f).1; omega), a2.step hk (fun i hi f => by have := (hlo _ f).1; omega), a3.keeps hk (fun i hi f => ?_), fun i q t h1 h2 => (a4 i q t h1 h2).kept hk (fun f => ?_), ?_, Nat.le_trans a6 hk.size⟩
        · obtain ⟨_, cur, h3⟩ := a3.block hi
          obtain ⟨_, cur2, h4⟩ := hlo _ f
          exact ne_ty h3 h4 (by decide) rfl
        · obtain ⟨_, cur2, h4⟩ := hlo _ f
          exact ne_ty (a4 i q t h1 h2).blk h4 (by decide) rfl
        · rw [HTK.out, hke.out.1]
          exact her
      clear hap her hk HY HTK hke
      go_wp2_with (at_builtin; refine wpList_append_run rfl _ _ 41 rfl rfl rfl HRN.out ?_; clear HRN)
      go_roundw
      case rel => exact ⟨n + 1, by simp, by omega, HZ⟩
      case measure => simp [intOf]; omega
    · obtain rfl : n = F'.length := by omega
      go_wp2_with fail
      go_ret2
      have he := hr.out.2.2.2.2.1
      rw [List.take_length, HG.out.2.2.2.2.2.2.2.1] at he
      exact ⟨_, rfl, he, hr.out.1, hr.out.2.1⟩
end Go.Proofs.Ytalopkllldnipaa
