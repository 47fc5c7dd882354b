
/- The walks of Join and of unroot (layer 24). No statement of the seat is proved here. -/
import Derived.Test.YtalopkllldnipaaRkZb
namespace Go.Proofs.Ytalopkllldnipaa
open Go.RowKit

theorem getK_ok {s s1 : Wd} {a e : Int} {n : Nat} {l : List Int} (h : getsF a n s = ((l, e), s1)) (hs : s.Ok) : s1.Ok := (gets_fact h hs).1
theorem hepF_ok {x e : Int} {p : Int × Int} {s s1 : Wd} (h : hepF x s = ((p, e), s1)) (hs : s.Ok) : s1.Ok := by
  obtain ⟨l, f, s2, h1, h2, h3⟩ := bnd_step h
  have ok2 := (gets_fact h1 hs).1
  by_cases hf : f = 0
  · have h2 : (if decide (oat l 0 = 0) ≠ decide (oat l 1 = 0) then err (0, 0) 340 else rtn (oat l 0, oat l 1)) s2 = ((p, e), s1) := h2 hf
    split at h2
    · unfold err at h2
      simp only [Prod.mk.injEq] at h2
      rw [← h2.2]
      exact ok2
    · rw [(rtn_eq h2).2.2]
      exact ok2
  · rw [(h3 hf).2.1]
    exact ok2
theorem uni_to (T : Wd → (Int × Int) × Wd) (k : Nat) {a b : Option Tr} {s s1 : Wd} {z e : Int} (h : bnd (uni T k a b) (fun p => rtn (toT p.1)) 0 s = ((z, e), s1)) : isW z := by
  obtain ⟨p, f, s2, h1, h2, h3⟩ := bnd_step h
  by_cases hf : f = 0
  · rw [(rtn_eq (h2 hf)).1]; exact toT_isW _
  · rw [(h3 hf).2.2]; exact zero_isW
theorem mldF_isW {x y z e : Int} {s s1 : Wd} (h : mldF x y s = ((z, e), s1)) (hx : isW x) (hy : isW y) : isW z := by
  unfold mldF at h
  split at h
  · rw [(rtn_eq h).1]; exact hy
  · split at h
    · rw [(rtn_eq h).1]; exact hx
    · obtain ⟨t1, f, s2, h1, h2, h3⟩ := bnd_step h
      by_cases hf : f = 0
      · obtain ⟨t2, f2, s3, h4, h5, h6⟩ := bnd_step (h2 hf)
        by_cases hf2 : f2 = 0
        · exact uni_to _ _ (h5 hf2)
        · rw [(h6 hf2).2.2]; exact zero_isW
      · rw [(h3 hf).2.2]; exact zero_isW

set_option maxHeartbeats 4000000 in
theorem joinh_any {b g c : Nat} {s s1 : Wd} {h0 o0 e : Int} (heq : Hid (Wd.rjoin h0 o0 s = (((), e), s1))) (hh : isW h0) (ho : isW o0) {w : World} (h : WdAt w b g c s) :
    Calls Try.prog 26 #[.iface 24 (.pointer (some ⟨b, 0, none⟩)), .int .u64 h0, .int .u64 o0] w fun a w' => a = .returned (.int .i64 e) ∧ WdAt w' b g c s1 ∧ Keeps (two b g) w w' := by
  have heq := heq.out
  unfold Wd.rjoin at heq
  by_cases hho : h0 = o0
  · rw [if_pos hho] at heq
    unfold err at heq
    simp only [Prod.mk.injEq, true_and] at heq
    obtain ⟨rfl, rfl⟩ := heq
    subst hho
    have HH := hid h
    clear h
    go_enter Try.func26, Try.ntmps26
    go_wp2_with fail
    go_ret
    exact ⟨rfl, HH.out, Keeps.refl _ _⟩
  rw [if_neg hho] at heq
  have hhb : (h0 == o0) = false := by simpa using hho
  obtain ⟨p, e1, s2, h1, h2, h3⟩ := bnd_step heq
  have hp := hepF_isW h1 h.ok
  have ok2 := hepF_ok h1 h.ok
  have HL := hid (And.intro h.ltb h.ltg)
  have HC := hid (heap_any (hid h1) hh h)
  have H2 := hid (And.intro h2 h3)
  clear h h1 h2 h3 heq hho
  go_enter Try.func26, Try.ntmps26
  go_wp2_with fail
  refine HC.out.mono ?_
  rintro a w1 ⟨rfl, h1, k1⟩
  have HF : Hid (WdAt (w1.alloc (.cells #[.int .u64 p.1, .int .u64 p.2] 111)) b g c s2 ∧ Keeps (two b g) w (w1.alloc (.cells #[.int .u64 p.1, .int .u64 p.2] 111)) ∧ Blk (w1.alloc (.cells #[.int .u64 p.1, .int .u64 p.2] 111)) w1.heap.size 111 #[.int .u64 p.1, .int .u64 p.2] ∧ w.heap.size ≤ w1.heap.size) := by
    have k2 := keeps_new w1 (.cells #[.int .u64 p.1, .int .u64 p.2] 111)
    exact hid ⟨h1.kept k2 (fun f => f) (fun f => f), k1.trans (k2.mono (fun _ _ f => f.elim)), blk_new w1 _ _, k1.size⟩
  clear HC h1 k1
  by_cases he1 : e1 = 0
  rotate_left
  · go_wp2_with fail
    go_ret
    obtain ⟨rfl, rfl, -⟩ := H2.out.2 he1
    exact ⟨rfl, HF.out.1, HF.out.2.1⟩
  subst he1
  obtain ⟨p2, e2, s3, h4, h5, h6⟩ := bnd_step (H2.out.1 rfl)
  have hp2 := hepF_isW h4 ok2
  have HC := hid (heap_any (hid h4) ho HF.out.1)
  have H5 := hid (And.intro h5 h6)
  clear h4 h5 h6 H2 ok2
  go_wp2_with fail
  refine HC.out.mono ?_
  rintro a w2 ⟨rfl, h1, k1⟩
  have HG : Hid (WdAt (w2.alloc (.cells #[.int .u64 p2.1, .int .u64 p2.2] 111)) b g c s3 ∧ Keeps (two b g) w (w2.alloc (.cells #[.int .u64 p2.1, .int .u64 p2.2] 111)) ∧ Blk (w2.alloc (.cells #[.int .u64 p2.1, .int .u64 p2.2] 111)) w1.heap.size 111 #[.int .u64 p.1, .int .u64 p.2] ∧ Blk (w2.alloc (.cells #[.int .u64 p2.1, .int .u64 p2.2] 111)) w2.heap.size 111 #[.int .u64 p2.1, .int .u64 p2.2] ∧ w.heap.size ≤ w1.heap.size ∧ w.heap.size ≤ w2.heap.size) := by
    obtain ⟨a1, a2, a3, a4⟩ := HF.out
    have hl := HL.out
    have k2 := keeps_new w2 (.cells #[.int .u64 p2.1, .int .u64 p2.2] 111)
    refine hid ⟨h1.kept k2 (fun f => f) (fun f => f), (a2.trans k1).trans (k2.mono (fun _ _ f => f.elim)), (a3.kept k1 (fun f => by rcases f with f | f <;> omega)).kept k2 (fun f => f), blk_new w2 _ _, a4, (a2.trans k1).size⟩
  have g0 : (w2.alloc (.cells #[.int .u64 p2.1, .int .u64 p2.2] 111)).cell? ⟨w1.heap.size, 0, none⟩ = some (.int .u64 p.1) := HG.out.2.2.1.cell rfl
  have g1 : (w2.alloc (.cells #[.int .u64 p2.1, .int .u64 p2.2] 111)).cell? ⟨w1.heap.size, 1, none⟩ = some (.int .u64 p.2) := HG.out.2.2.1.cell rfl
  clear HC HF h1 k1
  by_cases he2 : e2 = 0
  rotate_left
  · go_wp2_with fail
    go_ret
    obtain ⟨rfl, rfl, -⟩ := H5.out.2 he2
    exact ⟨rfl, HG.out.1, HG.out.2.1⟩
  subst he2
  obtain ⟨z, e3, s4, h4, h5, h6⟩ := bnd_step (H5.out.1 rfl)
  have hz := mldF_isW h4 hp.2 hp2.2
  have HC := hid (meld_any (hid h4) hp.2 hp2.2 HG.out.1)
  have H6 := hid (And.intro h5 h6)
  clear h4 h5 h6 H5
  go_wp2_with fail
  refine HC.out.mono ?_
  rintro a w3 ⟨rfl, h1, k1⟩
  have HX : Hid (WdAt w3 b g c s4 ∧ Keeps (two b g) w w3 ∧ Blk w3 w1.heap.size 111 #[.int .u64 p.1, .int .u64 p.2] ∧ Blk w3 w2.heap.size 111 #[.int .u64 p2.1, .int .u64 p2.2] ∧ w.heap.size ≤ w1.heap.size ∧ w.heap.size ≤ w2.heap.size) := by
    obtain ⟨a1, a2, a3, a4, a5, a6⟩ := HG.out
    have hl := HL.out
    exact hid ⟨h1, a2.trans k1, a3.kept k1 (fun f => by rcases f with f | f <;> omega), a4.kept k1 (fun f => by rcases f with f | f <;> omega), a5, a6⟩
  have q0 : w3.cell? ⟨w1.heap.size, 0, none⟩ = some (.int .u64 p.1) := HX.out.2.2.1.cell rfl
  have q1 : w3.cell? ⟨w1.heap.size, 1, none⟩ = some (.int .u64 p.2) := HX.out.2.2.1.cell rfl
  have r0 : w3.cell? ⟨w2.heap.size, 0, none⟩ = some (.int .u64 p2.1) := HX.out.2.2.2.1.cell rfl
  clear HC HG h1 k1 g0 g1
  by_cases he3 : e3 = 0
  rotate_left
  · go_wp2_with fail
    go_ret
    obtain ⟨rfl, rfl, -⟩ := H6.out.2 he3
    exact ⟨rfl, HX.out.1, HX.out.2.1⟩
  subst he3
  obtain ⟨⟨⟩, e4, s5, h4, h5, h6⟩ := bnd_step (H6.out.1 rfl)
  have HC := hid (become_any (hid h4) hh (uw_isW (p.1 + p2.1)) hz HX.out.1)
  have H7 := hid (And.intro h5 h6)
  clear h4 h5 h6 H6
  go_wp2_with fail
  refine HC.out.mono ?_
  rintro a w4 ⟨rfl, h1, k1⟩
  have HY : Hid (WdAt w4 b g c s5 ∧ Keeps (two b g) w w4 ∧ Blk w4 w2.heap.size 111 #[.int .u64 p2.1, .int .u64 p2.2]) := by
    obtain ⟨a1, a2, a3, a4, a5, a6⟩ := HX.out
    have hl := HL.out
    exact hid ⟨h1, a2.trans k1, a4.kept k1 (fun f => by rcases f with f | f <;> omega)⟩
  have q0 : w4.cell? ⟨w2.heap.size, 0, none⟩ = some (.int .u64 p2.1) := HY.out.2.2.cell rfl
  have q1 : w4.cell? ⟨w2.heap.size, 1, none⟩ = some (.int .u64 p2.2) := HY.out.2.2.cell rfl
  clear HC HX h1 k1 r0
  by_cases he4 : e4 = 0
  rotate_left
  · go_wp2_with fail
    go_ret
    obtain ⟨rfl, rfl, -⟩ := H7.out.2 he4
    exact ⟨rfl, HY.out.1, HY.out.2.1⟩
  subst he4
  have HC := hid (become_any (hid (H7.out.1 rfl)) ho zero_isW zero_isW HY.out.1)
  clear H7
  go_wp2_with fail
  refine HC.out.mono ?_
  rintro a w5 ⟨rfl, h1, k1⟩
  have HZ := hid (And.intro h1 (HY.out.2.1.trans k1))
  clear HC HY h1 k1
  go_wp2_with fail
  go_ret
  exact ⟨rfl, HZ.out⟩

set_option maxHeartbeats 4000000 in
/-- A root is taken out of its heap. -/
theorem unroot_any {b g c q : Nat} {t : Tr} {s s1 : Wd} {h0 e : Int} {p : Int × Int} (heq : Hid (bnd (mldF (oat t.c 2) (oat t.c 3)) (fun top => becU h0 p (uw (p.1 - 1)) top) () s = (((), e), s1))) (hh : isW h0) {w : World} (h : WdAt w b g c s) (ht : TrAt w q t) (hq : q ≠ b ∧ q ≠ g) :
    Calls Try.prog 60 #[.iface 24 (.pointer (some ⟨b, 0, none⟩)), .int .u64 h0, .agg #[.int .u64 p.1, .int .u64 p.2], .pointer (some ⟨q, 0, none⟩)] w fun a w' => a = .returned (.int .i64 e) ∧ WdAt w' b g c s1 ∧ Keeps (two b g) w w' := by
  obtain ⟨z, e1, s2, h1, h2, h3⟩ := bnd_step heq.out
  have hz := mldF_isW h1 (ht.wc 2) (ht.wc 3)
  have HL := hid (And.intro h.ltb h.ltg)
  have HH := hid h
  have HT := hid ht
  have kn := keeps_new w (.cells #[.int .u64 p.1, .int .u64 p.2] 111)
  have ht1 := ht.kept kn (fun f => f)
  have HC : Hid (∀ X : World, X.heap = (w.alloc (.cells #[.int .u64 p.1, .int .u64 p.2] 111)).heap ∧ X.os = w.os ∧ X.tape = w.tape ∧ X.output = w.output → Calls Try.prog 59 #[.iface 24 (.pointer (some ⟨b, 0, none⟩)), .int .u64 (oat t.c 2), .int .u64 (oat t.c 3)] X fun r w' => r = .returned (.tuple #[.int .u64 z, .int .i64 e1]) ∧ Hid (WdAt w' b g c s2 ∧ Keeps (two b g) w w' ∧ Blk w' w.heap.size 111 #[.int .u64 p.1, .int .u64 p.2]) ∧ w'.cell? ⟨q, 3, none⟩ = some (.int .u64 (oat t.c 2)) ∧ w'.cell? ⟨q, 4, none⟩ = some (.int .u64 (oat t.c 3))) := by
    refine hid (fun X hX => ?_)
    have hl := HL.out
    have kx : Keeps (fun _ => False) w X := ((Keeps.refl _ w).alloc _).like hX.1 hX.2.1 hX.2.2.1 hX.2.2.2
    have hbx : Blk X w.heap.size 111 #[.int .u64 p.1, .int .u64 p.2] := by unfold Blk; rw [hX.1]; exact blk_new w _ _
    refine (meld_any (hid h1) (ht.wc 2) (ht.wc 3) (HH.out.kept kx (fun f => f) (fun f => f))).mono ?_
    rintro r w' ⟨rfl, h3, k3⟩
    have hq3 := (HT.out.kept kx (fun f => f)).kept k3 (fun f => by rcases f with f | f; exact hq.1 f; exact hq.2 f)
    exact ⟨rfl, hid ⟨h3, (kx.mono (fun _ _ f => f.elim)).trans k3, hbx.kept k3 (fun f => by rcases f with f | f <;> omega)⟩, hq3.cells.2.2.2.1, hq3.cells.2.2.2.2.1⟩
  have hS : (w.alloc (.cells #[.int .u64 p.1, .int .u64 p.2] 111)).cell? ⟨q, 3, none⟩ = some (.int .u64 (oat t.c 2)) ∧ (w.alloc (.cells #[.int .u64 p.1, .int .u64 p.2] 111)).cell? ⟨q, 4, none⟩ = some (.int .u64 (oat t.c 3)) := ⟨ht1.cells.2.2.2.1, ht1.cells.2.2.2.2.1⟩
  have H2 := hid (And.intro h2 h3)
  clear h ht h1 h2 h3 heq ht1 kn
  go_enter Try.func60, Try.ntmps60
  go_wp2_with fail
  go_region_held3 (fun W : World => W.cell? ⟨q, 3, none⟩ = some (.int .u64 (oat t.c 2)) ∧ W.cell? ⟨q, 4, none⟩ = some (.int .u64 (oat t.c 3))) (first | assumption | (exact hS) | go_keep) ((go_at_call 59; refine (HC.out _ (by exact ⟨rfl, rfl, rfl, rfl⟩)).mono ?_; rintro e_ w2 ⟨rfl, h2, hS2⟩))
  clear HC hS hS2
  have q0 : w2.cell? ⟨w.heap.size, 0, none⟩ = some (.int .u64 p.1) := h2.out.2.2.cell rfl
  have q1 : w2.cell? ⟨w.heap.size, 1, none⟩ = some (.int .u64 p.2) := h2.out.2.2.cell rfl
  by_cases he1 : e1 = 0
  rotate_left
  · go_wp2_with fail
    go_ret
    obtain ⟨rfl, rfl, -⟩ := H2.out.2 he1
    exact ⟨rfl, h2.out.1, h2.out.2.1⟩
  subst he1
  have HC := hid (become_any (hid (H2.out.1 rfl)) hh (uw_isW (p.1 - 1)) hz h2.out.1)
  clear H2
  go_wp2_with fail
  refine HC.out.mono ?_
  rintro a w3 ⟨rfl, h3, k3⟩
  have HZ := hid (And.intro h3 (h2.out.2.1.trans k3))
  clear HC h2 h3 k3
  go_wp2_with fail
  go_ret
  exact ⟨rfl, HZ.out⟩
end Go.Proofs.Ytalopkllldnipaa
