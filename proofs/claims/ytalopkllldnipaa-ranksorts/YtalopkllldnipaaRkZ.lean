
/- The walks of the calls New, Push and Len (layer 24). No statement of the seat is proved here. -/
import Derived.Test.YtalopkllldnipaaRkY
namespace Go.Proofs.Ytalopkllldnipaa
open Go.RowKit

theorem ofR_isW {n : Nat} (hn : n < 18446744073709551616) : isW (ofR n) := by
  unfold ofR isW
  split
  · omega
  · split <;> omega
set_option maxHeartbeats 4000000 in
theorem push_any {b g c : Nat} {s s1 : Wd} {r h0 x e : Int} {n : Nat} (heq : Hid (Wd.rpush r h0 (ofR n) x s = (((), e), s1))) (hr : isW r) (hh : isW h0) (hx : isW x) (hn : n < 18446744073709551616) {w : World} (h : WdAt w b g c s) :
    Calls Try.prog 24 #[.iface 24 (.pointer (some ⟨b, 0, none⟩)), .int .u64 r, .int .u64 h0, .float .f64 n, .int .u64 x] w fun a w' => a = .returned (.int .i64 e) ∧ WdAt w' b g c s1 ∧ Keeps (two b g) w w' := by
  obtain ⟨p, e1, s2, h1, h2, h3⟩ := bnd_step heq.out
  have hp := hepF_isW h1 h.ok
  have hlb := h.ltb
  have hlg := h.ltg
  have kn : Keeps (fun _ => False) w ((w.alloc (.cells #[.iface 24 (.pointer (some ⟨b, 0, none⟩))] 77)).alloc (.cells #[.int .u64 r] 25)) := (keeps_new w _).alloc _
  have b5 : Blk ((w.alloc (.cells #[.iface 24 (.pointer (some ⟨b, 0, none⟩))] 77)).alloc (.cells #[.int .u64 r] 25)) w.heap.size 77 #[.iface 24 (.pointer (some ⟨b, 0, none⟩))] := (blk_new w _ _).kept (keeps_new _ _) (fun f => f)
  have b6 : Blk ((w.alloc (.cells #[.iface 24 (.pointer (some ⟨b, 0, none⟩))] 77)).alloc (.cells #[.int .u64 r] 25)) (w.heap.size + 1) 25 #[.int .u64 r] := by
    have q := blk_new (w.alloc (.cells #[.iface 24 (.pointer (some ⟨b, 0, none⟩))] 77)) 25 #[.int .u64 r]
    have e1 : (w.alloc (.cells #[.iface 24 (.pointer (some ⟨b, 0, none⟩))] 77)).heap.size = w.heap.size + 1 := by simp
    rw [e1] at q
    exact q
  have HL := hid (And.intro hlb hlg)
  have HC := hid (heap_any (hid h1) hh (h.kept kn (fun f => f) (fun f => f)))
  have HK := hid (And.intro kn (And.intro b5 b6))
  have c5 := b5.cell (i := 0) rfl
  have H2 := hid (And.intro h2 h3)
  clear kn b5 b6 h h1 h2 h3 heq hlb hlg
  go_enter Try.func24, Try.ntmps24
  go_wp2_with fail
  refine HC.out.mono ?_
  rintro a w1 ⟨rfl, h1, k1⟩
  obtain ⟨N, hN⟩ : ∃ N, N = w.heap.size := ⟨_, rfl⟩
  have HF : Hid (WdAt (w1.alloc (.cells #[.int .u64 p.1, .int .u64 p.2] 111)) b g c s2 ∧ Keeps (two b g) w (w1.alloc (.cells #[.int .u64 p.1, .int .u64 p.2] 111)) ∧ Blk (w1.alloc (.cells #[.int .u64 p.1, .int .u64 p.2] 111)) w.heap.size 77 #[.iface 24 (.pointer (some ⟨b, 0, none⟩))] ∧ Blk (w1.alloc (.cells #[.int .u64 p.1, .int .u64 p.2] 111)) (w.heap.size + 1) 25 #[.int .u64 r] ∧ Blk (w1.alloc (.cells #[.int .u64 p.1, .int .u64 p.2] 111)) w1.heap.size 111 #[.int .u64 p.1, .int .u64 p.2] ∧ w.heap.size + 2 ≤ w1.heap.size) := by
    have hl := HL.out
    have k2 := keeps_new w1 (.cells #[.int .u64 p.1, .int .u64 p.2] 111)
    have hz := k1.size
    have e1 : ((w.alloc (.cells #[.iface 24 (.pointer (some ⟨b, 0, none⟩))] 77)).alloc (.cells #[.int .u64 r] 25)).heap.size = w.heap.size + 2 := by simp
    rw [e1] at hz
    refine hid ⟨h1.kept k2 (fun f => f) (fun f => f), ((HK.out.1.mono (fun _ _ f => f.elim)).trans k1).trans (k2.mono (fun _ _ f => f.elim)), (HK.out.2.1.kept k1 (fun f => ?_)).kept k2 (fun f => f), (HK.out.2.2.kept k1 (fun f => ?_)).kept k2 (fun f => f), blk_new w1 _ _, hz⟩
    · rcases f with f | f <;> omega
    · rcases f with f | f <;> omega
  have c5 : (w1.alloc (.cells #[.int .u64 p.1, .int .u64 p.2] 111)).cell? ⟨w.heap.size, 0, none⟩ = some (.iface 24 (.pointer (some ⟨b, 0, none⟩))) := HF.out.2.2.1.cell rfl
  clear HC HK h1 k1
  by_cases he1 : e1 = 0
  rotate_left
  · go_wp2_with fail
    go_ret
    obtain ⟨rfl, rfl, -⟩ := H2.out.2 he1
    exact ⟨rfl, HF.out.1, HF.out.2.1⟩
  subst he1
  obtain ⟨t, e2, s3, h4, h5, h6⟩ := bnd_step (H2.out.1 rfl)
  have HC := hid (tree_any (hid h4) hp.2 HF.out.1)
  have HTF := hid (fun u (hu : t = some u) => treF_f (by rw [← hu]; exact h4))
  have H5 := hid (And.intro h5 h6)
  clear h4 h5 h6 H2
  go_wp2_with fail
  refine HC.out.mono ?_
  rintro a w2 ⟨po, rfl, h1, k1, g1⟩
  have HG : Hid (WdAt w2 b g c s3 ∧ Keeps (two b g) w w2 ∧ Blk w2 w.heap.size 77 #[.iface 24 (.pointer (some ⟨b, 0, none⟩))] ∧ Blk w2 (w.heap.size + 1) 25 #[.int .u64 r] ∧ Blk w2 w1.heap.size 111 #[.int .u64 p.1, .int .u64 p.2] ∧ w.heap.size + 2 ≤ w1.heap.size ∧ w1.heap.size < w2.heap.size ∧ (e2 = 0 → PtAt w2 (w1.heap.size + 1) po t ∧ ∀ q, po = some ⟨q, 0, none⟩ → w1.heap.size < q ∧ q < w2.heap.size)) := by
    obtain ⟨a1, a2, a3, a4, a5, a6⟩ := HF.out
    have hl := HL.out
    have hz := k1.size
    have e1 : (w1.alloc (.cells #[.int .u64 p.1, .int .u64 p.2] 111)).heap.size = w1.heap.size + 1 := by simp
    rw [e1] at hz g1
    have ht : ∀ i, ¬ i < w.heap.size → ¬ two b g i := fun i hi f => by rcases f with f | f <;> omega
    refine hid ⟨h1, a2.trans k1, a3.kept k1 (ht _ (by omega)), a4.kept k1 (ht _ (by omega)), a5.kept k1 (ht _ (by omega)), a6, by omega, fun he => ⟨g1 he, fun q hq => ?_⟩⟩
    have g2 := g1 he
    cases t with
    | none => rw [show po = none from g2] at hq; cases hq
    | some t0 =>
      obtain ⟨q', h3, h4, h5⟩ := g2
      rw [h4] at hq
      injection hq with hq
      injection hq with hq
      subst hq
      exact ⟨by omega, h5.lt⟩
  clear HC HF h1 k1 g1 c5
  by_cases he2 : e2 = 0
  rotate_left
  · go_wp2_with fail
    go_ret
    obtain ⟨rfl, rfl, -⟩ := H5.out.2 he2
    exact ⟨rfl, HG.out.1, HG.out.2.1⟩
  subst he2
  obtain ⟨⟨t4, n4⟩, e3, s4, h4, h5, h6⟩ := bnd_step (H5.out.1 rfl)
  have HLF := hid (leaf_any n hn x hx w2)
  have HU := hid h4
  have H6 := hid (And.intro h5 h6)
  clear h4 h5 h6 H5
  go_wp2_with fail
  refine HLF.out.mono ?_
  rintro a w3 ⟨rfl, t3, k3⟩
  have HW : Hid (WdAt (w3.alloc (.cells #[.pointer (some ⟨w2.heap.size, 0, none⟩)] 104)) b g c s3 ∧ Keeps (two b g) w (w3.alloc (.cells #[.pointer (some ⟨w2.heap.size, 0, none⟩)] 104)) ∧ Blk (w3.alloc (.cells #[.pointer (some ⟨w2.heap.size, 0, none⟩)] 104)) w.heap.size 77 #[.iface 24 (.pointer (some ⟨b, 0, none⟩))] ∧ Blk (w3.alloc (.cells #[.pointer (some ⟨w2.heap.size, 0, none⟩)] 104)) (w.heap.size + 1) 25 #[.int .u64 r] ∧ Blk (w3.alloc (.cells #[.pointer (some ⟨w2.heap.size, 0, none⟩)] 104)) w1.heap.size 111 #[.int .u64 p.1, .int .u64 p.2] ∧ TrAt (w3.alloc (.cells #[.pointer (some ⟨w2.heap.size, 0, none⟩)] 104)) w2.heap.size (lef (ofR n) x) ∧ Blk (w3.alloc (.cells #[.pointer (some ⟨w2.heap.size, 0, none⟩)] 104)) w3.heap.size 104 #[.pointer (some ⟨w2.heap.size, 0, none⟩)] ∧ w2.heap.size < w3.heap.size ∧ PtAt (w3.alloc (.cells #[.pointer (some ⟨w2.heap.size, 0, none⟩)] 104)) (w1.heap.size + 1) po t) := by
    obtain ⟨a1, a2, a3, a4, a5, a6, a7, a8⟩ := HG.out
    have k4 : Keeps (fun _ => False) w2 (w3.alloc (.cells #[.pointer (some ⟨w2.heap.size, 0, none⟩)] 104)) := k3.alloc _
    exact hid ⟨a1.kept k4 (fun f => f) (fun f => f), a2.trans (k4.mono (fun _ _ f => f.elim)), a3.kept k4 (fun f => f), a4.kept k4 (fun f => f), a5.kept k4 (fun f => f), t3.kept (keeps_new _ _) (fun f => f), blk_new _ _ _, t3.lt, (a8 (by first | rfl | trivial)).1.kept k4 (fun _ f => f.elim)⟩
  have HC : Hid (Calls Try.prog 54 #[.iface 24 (.pointer (some ⟨b, 0, none⟩)), .pointer po, .pointer (some ⟨w2.heap.size, 0, none⟩), .func (.func 55) #[] #[.pointer (some ⟨w3.heap.size, 0, none⟩), .pointer (some ⟨w.heap.size, 0, none⟩), .pointer (some ⟨w.heap.size + 1, 0, none⟩)]] (w3.alloc (.cells #[.pointer (some ⟨w2.heap.size, 0, none⟩)] 104)) fun r w' => ∃ po, r = .returned (.tuple #[.pointer po, .int .i64 e3]) ∧ Hid (WdAt w' b g c s4 ∧ Keeps (two b g) w w' ∧ Blk w' w.heap.size 77 #[.iface 24 (.pointer (some ⟨b, 0, none⟩))] ∧ Blk w' w1.heap.size 111 #[.int .u64 p.1, .int .u64 p.2] ∧ (e3 = 0 → PtF b g (fun i => i = w2.heap.size ∧ (w2.heap.size ≠ b ∧ w2.heap.size ≠ g)) w' po t4))) := by
    obtain ⟨a1, a2, a3, a4, a5, a6, a7, a8, a9⟩ := HW.out
    obtain ⟨-, -, -, -, -, z1, z2, z3⟩ := HG.out
    have z4 := (z3 (by first | rfl | trivial)).2
    clear z3
    have hl := HL.out
    have hq2 : w2.heap.size ≠ b ∧ w2.heap.size ≠ g := by omega
    have hp : PuAt (w3.alloc (.cells #[.pointer (some ⟨w2.heap.size, 0, none⟩)] 104)) b g w.heap.size (w.heap.size + 1) w3.heap.size w2.heap.size r (lef (ofR n) x) := ⟨a6, hq2, a7.cell rfl, a3.cell rfl, a4.cell rfl, fun i hi f => by rcases f with f | f <;> omega⟩
    have hF1 : PtF b g (fun i => i = w2.heap.size ∧ (w2.heap.size ≠ b ∧ w2.heap.size ≠ g)) (w3.alloc (.cells #[.pointer (some ⟨w2.heap.size, 0, none⟩)] 104)) po t := by
      cases t with
      | none => exact a9
      | some t0 =>
        obtain ⟨q', h3, h4, h5⟩ := a9
        have := z4 q' h4
        have hf := HTF.out t0 rfl
        exact ⟨q', h4, h5, ⟨fun f => (by rw [hf] at f; cases f), fun f => absurd f.1 (by omega)⟩, fun f => by rcases f with f | f <;> omega⟩
    refine hid ((unite_any (turn_push hr rfl) HU.out a1 ⟨hp, hq2⟩ hF1 (tb := some (lef (ofR n) x)) ⟨w2.heap.size, rfl, a6, ⟨fun _ => ⟨rfl, hq2⟩, fun _ => rfl⟩, fun f => by rcases f with f | f <;> omega⟩ (fun q hq e => ?_)).mono ?_)
    · injection e with e
      injection e with e
      have := z4 q hq
      omega
    · rintro r' w' ⟨po', rfl, h1, k1, h2⟩
      have hno : ∀ i, (i = w.heap.size ∨ i = w1.heap.size) → ¬ (two b g i ∨ (fun i => i = w2.heap.size ∧ (w2.heap.size ≠ b ∧ w2.heap.size ≠ g)) i ∨ po = some ⟨i, 0, none⟩ ∨ some (⟨w2.heap.size, 0, none⟩ : Addr) = some ⟨i, 0, none⟩) := fun i hi f => by
        rcases f with f | f | f | f
        · rcases f with f | f <;> omega
        · have := f.1; omega
        · have := z4 i f; omega
        · injection f with f
          injection f with f
          omega
      refine ⟨po', rfl, hid ⟨h1, a2.step k1 (fun i hi f => ?_), a3.kept k1 (hno _ (.inl rfl)), a5.kept k1 (hno _ (.inr rfl)), h2⟩⟩
      rcases f with f | f | f | f
      · exact f
      · have := f.1; omega
      · have := z4 i f; omega
      · injection f with f
        injection f with f
        omega
  have c5 : (w3.alloc (.cells #[.pointer (some ⟨w2.heap.size, 0, none⟩)] 104)).cell? ⟨w.heap.size, 0, none⟩ = some (.iface 24 (.pointer (some ⟨b, 0, none⟩))) := HW.out.2.2.1.cell rfl
  clear HLF HW t3 k3
  go_wp2_with fail
  refine HC.out.mono ?_
  rintro a w5 ⟨po5, rfl, h5⟩
  clear HC c5
  by_cases he3 : e3 = 0
  rotate_left
  · go_wp2_with fail
    go_ret
    obtain ⟨rfl, rfl, -⟩ := H6.out.2 he3
    exact ⟨rfl, h5.out.1, h5.out.2.1⟩
  subst he3
  have HB := hid (H6.out.1 rfl)
  have HTO : Hid (∀ X : World, X.heap = w5.heap → Calls Try.prog 58 #[.pointer po5] X fun rr w' => rr = .returned (.int .u64 (toT t4)) ∧ w' = X) := hid (fun X hX => toT_any (base := 0) ((h5.out.2.2.2.2 (by first | rfl | trivial)).like hX).to)
  have HBC : Hid (∀ X : World, X.heap = w5.heap ∧ X.os = w5.os ∧ X.tape = w5.tape ∧ X.output = w5.output → Calls Try.prog 57 #[.agg #[.int .u64 p.1, .int .u64 p.2], .iface 24 (.pointer (some ⟨b, 0, none⟩)), .int .u64 h0, .int .u64 (uw (p.1 + 1)), .int .u64 (toT t4)] X fun rr w' => rr = .returned (.int .i64 e) ∧ Hid (WdAt w' b g c s1 ∧ Keeps (two b g) w w') ∧ w'.cell? ⟨w.heap.size, 0, none⟩ = some (.iface 24 (.pointer (some ⟨b, 0, none⟩))) ∧ w'.cell? ⟨w1.heap.size, 0, none⟩ = some (.int .u64 p.1) ∧ w'.cell? ⟨w1.heap.size, 1, none⟩ = some (.int .u64 p.2)) := by
    refine hid (fun X hX => ?_)
    obtain ⟨y1, y2, y3, y4, y5⟩ := h5.out
    have kx : Keeps (two b g) w5 X := (Keeps.refl _ w5).like hX.1 hX.2.1 hX.2.2.1 hX.2.2.2
    refine (become_any HB hh (uw_isW _) (toT_isW t4) (y1.like hX.1)).mono ?_
    rintro rr w' ⟨rfl, h1, k1⟩
    have k2 := kx.trans k1
    have hl := HL.out
    have z := HG.out.2.2.2.2.2.1
    have ht : ∀ i, ¬ i < w.heap.size → ¬ two b g i := fun i hi f => by rcases f with f | f <;> omega
    have q3 := y3.kept k2 (ht _ (by omega))
    have q4 := y4.kept k2 (ht _ (by omega))
    exact ⟨rfl, hid ⟨h1, y2.trans k2⟩, q3.cell rfl, q4.cell rfl, q4.cell rfl⟩
  have hS : w5.cell? ⟨w.heap.size, 0, none⟩ = some (.iface 24 (.pointer (some ⟨b, 0, none⟩))) ∧ w5.cell? ⟨w1.heap.size, 0, none⟩ = some (.int .u64 p.1) ∧ w5.cell? ⟨w1.heap.size, 1, none⟩ = some (.int .u64 p.2) := ⟨h5.out.2.2.1.cell rfl, h5.out.2.2.2.1.cell rfl, h5.out.2.2.2.1.cell rfl⟩
  clear HG h5 H6 HU
  go_wp2_with fail
  go_region_held3 (fun W : World => W.cell? ⟨w.heap.size, 0, none⟩ = some (.iface 24 (.pointer (some ⟨b, 0, none⟩))) ∧ W.cell? ⟨w1.heap.size, 0, none⟩ = some (.int .u64 p.1) ∧ W.cell? ⟨w1.heap.size, 1, none⟩ = some (.int .u64 p.2)) (first | assumption | (exact hS) | go_keep) (first
    | (go_at_call 58; refine (HTO.out _ (by exact rfl)).mono ?_; rintro e_ w_ ⟨rfl, hw_⟩; subst w_)
    | (go_at_call 57; refine (HBC.out _ (by exact ⟨rfl, rfl, rfl, rfl⟩)).mono ?_; rintro e_ w6 ⟨rfl, h6, hS5⟩))
  all_goals clear HTO HBC hS
  all_goals go_wp2_with fail
  all_goals go_ret
  all_goals exact ⟨rfl, h6.out.1, h6.out.2⟩
end Go.Proofs.Ytalopkllldnipaa
