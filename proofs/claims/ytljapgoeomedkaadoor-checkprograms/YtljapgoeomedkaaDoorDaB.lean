
/- Walks of the document's spread: all that ways lead to. No statement of the seat is proved here. -/
import Derived.Test.YtljapgoeomedkaaDoorDaA
namespace Go.Proofs.YtljapgoeomedkaaDoor
open Go.RowKit Go.Shelf

/-- Shut at a point: what follows it is there. -/
def ShutAt (p : List I5) (L : List (Nat × Bool)) (a : Nat) (s : Bool) : Prop := (a, s) ∈ L → ∀ b ∈ folL (at5 p a) a, b < p.length → (b, sideB (at5 p a).op s) ∈ L
def RsPost (p : List I5) (w : World) (e : Ending) (w' : World) : Prop := ∃ f, e = .returned (.slice (some ⟨f, 0, none⟩) p.length p.length) ∧ w.heap.size ≤ f ∧ Keeps (fun _ => False) w w' ∧ Fn3 w' f p.length (reachB p)

theorem Fn3.kept {w wr w' : World} {f : Nat} (k : Keeps (fun q => q = f) wr w') (h : Keeps (fun _ => False) w wr) (hf : w.heap.size ≤ f) : Keeps (fun _ => False) w w' := InsB.kept k h hf

set_option maxRecDepth 100000 in
set_option maxHeartbeats 8000000 in
theorem rspread_any (v : Value) (p : List I5) (w : World) (h : InsAt w v p) (hp : 0 < p.length) (hl : p.length ≤ 256) : Calls Tryd.prog 34 #[v] w (RsPost p w) := by
  have HI : Hid (∀ X, Keeps (fun _ => False) w X → InsAt X v p) := fun X k => h.keeps k
  obtain ⟨⟨av, cap, rfl, -⟩, -, -⟩ := h
  obtain ⟨cs, hmk, hF⟩ := run_b3 w p.length (by omega)
  have hmark := hF.mark (b := 0) false hp
  simp only [Nat.zero_mul, Bool.toNat_false, Nat.zero_add] at hmark
  have fz := hF.frozen 1
  have c0 := (hF.cell hp).1
  simp only [Nat.zero_mul, Nat.zero_add] at c0
  have hpi : ¬ (p.length : Int) = 0 := by omega
  have hpp : (0 : Int) < p.length := by omega
  have e0 : ((w.alloc (.cells cs 83)).setCell ⟨w.heap.size, 1, none⟩ (.bool true)) = w.alloc (.cells (cs.setIfInBounds 1 (.bool true)) 83) := World.setCell_alloc_new _ _ _ _
  rw [e0] at hmark
  have k1 := (Keeps.refl (fun _ => False) w).alloc (.cells (cs.setIfInBounds 1 (.bool true)) 83)
  have em : markR (fun _ _ => false) 0 false = fun a s => decide ((a, s) ∈ [((0 : Nat), false)]) := by
    funext a s; unfold markR; rw [Bool.eq_iff_iff]; simp
  rw [em] at hmark
  clear em e0
  go_enter Tryd.func34, Tryd.ntmps34
  go_wp2_with fail
  rw [show ((p.length : Int) == 0) = false from beq_eq_false_iff_ne.2 (by omega)]
  clear hmk hF fz c0
  go_loopg [4] (2 * p.length + 2) (fun gq m wr => ∃ (b : Bool) (L : List (Nat × Bool)), m = .bool b ∧ (b = true → 2 * p.length + 2 ≤ gq + L.length) ∧ Hid (Way p L ∧ Fn3 wr w.heap.size p.length (fun a s => decide ((a, s) ∈ L)) ∧ Keeps (fun _ => False) w wr ∧ (b = false → ∀ a s, ShutAt p L a s)))
  case atStart => exact ⟨true, [(0, false)], rfl, fun _ => by simp, ⟨Way.one p, hmark, k1, fun e => by cases e⟩⟩
  case round =>
    clear hmark k1
    obtain ⟨b, L, rfl, hgq, hh⟩ := hrel
    obtain ⟨hW, hF, hK, hb⟩ := hh.out
    cases b
    · have hS := hb rfl
      have hR := reachB_eq' (p := p) (L := L) hW.start (fun x hx b hb hlt => hS x.1 x.2 hx b hb hlt) hW.reach
      clear hh
      go_wp2_with fail
      go_ret
      exact ⟨_, rfl, Nat.le_refl _, hK, by rw [hR]; exact hF⟩
    · have hgL := hgq rfl
      have hLn := pts_le hW.nodup (hW.lt hp)
      clear hh hb hgq
      go_wp2_with fail
      go_loopw [4, 5] (fun x m wr => ∃ (a : Nat) (b : Bool) (L' : List (Nat × Bool)), x = .bool b ∧ m = .int .i64 a ∧ a ≤ p.length ∧ Hid (Way p L' ∧ Fn3 wr w.heap.size p.length (fun a s => decide ((a, s) ∈ L')) ∧ Keeps (fun _ => False) w wr ∧ (∀ x ∈ L, x ∈ L') ∧ (b = false → L' = L ∧ ∀ a', a' < a → ∀ s, ShutAt p L a' s) ∧ (b = true → L.length < L'.length))) (fun _ m _ => p.length - (intOf m).toNat)
      case atStart => exact ⟨0, false, L, rfl, rfl, Nat.zero_le _, ⟨hW, hF, hK, fun x hx => hx, fun _ => ⟨rfl, fun a' h => by omega⟩, fun h => by cases h⟩⟩
      case round =>
        clear hW hF hK
        obtain ⟨a, b, L', rfl, rfl, ha, hh⟩ := hrel
        obtain ⟨hW, hF, hK, hS, hb0, hb1⟩ := hh.out
        by_cases hlt : a < p.length
        · have hai : (a : Int) < p.length := by omega
          clear hh
          go_wp2_with fail
          go_loopw [4, 6] (fun x m wr => ∃ (j : Nat) (b : Bool) (L' : List (Nat × Bool)), x = .bool b ∧ m = .int .i64 ((j : Int) + 1) ∧ j ≤ 2 ∧ Hid (Way p L' ∧ Fn3 wr w.heap.size p.length (fun a s => decide ((a, s) ∈ L')) ∧ Keeps (fun _ => False) w wr ∧ (∀ x ∈ L, x ∈ L') ∧ (b = false → L' = L ∧ (∀ a', a' < a → ∀ s, ShutAt p L a' s) ∧ (0 < j → ShutAt p L a false) ∧ (1 < j → ShutAt p L a true)) ∧ (b = true → L.length < L'.length))) (fun _ m _ => 4 - (intOf m).toNat)
          case atStart => exact ⟨0, b, L', rfl, rfl, by omega, ⟨hW, hF, hK, hS, fun e => ⟨(hb0 e).1, (hb0 e).2, fun h => by omega, fun h => by omega⟩, hb1⟩⟩
          case round =>
            clear hW hF hK hS hb0 hb1
            obtain ⟨j, b, L', rfl, rfl, hj, hh⟩ := hrel
            obtain ⟨hW, hF, hK, hS, hb0, hb1⟩ := hh.out
            have hj3 : j = 0 ∨ j = 1 ∨ j = 2 := by omega
            rcases hj3 with rfl | rfl | rfl
            · have cf := hF.cell1 hlt false
              simp only [Bool.toNat_false, Nat.zero_add] at cf
              rw [show (((0 : Nat) : Int) + 1) = 1 from rfl]
              by_cases hm : (a, false) ∈ L'
              · rw [decide_eq_true hm] at cf
                have PA := pass_any _ p w.heap.size a false L' wr (fun X kX => HI.out X (Fn3.kept kX hK (Nat.le_refl _))) hp hW hm hF
                rw [show sideN false + 1 = 1 from rfl] at PA
                have HX : Hid (_ ∧ _ ∧ _ ∧ _) := ⟨hK, hS, hb0, hb1⟩
                clear hh hK hS hb0 hb1 hF
                go_wp2_with fail
                refine PA.mono ?_
                rintro e w2 ⟨t, L2, rfl, hW2, hS2, hF2, k2, ht0, ht1⟩
                obtain ⟨hK, hS, hb0, hb1⟩ := HX.out
                have K2 := Fn3.kept k2 hK (Nat.le_refl _)
                clear PA HX
                cases t
                · obtain ⟨rfl, hcl⟩ := ht0 rfl
                  have HR : Hid (Way p L2 ∧ Fn3 w2 w.heap.size p.length (fun a s => decide ((a, s) ∈ L2)) ∧ Keeps (fun _ => False) w w2 ∧ (∀ x ∈ L, x ∈ L2) ∧ (b = false → L2 = L ∧ (∀ a', a' < a → ∀ s, ShutAt p L a' s) ∧ (0 < 0 + 1 → ShutAt p L a false) ∧ (1 < 0 + 1 → ShutAt p L a true)) ∧ (b = true → L.length < L2.length)) := ⟨hW2, hF2, K2, hS, fun e => by
                    obtain ⟨e1, e2, e3, e4⟩ := hb0 e
                    subst e1
                    exact ⟨rfl, e2, fun _ _ => hcl, fun h => absurd h (by omega)⟩, hb1⟩
                  clear hK hS hb0 hb1 hW2 hF2 K2 k2 hcl ht0 ht1
                  go_wp2_with fail
                  go_roundw
                  · exact ⟨0 + 1, b, L2, rfl, rfl, by omega, HR.out⟩
                  · simp [intOf]
                · have hlen := ht1 rfl
                  have HR : Hid (Way p L2 ∧ Fn3 w2 w.heap.size p.length (fun a s => decide ((a, s) ∈ L2)) ∧ Keeps (fun _ => False) w w2 ∧ (∀ x ∈ L, x ∈ L2) ∧ (true = false → L2 = L ∧ (∀ a', a' < a → ∀ s, ShutAt p L a' s) ∧ (0 < 0 + 1 → ShutAt p L a false) ∧ (1 < 0 + 1 → ShutAt p L a true)) ∧ (true = true → L.length < L2.length)) := ⟨hW2, hF2, K2, fun x hx => hS2 x (hS x hx), (fun e => by cases e), fun _ => by
                    have : L.length ≤ L'.length := by
                      rcases b with _ | _
                      · rw [(hb0 rfl).1]; exact Nat.le_refl _
                      · have := hb1 rfl; omega
                    omega⟩
                  clear hK hS hb0 hb1 hW2 hF2 K2 k2 ht0 ht1
                  go_wp2_with fail
                  go_roundw
                  · obtain ⟨z1, z2, z3, z4, z5, z6⟩ := HR.out
                    exact ⟨0 + 1, true, L2, rfl, rfl, by omega, ⟨z1, z2, z3, z4, z5, fun _ => z6 trivial⟩⟩
                  · simp [intOf]
              · rw [decide_eq_false hm] at cf
                have HR : Hid (Way p L' ∧ Fn3 wr w.heap.size p.length (fun a s => decide ((a, s) ∈ L')) ∧ Keeps (fun _ => False) w wr ∧ (∀ x ∈ L, x ∈ L') ∧ (b = false → L' = L ∧ (∀ a', a' < a → ∀ s, ShutAt p L a' s) ∧ (0 < 0 + 1 → ShutAt p L a false) ∧ (1 < 0 + 1 → ShutAt p L a true)) ∧ (b = true → L.length < L'.length)) := ⟨hW, hF, hK, hS, fun e => by
                  obtain ⟨e1, e2, e3, e4⟩ := hb0 e
                  subst e1
                  exact ⟨rfl, e2, fun _ h => absurd h hm, fun h => absurd h (by omega)⟩, hb1⟩
                clear hh hK hS hb0 hb1 hW hF
                go_wp2_with fail
                go_roundw
                · exact ⟨0 + 1, b, L', rfl, rfl, by omega, HR.out⟩
                · simp [intOf]
            · have cf := hF.cell1 hlt true
              simp only [Bool.toNat_true, Nat.reduceAdd] at cf
              rw [show (((1 : Nat) : Int) + 1) = 2 from rfl]
              by_cases hm : (a, true) ∈ L'
              · rw [decide_eq_true hm] at cf
                have PA := pass_any _ p w.heap.size a true L' wr (fun X kX => HI.out X (Fn3.kept kX hK (Nat.le_refl _))) hp hW hm hF
                rw [show sideN true + 1 = 2 from rfl] at PA
                have HX : Hid (_ ∧ _ ∧ _ ∧ _) := ⟨hK, hS, hb0, hb1⟩
                clear hh hK hS hb0 hb1 hF
                go_wp2_with fail
                refine PA.mono ?_
                rintro e w2 ⟨t, L2, rfl, hW2, hS2, hF2, k2, ht0, ht1⟩
                obtain ⟨hK, hS, hb0, hb1⟩ := HX.out
                have K2 := Fn3.kept k2 hK (Nat.le_refl _)
                clear PA HX
                cases t
                · obtain ⟨rfl, hcl⟩ := ht0 rfl
                  have HR : Hid (Way p L2 ∧ Fn3 w2 w.heap.size p.length (fun a s => decide ((a, s) ∈ L2)) ∧ Keeps (fun _ => False) w w2 ∧ (∀ x ∈ L, x ∈ L2) ∧ (b = false → L2 = L ∧ (∀ a', a' < a → ∀ s, ShutAt p L a' s) ∧ (0 < 1 + 1 → ShutAt p L a false) ∧ (1 < 1 + 1 → ShutAt p L a true)) ∧ (b = true → L.length < L2.length)) := ⟨hW2, hF2, K2, hS, fun e => by
                    obtain ⟨e1, e2, e3, e4⟩ := hb0 e
                    subst e1
                    exact ⟨rfl, e2, fun _ => e3 (by omega), fun _ _ => hcl⟩, hb1⟩
                  clear hK hS hb0 hb1 hW2 hF2 K2 k2 hcl ht0 ht1
                  go_wp2_with fail
                  go_roundw
                  · exact ⟨1 + 1, b, L2, rfl, rfl, by omega, HR.out⟩
                  · simp [intOf]
                · have hlen := ht1 rfl
                  have HR : Hid (Way p L2 ∧ Fn3 w2 w.heap.size p.length (fun a s => decide ((a, s) ∈ L2)) ∧ Keeps (fun _ => False) w w2 ∧ (∀ x ∈ L, x ∈ L2) ∧ (true = false → L2 = L ∧ (∀ a', a' < a → ∀ s, ShutAt p L a' s) ∧ (0 < 1 + 1 → ShutAt p L a false) ∧ (1 < 1 + 1 → ShutAt p L a true)) ∧ (true = true → L.length < L2.length)) := ⟨hW2, hF2, K2, fun x hx => hS2 x (hS x hx), (fun e => by cases e), fun _ => by
                    have : L.length ≤ L'.length := by
                      rcases b with _ | _
                      · rw [(hb0 rfl).1]; exact Nat.le_refl _
                      · have := hb1 rfl; omega
                    omega⟩
                  clear hK hS hb0 hb1 hW2 hF2 K2 k2 ht0 ht1
                  go_wp2_with fail
                  go_roundw
                  · obtain ⟨z1, z2, z3, z4, z5, z6⟩ := HR.out
                    exact ⟨1 + 1, true, L2, rfl, rfl, by omega, ⟨z1, z2, z3, z4, z5, fun _ => z6 trivial⟩⟩
                  · simp [intOf]
              · rw [decide_eq_false hm] at cf
                have HR : Hid (Way p L' ∧ Fn3 wr w.heap.size p.length (fun a s => decide ((a, s) ∈ L')) ∧ Keeps (fun _ => False) w wr ∧ (∀ x ∈ L, x ∈ L') ∧ (b = false → L' = L ∧ (∀ a', a' < a → ∀ s, ShutAt p L a' s) ∧ (0 < 1 + 1 → ShutAt p L a false) ∧ (1 < 1 + 1 → ShutAt p L a true)) ∧ (b = true → L.length < L'.length)) := ⟨hW, hF, hK, hS, fun e => by
                  obtain ⟨e1, e2, e3, e4⟩ := hb0 e
                  subst e1
                  exact ⟨rfl, e2, fun _ => e3 (by omega), fun _ h => absurd h hm⟩, hb1⟩
                clear hh hK hS hb0 hb1 hW hF
                go_wp2_with fail
                go_roundw
                · exact ⟨1 + 1, b, L', rfl, rfl, by omega, HR.out⟩
                · simp [intOf]
            · rw [show (((2 : Nat) : Int) + 1) = 3 from rfl]
              have HR : Hid (Way p L' ∧ Fn3 wr w.heap.size p.length (fun a s => decide ((a, s) ∈ L')) ∧ Keeps (fun _ => False) w wr ∧ (∀ x ∈ L, x ∈ L') ∧ (b = false → L' = L ∧ ∀ a', a' < a + 1 → ∀ s, ShutAt p L a' s) ∧ (b = true → L.length < L'.length)) := ⟨hW, hF, hK, hS, fun e => by
                obtain ⟨e1, e2, e3, e4⟩ := hb0 e
                refine ⟨e1, fun a' ha' s => ?_⟩
                by_cases he : a' = a
                · subst he
                  cases s
                  · exact e3 (by omega)
                  · exact e4 (by omega)
                · exact e2 a' (by omega) s, hb1⟩
              clear hh hW hF hK hS hb0 hb1
              go_wp2_with fail
              go_roundw
              · exact ⟨a + 1, b, L', rfl, by simp, by omega, HR.out⟩
              · simp [intOf]; omega
        · have hai : ¬ (a : Int) < p.length := by omega
          obtain rfl : a = p.length := by omega
          have HR : Hid (Way p L' ∧ Fn3 wr w.heap.size p.length (fun a s => decide ((a, s) ∈ L')) ∧ Keeps (fun _ => False) w wr ∧ (b = false → ∀ a s, ShutAt p L' a s)) := ⟨hW, hF, hK, fun e => by
            obtain ⟨e1, e2⟩ := hb0 e
            subst e1
            intro a s hm
            exact e2 a (hW.lt hp _ hm) s hm⟩
          have hlen : b = true → 2 * p.length + 2 ≤ gk - 1 + L'.length := fun e => by have := hb1 e; omega
          clear hh hW hF hK hS hb0 hb1
          go_wp2_with fail
          go_roundg (gk - 1)
          case measure => omega
          case rel => exact ⟨b, L', rfl, hlen, HR.out⟩
end Go.Proofs.YtljapgoeomedkaaDoor
