/-
  No statement of the seat is proved here. (Several texts in one: EvD.)
-/
import Derived.Test.YthmiainhaebjiaaGreatDoorM01EvC
import Derived.Deep.RegionHeld3

/- Walks of formed, turn, locked, numbered, owned, refusal (package events). No statement of the seat is proved here. -/
namespace Go.Proofs.YthmiainhaebjiaaGreatDoor
open Go.RowKit Go.Shelf

/-- Two worlds that differ in nothing but draws. -/
def Like (a b : World) : Prop := a.os = b.os ∧ a.tape = b.tape ∧ a.output = b.output ∧ a.heap = b.heap
theorem Like.keeps {a b : World} (h : Like a b) : Keeps (fun _ => False) b a := ⟨h.1, h.2.1, h.2.2.1, by rw [h.2.2.2]; exact Nat.le_refl _, fun _ _ _ => by rw [h.2.2.2]⟩
def bareQ (e : Ev) : Bool := e.th == (bareE e).th && e.kd == (bareE e).kd && e.ad == (bareE e).ad && e.wd == (bareE e).wd && e.own == (bareE e).own && e.er == (bareE e).er
theorem bareQ_eq (e : Ev) : bareQ e = bareB e := by
  obtain ⟨th, kd, ad, wd, own, er⟩ := e
  unfold bareQ bareB bareE
  dsimp only
  cases adB kd <;> cases wdB kd <;> cases erB kd <;> cases own <;> simp <;> grind
theorem eq_ev (a b c d e' a' b' c' d' f' : Int) (o o' : Bool) (w : World) : (Op.equalIn 10000 60 (.agg #[.int .i64 a, .int .i64 b, .int .u64 c, .int .u64 d, .bool o, .int .i64 e']) (.agg #[.int .i64 a', .int .i64 b', .int .u64 c', .int .u64 d', .bool o', .int .i64 f'])).run Tryz.prog w = .ok (a == a' && b == b' && c == c' && d == d' && o == o' && e' == f') w := by
  have u3 := Tryz.underlying3
  have a3 := Tryz.isAgg3
  have z3 := Tryz.sizeOf3
  have u4 := Tryz.underlying52
  have a4 := Tryz.isAgg52
  have z4 := Tryz.sizeOf52
  have u5 := Tryz.underlying26
  have a5 := Tryz.isAgg26
  have z5 := Tryz.sizeOf26
  have u6 := Tryz.underlying4
  have a6 := Tryz.isAgg4
  have z6 := Tryz.sizeOf4
  have u7 := Tryz.underlying29
  have a7 := Tryz.isAgg29
  have z7 := Tryz.sizeOf29
  have hS : Tryz.prog.underlying 60 = some (.struct (Tryz.prog.fieldsOf 60)) := by kernel_rfl
  rw [show (10000 : Nat) = 9999 + 1 from rfl, run_equalIn_agg w 9999 60 _ _ hS (by kernel_rfl)]
  simp only [Program.fieldsOf, Tryz.underlying60]
  go_simp
  by_cases h1 : a = a' <;> by_cases h2 : b = b' <;> by_cases h3 : c = c' <;> by_cases h4 : d = d' <;> by_cases h5 : o = o' <;> by_cases h6 : e' = f' <;> simp [h1, h2, h3, h4, h5, h6]

theorem tm2 (x : Int) : x.tmod 2 = 0 ↔ x % 2 = 0 := by rw [← Int.dvd_iff_tmod_eq_zero, ← Int.dvd_iff_emod_eq_zero]
set_option maxRecDepth 100000 in
set_option maxHeartbeats 2000000 in
theorem formed_any (e : Ev) (w : World) (hg : Gv w) : Calls Tryz.prog 99 #[.agg e.cells] w fun ex w' => ex = .returned (.bool (formedE e)) ∧ Keeps (fun _ => False) w w' := by
  have hbq := bareQ_eq e
  have BA := fun h0 h1 W (hW : Keeps (fun _ => False) w W) => bare_any e h0 h1 W (hg.keeps hW)
  have hF : formedE e = (inB e && bareB e && lastB e) := rfl
  rw [hF, ← hbq]
  clear hbq hF hg
  have hQ : bareQ e = (e.th == (bareE e).th && e.kd == (bareE e).kd && e.ad == (bareE e).ad && e.wd == (bareE e).wd && e.own == (bareE e).own && e.er == (bareE e).er) := rfl
  generalize bareE e = b at *
  generalize bareQ e = q at *
  obtain ⟨bth, bkd, bad, bwd, bown, ber⟩ := b
  obtain ⟨th, kd, ad, wd, own, er⟩ := e
  dsimp only at hQ BA
  have k0 := (Keeps.refl (fun _ => False) w).alloc (.cells #[.int .i64 th, .int .i64 kd, .int .u64 ad, .int .u64 wd, .bool own, .int .i64 er] 60)
  have bb := (MapKept.heap_alloc w (.cells #[.int .i64 th, .int .i64 kd, .int .u64 ad, .int .u64 wd, .bool own, .int .i64 er] 60)).1
  show Calls Tryz.prog 99 #[.agg #[.int .i64 th, .int .i64 kd, .int .u64 ad, .int .u64 wd, .bool own, .int .i64 er]] w fun ex w' => ex = .returned (.bool (inB ⟨th, kd, ad, wd, own, er⟩ && q && lastB ⟨th, kd, ad, wd, own, er⟩)) ∧ Keeps (fun _ => False) w w'
  by_cases hth : th < 0
  · have hin : inB ⟨th, kd, ad, wd, own, er⟩ = false := by unfold inB; simp; omega
    rw [hin]
    clear hin hQ BA bb
    go_enter Tryz.func99, Tryz.ntmps99
    go_wp2_with fail
    go_quiet (fail)
    go_wp2_with fail
    go_ret
    exact ⟨rfl, k0.drewN _⟩
  · by_cases hth8 : 8 ≤ th
    · have hin : inB ⟨th, kd, ad, wd, own, er⟩ = false := by unfold inB; simp; omega
      rw [hin]
      clear hin hQ BA bb
      go_enter Tryz.func99, Tryz.ntmps99
      go_wp2_with fail
      go_quiet (fail)
      go_wp2_with fail
      go_ret
      exact ⟨rfl, k0.drewN _⟩
    · by_cases hk1 : kd < 1
      · have hin : inB ⟨th, kd, ad, wd, own, er⟩ = false := by unfold inB; simp; omega
        rw [hin]
        clear hin hQ BA bb
        go_enter Tryz.func99, Tryz.ntmps99
        go_wp2_with fail
        go_quiet (fail)
        go_wp2_with fail
        go_ret
        exact ⟨rfl, k0.drewN _⟩
      · by_cases hk12 : 12 < kd
        · have hin : inB ⟨th, kd, ad, wd, own, er⟩ = false := by unfold inB; simp; omega
          rw [hin]
          clear hin hQ BA bb
          go_enter Tryz.func99, Tryz.ntmps99
          go_wp2_with fail
          go_quiet (fail)
          go_wp2_with fail
          go_ret
          exact ⟨rfl, k0.drewN _⟩
        · have hin : inB ⟨th, kd, ad, wd, own, er⟩ = true := by unfold inB; simp; omega
          rw [hin]
          clear hin
          go_enter Tryz.func99, Tryz.ntmps99
          go_wp2_with fail
          obtain ⟨W, hW⟩ : ∃ W, W = w.alloc (.cells #[.int .i64 th, .int .i64 kd, .int .u64 ad, .int .u64 wd, .bool own, .int .i64 er] 60) := ⟨_, rfl⟩
          rw [← hW] at k0 bb ⊢
          have hlt := lt_of_block bb
          have hB : ∀ W0, Like W0 W → Calls Tryz.prog 121 #[.agg #[.int .i64 th, .int .i64 kd, .int .u64 ad, .int .u64 wd, .bool own, .int .i64 er]] W0 fun ex w' => ex = .returned (.agg #[.int .i64 bth, .int .i64 bkd, .int .u64 bad, .int .u64 bwd, .bool bown, .int .i64 ber]) ∧ (w'.cell? ⟨w.heap.size, 0, none⟩ = some (.int .i64 th) ∧ w'.cell? ⟨w.heap.size, 1, none⟩ = some (.int .i64 kd) ∧ w'.cell? ⟨w.heap.size, 2, none⟩ = some (.int .u64 ad) ∧ w'.cell? ⟨w.heap.size, 3, none⟩ = some (.int .u64 wd) ∧ w'.cell? ⟨w.heap.size, 4, none⟩ = some (.bool own) ∧ w'.cell? ⟨w.heap.size, 5, none⟩ = some (.int .i64 er)) ∧ Hid (Keeps (fun _ => False) w w') := fun W0 hl => by
            have kl := hl.keeps
            refine (BA (by omega) (by omega) W0 (k0.trans kl)).mono ?_
            rintro ex w' ⟨h1, h2⟩
            have b2 := ((kl.trans h2).block _ hlt (fun f => f)).trans bb
            refine ⟨h1, ⟨?_, ?_, ?_, ?_, ?_, ?_⟩, (k0.trans kl).trans h2⟩ <;> (rw [cell_of_block b2]; rfl)
          have hS0 : W.cell? ⟨w.heap.size, 0, none⟩ = some (.int .i64 th) ∧ W.cell? ⟨w.heap.size, 1, none⟩ = some (.int .i64 kd) ∧ W.cell? ⟨w.heap.size, 2, none⟩ = some (.int .u64 ad) ∧ W.cell? ⟨w.heap.size, 3, none⟩ = some (.int .u64 wd) ∧ W.cell? ⟨w.heap.size, 4, none⟩ = some (.bool own) ∧ W.cell? ⟨w.heap.size, 5, none⟩ = some (.int .i64 er) := by
            refine ⟨?_, ?_, ?_, ?_, ?_, ?_⟩ <;> (rw [cell_of_block bb]; rfl)
          have hE : ∀ X, (Op.equalIn 10000 60 (.agg #[.int .i64 th, .int .i64 kd, .int .u64 ad, .int .u64 wd, .bool own, .int .i64 er]) (.agg #[.int .i64 bth, .int .i64 bkd, .int .u64 bad, .int .u64 bwd, .bool bown, .int .i64 ber])).run Tryz.prog X = .ok q X := fun X => by rw [hQ]; exact eq_ev ..
          have g1 : decide (th < 0) = false := decide_eq_false (by omega)
          have g2 : decide (8 ≤ th) = false := decide_eq_false (by omega)
          have g3 : decide (kd < 1) = false := decide_eq_false (by omega)
          have g4 : decide (12 < kd) = false := decide_eq_false (by omega)
          clear hQ BA hW k0 bb
          go_region_held3 (fun W : World => W.cell? ⟨w.heap.size, 0, none⟩ = some (.int .i64 th) ∧ W.cell? ⟨w.heap.size, 1, none⟩ = some (.int .i64 kd) ∧ W.cell? ⟨w.heap.size, 2, none⟩ = some (.int .u64 ad) ∧ W.cell? ⟨w.heap.size, 3, none⟩ = some (.int .u64 wd) ∧ W.cell? ⟨w.heap.size, 4, none⟩ = some (.bool own) ∧ W.cell? ⟨w.heap.size, 5, none⟩ = some (.int .i64 er)) (first | assumption | (exact hS0) | go_keep)
            ((go_at_call 121; refine (hB _ (by exact ⟨rfl, rfl, rfl, rfl⟩)).mono ?_; rintro ex w1 ⟨rfl, hS1, hH⟩))
          obtain ⟨c0, c1, c2, c3, c4, c5⟩ := hS1
          clear hB hS0 hE g1 g2 g3 g4
          cases q
          · go_wp2_with fail
            go_ret
            exact ⟨by simp, hH.out⟩
          · by_cases h1 : kd = 1
            · subst h1
              by_cases hw : wd.tmod 2 = 0
              · go_wp2_with fail
                go_ret
                exact ⟨by rw [tm2] at hw; simp [lastB, hw], hH.out⟩
              · go_wp2_with fail
                go_ret
                exact ⟨by have hw2 := hw; rw [tm2] at hw2; simp [lastB, hw, hw2], hH.out⟩
            · by_cases h4 : kd = 4
              · subst h4
                by_cases hw : wd.tmod 2 = 0
                · go_wp2_with fail
                  go_ret
                  exact ⟨by rw [tm2] at hw; simp [lastB, hw], hH.out⟩
                · go_wp2_with fail
                  go_ret
                  exact ⟨by have hw2 := hw; rw [tm2] at hw2; simp [lastB, hw, hw2], hH.out⟩
              · by_cases h9 : kd = 9
                · subst h9
                  by_cases e4 : er = 4
                  · subst e4
                    go_wp2_with fail
                    go_ret
                    exact ⟨rfl, hH.out⟩
                  · by_cases e5 : er = 5
                    · subst e5
                      go_wp2_with fail
                      go_ret
                      exact ⟨rfl, hH.out⟩
                    · go_wp2_with fail
                      go_ret
                      exact ⟨by rw [show (er == 4) = false from beq_eq_false_iff_ne.2 e4, show (er == 5) = false from beq_eq_false_iff_ne.2 e5]; simp [lastB, e4, e5]; rfl, hH.out⟩
                · go_wp2_with fail
                  go_ret
                  exact ⟨by simp [lastB, h1, h4, h9], hH.out⟩
end Go.Proofs.YthmiainhaebjiaaGreatDoor
