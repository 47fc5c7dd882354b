
/- Walks of the document's Formed, line, Line (package parleyref09). No statement of the seat is proved here. -/
import Derived.Test.YtkkmkfldldglgaaGreatDoorAsW
namespace Go.Proofs.YtkkmkfldldglgaaGreatDoor
open Go.RowKit Go.Shelf

theorem cells5' {w : World} {b : Nat} {x0 x1 x2 x3 x4 : Value} {t : TypeId} (h : w.heap[b]? = some (.cells #[x0, x1, x2, x3, x4] t (0, 0))) : w.cell? ⟨b, 0, none⟩ = some x0 ∧ w.cell? ⟨b, 1, none⟩ = some x1 ∧ w.cell? ⟨b, 2, none⟩ = some x2 ∧ w.cell? ⟨b, 3, none⟩ = some x3 ∧ w.cell? ⟨b, 4, none⟩ = some x4 :=
  ⟨cell_of_block h 0, cell_of_block h 1, cell_of_block h 2, cell_of_block h 3, cell_of_block h 4⟩
theorem regsN_le3 (op : Int) : regsN op ≤ 3 := by
  by_cases h : 1 ≤ op ∧ op ≤ 17
  · exact (regsN_le h.1 h.2).1
  · by_cases h0 : op ≤ 0
    · have : op.toNat = 0 := by omega
      simp [regsN, this]
    · have : 18 ≤ op.toNat := by omega
      simp [regsN, List.getElem?_eq_none, this]

set_option maxRecDepth 100000 in
set_option maxHeartbeats 4000000 in
theorem rformed_any (i : I5) (w : World) : Calls Tryz.prog 47 #[.agg i.cells] w fun e w' => e = .returned (.bool (formedB i)) ∧ Keeps (fun _ => False) w w' := by
  obtain ⟨op, a, b, c, n⟩ := i
  have FM := rform_any op
  by_cases ho : 1 ≤ op ∧ op ≤ 17
  · have hres : Hid (formedB ⟨op, a, b, c, n⟩ = (okR (regsN op) 0 a && okR (regsN op) 1 b && okR (regsN op) 2 c && (numB op || decide (n = 0)))) := by
      unfold Hid
      simp only [formedB, ho, and_self, decide_true, Bool.true_and]
      cases (numB op || decide (n = 0)) <;> simp
    obtain ⟨ho1, ho2⟩ := ho
    have ho1' : ¬ op < 1 := by omega
    have ho2' : ¬ 17 < op := by omega
    generalize formedB ⟨op, a, b, c, n⟩ = F at *
    generalize regsN op = m' at *
    generalize numB op = nb at *
    generalize tgtB op = tb at *
    obtain ⟨m, hm⟩ : ∃ m : Int, m = (m' : Int) := ⟨_, rfl⟩
    rw [← hm] at FM hres
    have k0 := ((Keeps.refl (fun _ => False) w).alloc (.cells #[.int .i64 op, .int .i64 a, .int .i64 b, .int .i64 c, .int .u64 n] 37)).alloc (.cells #[.int .i64 a, .int .i64 b, .int .i64 c] 127)
    clear hm
    go_enter Tryz.func47, Tryz.ntmps47
    go_wp2_with fail
    refine (FM _).mono ?_
    rintro e w1 ⟨rfl, rfl⟩
    clear FM
    go_wp2_with fail
    go_loopw [7] (fun v wr => wr = (w.alloc (.cells #[.int .i64 op, .int .i64 a, .int .i64 b, .int .i64 c, .int .u64 n] 37)).alloc (.cells #[.int .i64 a, .int .i64 b, .int .i64 c] 127) ∧ ((v = .int .i64 0) ∨ (v = .int .i64 1 ∧ okR m 0 a = true) ∨ (v = .int .i64 2 ∧ okR m 0 a = true ∧ okR m 1 b = true) ∨ (v = .int .i64 3 ∧ okR m 0 a = true ∧ okR m 1 b = true ∧ okR m 2 c = true))) (fun v _ => 3 - (intOf v).toNat)
    case atStart => exact ⟨rfl, .inl rfl⟩
    case round =>
      obtain ⟨rfl, rfl | ⟨rfl, g0⟩ | ⟨rfl, g0, g1⟩ | ⟨rfl, g0, g1, g2⟩⟩ := hrel
      · by_cases hq : okR m 0 a = true
        · rcases okR_yes hq with ⟨e1, e2, e3⟩ | ⟨e1, e2⟩
          · have f1 : 0 < m := e1
            have f2 : ¬ a < 0 := by omega
            have f3 : ¬ 7 < a := by omega
            have f4 : ¬ m ≤ 0 := by omega
            clear e1 e2 e3 hres
            go_wp2_with fail
            go_roundw
            · exact ⟨by first | rfl | trivial, .inr (.inl ⟨rfl, hq⟩)⟩
            · decide
          · subst e2
            have f1 : ¬ 0 < m := by omega
            have f4 : m ≤ 0 := e1
            clear e1 hres
            go_wp2_with fail
            go_roundw
            · exact ⟨by first | rfl | trivial, .inr (.inl ⟨rfl, hq⟩)⟩
            · decide
        · have hf : okR m 0 a = false := by simpa using hq
          have hF : F = false := by rw [hres.out, hf]; simp
          clear hres
          rcases okR_no hf with ⟨e1, e2, e3⟩ | ⟨e1, e2⟩ | ⟨e1, e2⟩
          · have f1 : 0 < m := e1
            have f2 : ¬ a < 0 := by omega
            have f3 : 7 < a := by omega
            clear hq e1 e2 e3
            go_wp2_with fail
            go_ret
            exact ⟨by first | rfl | (rw [hF]; rfl), k0⟩
          · have f1 : 0 < m := e1
            clear hq e1
            go_wp2_with fail
            go_ret
            exact ⟨by first | rfl | (rw [hF]; rfl), k0⟩
          · have f1 : ¬ 0 < m := by omega
            have f4 : m ≤ 0 := e1
            clear hq e1
            go_wp2_with fail
            go_ret
            exact ⟨by first | rfl | (rw [hF]; rfl), k0⟩
      · by_cases hq : okR m 1 b = true
        · rcases okR_yes hq with ⟨e1, e2, e3⟩ | ⟨e1, e2⟩
          · have f1 : 1 < m := e1
            have f2 : ¬ b < 0 := by omega
            have f3 : ¬ 7 < b := by omega
            have f4 : ¬ m ≤ 1 := by omega
            clear e1 e2 e3 hres
            go_wp2_with fail
            go_roundw
            · exact ⟨by first | rfl | trivial, .inr (.inr (.inl ⟨rfl, g0, hq⟩))⟩
            · decide
          · subst e2
            have f1 : ¬ 1 < m := by omega
            have f4 : m ≤ 1 := e1
            clear e1 hres
            go_wp2_with fail
            go_roundw
            · exact ⟨by first | rfl | trivial, .inr (.inr (.inl ⟨rfl, g0, hq⟩))⟩
            · decide
        · have hf : okR m 1 b = false := by simpa using hq
          have hF : F = false := by rw [hres.out, hf]; simp
          clear hres
          rcases okR_no hf with ⟨e1, e2, e3⟩ | ⟨e1, e2⟩ | ⟨e1, e2⟩
          · have f1 : 1 < m := e1
            have f2 : ¬ b < 0 := by omega
            have f3 : 7 < b := by omega
            clear hq e1 e2 e3
            go_wp2_with fail
            go_ret
            exact ⟨by first | rfl | (rw [hF]; rfl), k0⟩
          · have f1 : 1 < m := e1
            clear hq e1
            go_wp2_with fail
            go_ret
            exact ⟨by first | rfl | (rw [hF]; rfl), k0⟩
          · have f1 : ¬ 1 < m := by omega
            have f4 : m ≤ 1 := e1
            clear hq e1
            go_wp2_with fail
            go_ret
            exact ⟨by first | rfl | (rw [hF]; rfl), k0⟩
      · by_cases hq : okR m 2 c = true
        · rcases okR_yes hq with ⟨e1, e2, e3⟩ | ⟨e1, e2⟩
          · have f1 : 2 < m := e1
            have f2 : ¬ c < 0 := by omega
            have f3 : ¬ 7 < c := by omega
            have f4 : ¬ m ≤ 2 := by omega
            clear e1 e2 e3 hres
            go_wp2_with fail
            go_roundw
            · exact ⟨by first | rfl | trivial, .inr (.inr (.inr ⟨rfl, g0, g1, hq⟩))⟩
            · decide
          · subst e2
            have f1 : ¬ 2 < m := by omega
            have f4 : m ≤ 2 := e1
            clear e1 hres
            go_wp2_with fail
            go_roundw
            · exact ⟨by first | rfl | trivial, .inr (.inr (.inr ⟨rfl, g0, g1, hq⟩))⟩
            · decide
        · have hf : okR m 2 c = false := by simpa using hq
          have hF : F = false := by rw [hres.out, hf]; simp
          clear hres
          rcases okR_no hf with ⟨e1, e2, e3⟩ | ⟨e1, e2⟩ | ⟨e1, e2⟩
          · have f1 : 2 < m := e1
            have f2 : ¬ c < 0 := by omega
            have f3 : 7 < c := by omega
            clear hq e1 e2 e3
            go_wp2_with fail
            go_ret
            exact ⟨by first | rfl | (rw [hF]; rfl), k0⟩
          · have f1 : 2 < m := e1
            clear hq e1
            go_wp2_with fail
            go_ret
            exact ⟨by first | rfl | (rw [hF]; rfl), k0⟩
          · have f1 : ¬ 2 < m := by omega
            have f4 : m ≤ 2 := e1
            clear hq e1
            go_wp2_with fail
            go_ret
            exact ⟨by first | rfl | (rw [hF]; rfl), k0⟩
      · have hF : F = (nb || decide (n = 0)) := by rw [hres.out, g0, g1, g2]; simp
        clear hres
        cases nb
        · by_cases hn : n = 0
          · subst hn
            go_wp2_with fail
            go_ret
            exact ⟨by first | rfl | (rw [hF]; rfl), k0⟩
          · have hn' : (n == 0) = false := by simpa using hn
            have hF' : F = false := by rw [hF]; simp [hn]
            clear hF
            go_wp2_with fail
            go_ret
            exact ⟨by first | rfl | (rw [hF']; rfl), k0⟩
        · go_wp2_with fail
          go_ret
          exact ⟨by first | rfl | (rw [hF]; rfl), k0⟩
  · have hres : formedB ⟨op, a, b, c, n⟩ = false := by simp [formedB, ho]
    have k0 := (Keeps.refl (fun _ => False) w).alloc (.cells #[.int .i64 op, .int .i64 a, .int .i64 b, .int .i64 c, .int .u64 n] 37)
    rw [hres]
    clear hres FM
    by_cases h1 : op < 1
    · clear ho
      go_enter Tryz.func47, Tryz.ntmps47
      go_wp2_with fail
      go_ret
      exact ⟨rfl, k0⟩
    · have h2 : 17 < op := by omega
      clear ho
      go_enter Tryz.func47, Tryz.ntmps47
      go_wp2_with fail
      go_ret
      exact ⟨rfl, k0⟩
end Go.Proofs.YtkkmkfldldglgaaGreatDoor
