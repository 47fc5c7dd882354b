
/- Labels where they lie; the law's walk over what is written and read. No statement of the seat is proved here. -/
import Derived.Test.YtkkmkfldldglgaaGreatDoorAuM
import Derived.Test.YtkkmkfldldglgaaGreatDoorAuC
namespace Go.Proofs.YtkkmkfldldglgaaGreatDoor
open Go.RowKit Go.Shelf

theorem labV_at : ∀ (M : List (List UInt8 × Nat)) (k : Nat) (hk : k < M.length), (labV M)[k * 2 + 1]? = some (.int .i64 ((M[k]).2 : Int))
  | x :: t, 0, _ => by simp [labV]
  | x :: t, k + 1, hk => by
    have := labV_at t k (by simpa using hk)
    have e : labV (x :: t) = [keyV x.1, .int .i64 (x.2 : Int)] ++ labV t := by simp [labV]
    rw [e, List.getElem?_append_right (by simp; omega)]
    simp only [List.length_cons, List.length_nil, List.getElem_cons_succ]
    rw [← this]
    congr 1
    omega
/-- Labels' places where they lie. -/
structure LabAt (w : World) (v : Value) (M : List (List UInt8 × Nat)) : Prop where
  form : ∃ a cap, v = .slice a M.length cap ∧ ∀ k (hk : k < M.length), ∃ g off, a = some ⟨g, off, none⟩ ∧ w.cell? ⟨g, off + k * 2 + 1, none⟩ = some (.int .i64 ((M[k]'hk).2 : Int))
theorem LabAt.keeps {w w' : World} {v : Value} {M : List (List UInt8 × Nat)} (h : LabAt w v M) (k : Keeps (fun _ => False) w w') : LabAt w' v M := by
  obtain ⟨a, cap, rfl, hc⟩ := h
  refine ⟨⟨a, cap, rfl, fun j hj => ?_⟩⟩
  obtain ⟨g, off, rfl, c0⟩ := hc j hj
  have hg : g < w.heap.size := World.block_lt_of_cell? _ _ c0
  have hb := k.block g hg (fun f => f)
  exact ⟨g, off, rfl, by rw [← c0]; simp [World.cell?, hb]⟩
theorem lab_of_own {w : World} {base : Nat} {v : Value} {M : List (List UInt8 × Nat)} (h : w.ownsRow base 39 2 v M.length (labV M)) : LabAt w v M := by
  rcases h.2 with ⟨rfl, h2⟩ | ⟨g, cap, cur, rfl, h1, h2, h3, h4, h5, h6⟩
  · exact ⟨⟨none, 0, by rw [h2], fun k hk => by omega⟩⟩
  · refine ⟨⟨_, cap, rfl, fun k hk => ⟨g, 0, rfl, ?_⟩⟩⟩
    rw [cell_of_block h2, Nat.zero_add, ← labV_at M k hk, ← h6, List.getElem?_take_of_lt (by omega)]
    simp
theorem LabAt.at {w : World} {v : Value} {M : List (List UInt8 × Nat)} (h : LabAt w v M) (k : Nat) (hk : k < M.length) : ∃ g off cap, v = .slice (some ⟨g, off, none⟩) M.length cap ∧ w.cell? ⟨g, off + k * 2 + 1, none⟩ = some (.int .i64 ((M[k]).2 : Int)) := by
  obtain ⟨a, cap, rfl, hc⟩ := h
  obtain ⟨g, off, rfl, q⟩ := hc k hk
  exact ⟨g, off, cap, rfl, q⟩

set_option maxRecDepth 100000 in
set_option maxHeartbeats 4000000 in
theorem lformed_any (v : Value) (L : List I5) (hL : L.length ≤ 65536) (w : World) (h : InsAt w v L) : Calls Tryz.prog 29 #[v] w fun e w' => e = .returned (.bool (L.all formedB)) ∧ Keeps (fun _ => False) w w' := by
  have HI : Hid (∀ X, Keeps (fun _ => False) w X → InsAt X v L) := fun X k => h.keeps k
  have k0 := Keeps.refl (fun _ => False) w
  obtain ⟨⟨a0, c0, rfl, _⟩, -, -⟩ := h
  go_enter Tryz.func29, Tryz.ntmps29
  go_wp2_with fail
  go_loopw [3] (fun u wr => ∃ (k : Nat), u = .int .i64 k ∧ k ≤ L.length ∧ Keeps (fun _ => False) w wr ∧ Hid ((L.take k).all formedB = true)) (fun u _ => L.length - (intOf u).toNat)
  case atStart => exact ⟨0, rfl, Nat.zero_le _, k0, by show List.all _ _ = true; simp⟩
  case round =>
    obtain ⟨k, rfl, hk, kr, hP⟩ := hrel
    by_cases hlt : k < L.length
    · obtain ⟨ga, off, cap, hv, x0, x1, x2, x3, x4⟩ := (HI.out wr kr).at k hlt
      simp only [Value.slice.injEq] at hv
      obtain ⟨rfl, -, rfl⟩ := hv
      have hki : (k : Int) < L.length := by omega
      have HA : Hid (formedB (L[k]) = false → L.all formedB = false) := all_of_take hlt
      have HT : Hid (formedB (L[k]) = true → (L.take (k + 1)).all formedB = true) := take_all hlt hP.out
      have RF := formed_any (L[k])
      generalize L[k]'hlt = i at *
      obtain ⟨op, a, b, c, N⟩ := i
      dsimp only at x0 x1 x2 x3 x4
      cases hform : formedB ⟨op, a, b, c, N⟩
      · rw [hform] at RF
        have hF := HA.out hform
        clear HA HT
        go_wp2_with fail
        refine (RF _).mono ?_
        rintro e X1 ⟨rfl, k1⟩
        have kk := kr.trans k1
        clear RF
        go_wp2_with fail
        go_ret
        exact ⟨by rw [hF]; rfl, kk⟩
      · rw [hform] at RF
        have hT := HT.out hform
        clear HA HT
        go_wp2_with fail
        refine (RF _).mono ?_
        rintro e X1 ⟨rfl, k1⟩
        have kk := kr.trans k1
        clear RF
        go_wp2_with fail
        go_roundw
        · exact ⟨k + 1, by simp, by omega, kk, hT⟩
        · simp [intOf]; omega
    · obtain rfl : k = L.length := by omega
      have h1 := hP.out
      rw [List.take_length] at h1
      clear HI
      go_wp2_with fail
      go_ret
      exact ⟨by rw [h1]; rfl, kr⟩

/-- A label that stands is the place of a target. -/
theorem marks_mem {f : Nat → Bool} : ∀ (m k : Nat), ∀ x ∈ marksF f k m, x.1 = placeL x.2 ∧ k ≤ x.2 ∧ x.2 < k + m ∧ f x.2 = true
  | 0, _, x, h => by simp [marksF] at h
  | m + 1, k, x, h => by
    unfold marksF at h
    rcases List.mem_append.1 h with h | h
    · cases hf : f k
      · rw [hf] at h; simp at h
      · rw [hf] at h
        obtain rfl : x = (placeL k, k) := by simpa using h
        exact ⟨rfl, Nat.le_refl _, by omega, hf⟩
    · obtain ⟨h1, h2, h3, h4⟩ := marks_mem m (k + 1) x h
      exact ⟨h1, by omega, by omega, h4⟩
theorem marks_end {f : Nat → Bool} : ∀ (m k : Nat), (marksF f k (m + 1)).any (fun x => decide (x.2 = k + m)) = f (k + m)
  | 0, k => by
    simp only [marksF, List.append_nil, Nat.add_zero]
    cases f k <;> simp
  | m + 1, k => by
    have ih := marks_end (f := f) m (k + 1)
    rw [marksF, List.any_append]
    have e : (fun x : List UInt8 × Nat => decide (x.2 = k + 1 + m)) = (fun x => decide (x.2 = k + (m + 1))) := by funext x; congr 1; simp only [eq_iff_iff]; omega
    rw [e] at ih
    rw [ih, show k + 1 + m = k + (m + 1) by omega]
    cases f k <;> simp
end Go.Proofs.YtkkmkfldldglgaaGreatDoor
