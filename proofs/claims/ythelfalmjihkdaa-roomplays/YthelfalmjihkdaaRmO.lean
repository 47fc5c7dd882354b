
/- Towards RoomPlays (layer 20): a slice of words copied, the law's step whatever the call is, a script of calls as it lies. No statement of the seat is proved here. -/
import Derived.Test.YthelfalmjihkdaaRmK0
import Derived.Test.YthelfalmjihkdaaRmK1
import Derived.Test.YthelfalmjihkdaaRmK2
import Derived.Test.YthelfalmjihkdaaRmK3
import Derived.Test.YthelfalmjihkdaaRmK4
import Derived.Test.YthelfalmjihkdaaRmK5
import Derived.Test.YthelfalmjihkdaaRmK6
import Derived.Test.YthelfalmjihkdaaRmK7
import Derived.Test.YthelfalmjihkdaaRmL
import Derived.Test.YthelfalmjihkdaaRmN
namespace Go.Proofs.Ythelfalmjihkdaa
open Go.RowKit

set_option maxRecDepth 100000 in
/-- append([]uint64{}, words...): a copy. -/
theorem app_copy (w : World) (v : Value) (xs : List Int) (hr : Lies w v xs) (hb : xs.length * 8 ≤ 140737488351232) :
    ∃ g c w', (Builtin.append_ #[22, 22] 22 #[.slice (some ⟨w.heap.size, 0, none⟩) 0 0, v]).run Try.prog (w.alloc (.cells #[] 31)) = .ok (.slice (some ⟨g, 0, none⟩) xs.length c) w' ∧ Wr w' w.heap.size (.slice (some ⟨g, 0, none⟩) xs.length c) xs ∧ Keeps (fun _ => False) w w' := by
  have ho0 : (w.alloc (.cells #[] 31)).ownsRow w.heap.size 31 1 (.slice (some ⟨w.heap.size, 0, none⟩) 0 0) 0 [] := ⟨rfl, .inr ⟨w.heap.size, 0, #[], rfl, Nat.le_refl _, alloc_block w _, Nat.le_refl _, by unfold maxLen; omega, by simp, by simp⟩⟩
  have hk0 : Keeps (fun _ => False) w (w.alloc (.cells #[] 31)) := (Keeps.refl _ w).alloc _
  obtain ⟨v1, w1, r1, o1, g1⟩ := app_words _ w.heap.size _ 0 [] ho0 v xs (hr.keeps hk0 (fun _ _ _ _ f => f)) (by omega) hk0.size
  have k1 : Keeps (fun _ => False) w w1 := hk0.step (keeps_grown g1) (fun k hk e => by simp [Value.ownBlock] at e; omega)
  simp only [Nat.zero_add, List.nil_append] at o1
  have key : ∃ g c, v1 = .slice (some ⟨g, 0, none⟩) xs.length c := by
    rcases id o1.2 with ⟨h1, h2⟩ | ⟨g, cap, cur, rfl, _⟩
    · obtain ⟨i0, hi, hz0, hz1, hz2⟩ := info_parts info_word
      obtain ⟨sp, c, rfl, hc⟩ := hr
      rw [h2] at r1
      cases sp with
      | none =>
        have hsrc : Src Try.prog i0.size 22 (.slice none 0 c) 0 [] (w.alloc (.cells #[] 31)) := Src.ofNil _ (e' := 31) Try.underlying22 c
        have s1 := run_append_nothing (w.alloc (.cells #[] 31)) 22 22 22 31 i0 Try.underlying22 hi (some ⟨w.heap.size, 0, none⟩) 0 0 (Nat.le_refl _) _ hsrc
        rw [r1] at s1
        injection s1 with e1 e2
        exact ⟨_, _, by rw [e1, h2]⟩
      | some a =>
        have s1 := run_append_room (P := Try.prog) (w.alloc (.cells #[] 31)) 22 22 31 i0 Try.underlying22 hi w.heap.size 0 0 #[] (alloc_block w _) a 0 c [] (by simp) (fun j u hj => by simp at hj) (fun u hu => by simp at hu) (Nat.le_refl _) (by simp)
        rw [r1] at s1
        injection s1 with e1 e2
        exact ⟨_, _, by rw [e1, h2]⟩
    · exact ⟨g, cap, rfl⟩
  obtain ⟨g, c, rfl⟩ := key
  exact ⟨g, c, w1, r1, o1, k1⟩
/-- The words of such a copy. -/
theorem copy_row {w : World} {base g c : Nat} {xs : List Int} (h : Wr w base (.slice (some ⟨g, 0, none⟩) xs.length c) xs) : (∃ cur, w.heap[g]? = some (.cells cur 31 (0, 0)) ∧ ∀ i, i < xs.length → cur[i]? = some (.int .u64 (oat xs i))) ∧ base ≤ g := by
  rcases id h.2 with ⟨h1, h2⟩ | ⟨g', cap, cur, e, hb, hg, _⟩
  · cases h1
  · injection e with e1 e2 e3
    injection e1 with e1
    injection e1 with e1
    subst e1
    refine ⟨⟨cur, hg, fun i hi => ?_⟩, hb⟩
    have q := World.ownsRow.cellAt h i (by omega)
    rw [cell_of_block hg] at q
    rw [q]
    simp [wordsV, oat, hi]

/-- The law's step. -/
theorem step_any (t b g c b' g' c' : Nat) (s : Wd) (kd x y z : Int) (hx : isW x) (hy : isW y) (hz : isW z) (w : World) (h : Bo w t b g c b' g' c' s s) :
    Calls Try.prog 5 #[.pointer (some ⟨t, 0, none⟩), .pointer (some ⟨b', 0, none⟩), .agg #[.int .i64 kd, .int .u64 x, .int .u64 y, .int .u64 z]] w fun e w' => e = .returned (.bool true) ∧ ∃ s2, Bo w' t b g c b' g' c' s2 s2 ∧ Keeps (four b g b' g') w w' := by
  by_cases hk : kd < 1 ∨ 7 < kd
  · exact step_0 t b g c b' g' c' s kd x y z hk hx hy hz w h
  · obtain rfl | rfl | rfl | rfl | rfl | rfl | rfl : kd = 1 ∨ kd = 2 ∨ kd = 3 ∨ kd = 4 ∨ kd = 5 ∨ kd = 6 ∨ kd = 7 := by omega
    · exact step_1 t b g c b' g' c' s x y z hx hy hz w h
    · exact step_2 t b g c b' g' c' s x y z hx hy hz w h
    · exact step_3 t b g c b' g' c' s x y z hx hy hz w h
    · exact step_4 t b g c b' g' c' s x y z hx hy hz w h
    · exact step_5 t b g c b' g' c' s x y z hx hy hz w h
    · exact step_6 t b g c b' g' c' s x y z hx hy hz w h
    · exact step_7 t b g c b' g' c' s x y z hx hy hz w h

/-- Calls as they lie. -/
def OpsAt (W : World) (a : Option Addr) (n : Nat) : Prop := ∀ k, k < n → ∃ g off, a = some ⟨g, off, none⟩ ∧ ∃ kd x y z, isW x ∧ isW y ∧ isW z ∧ W.cell? ⟨g, off + k * 4, none⟩ = some (.int .i64 kd) ∧ W.cell? ⟨g, off + k * 4 + 1, none⟩ = some (.int .u64 x) ∧ W.cell? ⟨g, off + k * 4 + 2, none⟩ = some (.int .u64 y) ∧ W.cell? ⟨g, off + k * 4 + 3, none⟩ = some (.int .u64 z)
theorem OpsAt.keeps {W W' : World} {a : Option Addr} {n : Nat} (h : OpsAt W a n) (k : Keeps (fun _ => False) W W') : OpsAt W' a n := fun j hj => by
  obtain ⟨g, off, rfl, kd, x, y, z, q1, q2, q3, c0, c1, c2, c3⟩ := h j hj
  have hb := k.block g (World.block_lt_of_cell? _ _ c0) (fun f => f)
  exact ⟨g, off, rfl, kd, x, y, z, q1, q2, q3, (World.cell?_of_block hb).trans c0, (World.cell?_of_block hb).trans c1, (World.cell?_of_block hb).trans c2, (World.cell?_of_block hb).trans c3⟩
end Go.Proofs.Ythelfalmjihkdaa
