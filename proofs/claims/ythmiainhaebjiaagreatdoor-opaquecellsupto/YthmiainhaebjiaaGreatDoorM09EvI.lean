/-
  No statement of the seat is proved here. (Several texts in one: EvI.)
-/
import Derived.Test.YthmiainhaebjiaaGreatDoorM04EvG
import Derived.Laws.ResultCell
import Derived.Laws.Tables

/- Walks of start, take (package events). No statement of the seat is proved here. -/
namespace Go.Proofs.YthmiainhaebjiaaGreatDoor
open Go.RowKit Go.Shelf

set_option maxRecDepth 100000 in
set_option maxHeartbeats 2000000 in
theorem start_any (w : World) : Calls Tryz.prog 78 #[] w fun ex w' => ex = .returned (.pointer (some ⟨w.heap.size, 0, none⟩)) ∧ Crs w' w.heap.size w.heap.size st0 (fun _ => none) ∧ Keeps (fun _ => False) w w' := by
  go_enter Tryz.func78, Tryz.ntmps78
  go_wp2_with fail
  go_loopw [5] (fun u wr => ∃ (k : Nat) (cs : Array Value), u = .int .i64 k ∧ k ≤ 8 ∧ wr = w.alloc (.cells cs 189) ∧ cs.size = 26 ∧ Hid (cs[0]? = some (.int .u64 0) ∧ cs[1]? = some (.bool false) ∧ ∀ i, i < 8 → cs[2 + i * 3]? = some (.int .i64 (if i < k then 1 else 0)) ∧ cs[2 + i * 3 + 1]? = some (.int .u64 0) ∧ cs[2 + i * 3 + 2]? = some (.map none))) (fun u _ => 8 - (intOf u).toNat)
  case atStart =>
    refine ⟨0, _, rfl, by omega, rfl, rfl, ⟨rfl, rfl, fun i hi => ?_⟩⟩
    rcases (by omega : i = 0 ∨ i = 1 ∨ i = 2 ∨ i = 3 ∨ i = 4 ∨ i = 5 ∨ i = 6 ∨ i = 7) with rfl | rfl | rfl | rfl | rfl | rfl | rfl | rfl <;> exact ⟨rfl, rfl, rfl⟩
  case round =>
    obtain ⟨k, cs, rfl, hk, rfl, hsz, hh⟩ := hrel
    by_cases hlt : k < 8
    · have hki : (k : Int) < 8 := by omega
      have hk0 : (0 : Int) ≤ k := by omega
      have hcm := (hh.out.2.2 k hlt).1
      generalize (Value.int .i64 (if k < k then 1 else 0)) = cm at hcm
      go_wp2_with fail
      go_roundw
      · refine ⟨k + 1, _, by simp, by omega, rfl, by simpa using hsz, ?_⟩
        obtain ⟨h0, h1, h2⟩ := hh.out
        refine ⟨?_, ?_, fun i hi => ?_⟩
        · rw [Array.getElem?_setIfInBounds_ne (by omega)]; exact h0
        · rw [Array.getElem?_setIfInBounds_ne (by omega)]; exact h1
        · obtain ⟨a, b, c⟩ := h2 i hi
          refine ⟨?_, ?_, ?_⟩
          · by_cases e : i = k
            · subst e
              rw [Array.getElem?_setIfInBounds_self_of_lt (by omega)]
              simp
            · rw [Array.getElem?_setIfInBounds_ne (by omega), a]
              have : (i < k + 1) = (i < k) := by simp; omega
              simp only [this]
          · rw [Array.getElem?_setIfInBounds_ne (by omega)]; exact b
          · rw [Array.getElem?_setIfInBounds_ne (by omega)]; exact c
      · simp [intOf]; omega
    · obtain rfl : k = 8 := by omega
      have KK := (Keeps.refl (fun _ => False) w).alloc (.cells cs 189)
      have hb := (MapKept.heap_alloc w (.cells cs 189)).1
      have CR : Crs (w.alloc (.cells cs 189)) w.heap.size w.heap.size st0 (fun _ => none) := by
        obtain ⟨h0, h1, h2⟩ := hh.out
        refine ⟨rfl, ⟨cs, hb, hsz, h0, h1, fun i hi => ?_⟩, fun i hi => ?_, fun _ _ _ _ _ h _ => by simp at h, fun _ _ h => by simp at h, ⟨Nat.le_refl _, fun _ _ _ h => by simp at h⟩, fun i _ => ?_, fun i _ => ?_, Int.le_refl _⟩
        · obtain ⟨a, b, c⟩ := h2 i hi
          rw [st0_sd]
          rw [if_pos hi] at a
          exact ⟨a, b, c⟩
        · rw [st0_sd]; rfl
        · rw [st0_sd]; exact ⟨Nat.le_refl _, by decide⟩
        · rw [st0_sd]; exact ⟨Int.le_refl _, by decide⟩
      clear hh hb
      go_wp2_with fail
      go_ret
      exact ⟨rfl, CR, KK⟩

/-- What a step leaves of a course. -/
theorem Crs.next {w w' : World} {base c i : Nat} {S : St} {m : Nat → Option Nat} (h : Crs w base c S m) (hi : i < 8) (n' : Int) (s' : Sd) (mi : Option Nat) (cs cs' : Array Value) (hb : w.heap[c]? = some (.cells cs 189 (0, 0))) (hb' : w'.heap[c]? = some (.cells cs' 189 (0, 0)))
    (hsz : cs'.size = 26) (c0 : cs'[0]? = some (.int .u64 n')) (c1 : cs'[1]? = some (.bool (heldB ⟨n', S.t.set i s'⟩))) (d0 : cs'[2 + i * 3]? = some (.int .i64 (s'.st : Int))) (d1 : cs'[2 + i * 3 + 1]? = some (.int .u64 s'.sn)) (d2 : cs'[2 + i * 3 + 2]? = some (.map mi))
    (ho : ∀ j, j < 8 → j ≠ i → ∀ x, x < 3 → cs'[2 + j * 3 + x]? = cs[2 + j * 3 + x]?) {T : Nat → Prop} (k : Keeps T w w') (hT : ∀ q, T q → q = c ∨ m i = some q) (hmi : MapW w' mi s'.wr) (hmi2 : ∀ b, mi = some b → b ≠ c ∧ base ≤ b ∧ (m i = some b ∨ w.heap.size ≤ b)) (hst : 1 ≤ s'.st ∧ s'.st ≤ 4) (hsn : 0 ≤ s'.sn ∧ s'.sn < 18446744073709551616) (hn' : 0 ≤ n') :
    Crs w' base c ⟨n', S.t.set i s'⟩ (fun j => if j = i then mi else m j) := by
  have hsd := fun j => sd_set (n := n') (s := s') h.len hi j
  obtain ⟨cs0, q1, q2, q3, q4, q5⟩ := h.blk
  rw [hb] at q1
  injection q1 with q1
  injection q1 with q1
  subst q1
  have hmap : ∀ j, j < 8 → j ≠ i → ∀ b, m j = some b → b < w.heap.size ∧ ¬ T b := fun j hj hji b hb2 => by
    have := h.maps j hj
    rw [hb2] at this
    refine ⟨this.1.lt, fun ht => ?_⟩
    rcases hT b ht with e | e
    · exact h.ne j hj (e ▸ hb2)
    · exact hji (h.inj j i b hj hi hb2 e)
  refine ⟨by simp [h.len], ⟨cs', hb', hsz, c0, c1, fun j hj => ?_⟩, fun j hj => ?_, fun a b q ha hb ea eb => ?_, fun j hj => ?_, ⟨h.base.1, fun j b hj e => ?_⟩, fun j hj => ?_, fun j hj => ?_, hn'⟩
  · by_cases e : j = i
    · subst e; rw [hsd, if_pos rfl]; simp only [if_true]; exact ⟨d0, d1, d2⟩
    · rw [hsd, if_neg e]
      simp only [e, if_false]
      obtain ⟨a0, a1, a2⟩ := q5 j hj
      exact ⟨(ho j hj e 0 (by omega)).trans a0, (ho j hj e 1 (by omega)).trans a1, (ho j hj e 2 (by omega)).trans a2⟩
  · by_cases e : j = i
    · subst e; rw [hsd, if_pos rfl]; simp only [if_true]; exact hmi
    · rw [hsd, if_neg e]
      simp only [e, if_false]
      exact (h.maps j hj).keeps k fun b hb2 => (hmap j hj e b hb2).2
  · by_cases e1 : a = i <;> by_cases e2 : b = i
    · omega
    · simp only [e1, if_true] at ea
      simp only [e2, if_false] at eb
      obtain ⟨_, _, h3⟩ := hmi2 q ea
      rcases h3 with h3 | h3
      · have := h.inj b i q hb hi eb h3; omega
      · have := (hmap b hb e2 q eb).1; omega
    · simp only [e1, if_false] at ea
      simp only [e2, if_true] at eb
      obtain ⟨_, _, h3⟩ := hmi2 q eb
      rcases h3 with h3 | h3
      · have := h.inj a i q ha hi ea h3; omega
      · have := (hmap a ha e1 q ea).1; omega
    · simp only [e1, if_false] at ea
      simp only [e2, if_false] at eb
      exact h.inj a b q ha hb ea eb
  · by_cases e : j = i
    · subst e; simp only [if_true]; intro e2; exact (hmi2 c e2).1 rfl
    · simp only [e, if_false]; exact h.ne j hj
  · by_cases e1 : j = i
    · subst e1; simp only [if_true] at e; exact (hmi2 b e).2.1
    · simp only [e1, if_false] at e; exact h.base.2 j b hj e
  · rw [hsd]; split
    · exact hst
    · exact h.st j hj
  · rw [hsd]; split
    · exact hsn
    · exact h.sn j hj
end Go.Proofs.YthmiainhaebjiaaGreatDoor
