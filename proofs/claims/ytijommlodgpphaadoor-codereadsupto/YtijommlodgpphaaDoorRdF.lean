
/- Rows of bytes: put behind one another, written over. No statement of the seat is proved here. -/
import Derived.Test.YtijommlodgpphaaDoorRdE
import Derived.Deep.MidRow
namespace Go.Proofs.YtijommlodgpphaaDoor
open Go.RowKit Go.Shelf

/-- Bytes behind a row of bytes of the call's own. -/
theorem Bts.app {w : World} {base base2 : Nat} {v v2 : Value} {l m : List UInt8} (h : Bts w base v l) (h2 : Bts w base2 v2 m) (hne : m ≠ []) (hb : l.length + m.length ≤ 140737488355328) :
    ∃ v' w', (Builtin.append_ #[22, 22] 22 #[v, v2]).run Tryd.prog w = .ok v' w' ∧ Bts w' base v' (l ++ m) ∧ Grew w w' v v' := by
  rcases h2.own.2 with ⟨rfl, q⟩ | ⟨g, cap, cur, rfl, h1, q2, h3, h4, h5, h6⟩
  · exact absurd (List.length_eq_zero_iff.1 q) hne
  · obtain ⟨v', w', r1, r2, r3, r4⟩ := own_push (P := Tryd.prog) w base 22 22 5 (.int .u8 0) 1 1 Tryd.underlying22 info_u8 rfl (by decide) v l.length _ h.own ⟨g, 0, none⟩ m.length cap (m.map fun x => .int .u8 x.toNat) (by simp) (fun j u hj => by
      rw [addr_add, Nat.zero_add, cell_of_block q2]
      have hjl : j < m.length := by have := (List.getElem?_eq_some_iff.1 hj).1; simpa using this
      have := congrArg (fun t => t[j]?) h6
      rw [List.getElem?_take_of_lt (by omega)] at this
      rw [← hj]
      simpa using this) (by simp [Value.oneCell']) (by omega) (by decide) h.base
    refine ⟨v', w', r1, ⟨by simpa using r2, Nat.le_trans h.base r3.size⟩, ⟨(Keeps.refl _ _).grown r3 fun k hk => .inr hk, r4⟩⟩
/-- One byte written over. -/
theorem Bts.set {w : World} {base : Nat} {v : Value} {l : List UInt8} (h : Bts w base v l) (k : Nat) (hk : k < l.length) (x : UInt8) :
    ∃ g cap, v = .slice (some ⟨g, 0, none⟩) l.length cap ∧ base ≤ g ∧ g < w.heap.size ∧ (∃ u, w.cell? ⟨g, k, none⟩ = some u) ∧ (∃ cur, w.heap[g]? = some (.cells cur 5 (0, 0))) ∧ Bts (w.setCell ⟨g, k, none⟩ (.int .u8 x.toNat)) base v (l.set k x) := by
  rcases h.own.2 with ⟨rfl, q⟩ | ⟨g, cap, cur, rfl, h1, q2, h3, h4, h5, h6⟩
  · omega
  · refine ⟨g, cap, rfl, h1, lt_of_block q2, ⟨_, by rw [cell_of_block q2]; exact Array.getElem?_eq_getElem (by omega)⟩, ⟨cur, q2⟩, ⟨⟨by simp, .inr ⟨g, cap, _, by simp, h1, block_set q2 k _, by simpa using h3, h4, by simpa using h5, ?_⟩⟩, by simpa using h.base⟩⟩
    rw [Array.toList_setIfInBounds, List.length_set, List.take_set, h6, List.map_set]
theorem Bts.form {w : World} {base : Nat} {v : Value} {l : List UInt8} (h : Bts w base v l) : ∃ b c, v = .slice b l.length c := by
  rcases h.own.2 with ⟨rfl, q⟩ | ⟨g, cap, cur, rfl, _⟩
  · exact ⟨none, 0, by rw [q]⟩
  · exact ⟨_, cap, rfl⟩
/-- Three bytes behind a row. -/
theorem Bts.push3 {w : World} {base : Nat} {v : Value} {l : List UInt8} (h : Bts w base v l) (hb : l.length + 3 ≤ 140737488355328) :
    ∃ v' w', (Builtin.append_ #[22, 22] 22 #[v, .slice (some ⟨w.heap.size, 0, none⟩) 3 3]).run Tryd.prog (w.alloc (.cells #[.int .u8 1, .int .u8 2, .int .u8 3] 5)) = .ok v' w' ∧ Bts w' base v' (l ++ [1, 2, 3]) ∧ Grew w w' v v' := by
  have k0 := (Keeps.refl (fun _ => False) w).alloc (.cells #[.int .u8 1, .int .u8 2, .int .u8 3] 5)
  have b3 : Bts (w.alloc (.cells #[.int .u8 1, .int .u8 2, .int .u8 3] 5)) w.heap.size (.slice (some ⟨w.heap.size, 0, none⟩) 3 3) [1, 2, 3] :=
    ⟨⟨rfl, .inr ⟨w.heap.size, 3, _, rfl, Nat.le_refl _, (MapKept.heap_alloc _ _).1, Nat.le_refl _, by simp [maxLen], by simp, by simp⟩⟩, by simp⟩
  obtain ⟨v', w', h1, h2, h3⟩ := (h.keeps k0 (fun _ _ f => f)).app b3 (by simp) (by simpa using hb)
  exact ⟨v', w', h1, h2, Grew.ahead k0 h3⟩
theorem Keeps.setCells {S : Nat → Prop} {a : World} {b : Nat} (hp : a.heap.size ≤ b ∨ S b) : ∀ (vs : List Value) (o : Nat) (w : World), Keeps S a w → Keeps S a (w.setCells b o vs)
  | [], _, _, h => h
  | v :: r, o, _, h => Keeps.setCells hp r (o + 1) _ (h.setCell (p := ⟨b, o, none⟩) hp v)
theorem block_setCells {b : Nat} {t : TypeId} : ∀ (vs : List Value) (o : Nat) (w : World) (c : Array Value), w.heap[b]? = some (.cells c t (0, 0)) → ∃ c', (w.setCells b o vs).heap[b]? = some (.cells c' t (0, 0)) ∧ c'.size = c.size
  | [], _, _, c, h => ⟨c, h, rfl⟩
  | v :: r, o, w, c, h => by
    obtain ⟨c', h1, h2⟩ := block_setCells r (o + 1) _ _ (block_set h o v)
    exact ⟨c', h1, by rw [h2]; simp⟩
theorem there_block {w : World} {b : Nat} {t : TypeId} {c : Array Value} (h : w.heap[b]? = some (.cells c t (0, 0))) (o n : Nat) (hn : o + n ≤ c.size) : w.there b o n := fun j hj => ⟨by rw [cell_of_block h, Array.getElem?_eq_getElem (by omega)]; rfl, frozen_of_block h _⟩
end Go.Proofs.YtijommlodgpphaaDoor
