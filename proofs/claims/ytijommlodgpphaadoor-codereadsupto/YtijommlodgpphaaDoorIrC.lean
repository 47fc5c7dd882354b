
/- Walks of Join (package code). No statement of the seat is proved here. -/
import Derived.Test.YtijommlodgpphaaDoorIrB
namespace Go.Proofs.YtijommlodgpphaaDoor
open Go.RowKit Go.Shelf

/-- A target so much further on. -/
def shift (k : Nat) (i : I5) : I5 := if tgtB i.op then { i with n := (i.n + k) % 18446744073709551616 } else i
def jn (acc : List I5) (Ps : List (List I5)) : List I5 := Ps.foldl (fun acc p => acc ++ p.map (shift acc.length)) acc
theorem shift_wf (k : Nat) {i : I5} (h : i.wf) : (shift k i).wf := by
  unfold shift
  split
  · exact ⟨h.1, h.2.1, h.2.2.1, h.2.2.2.1, by show 0 ≤ (i.n + k) % 18446744073709551616; omega, by show (i.n + k) % 18446744073709551616 < _; omega⟩
  · exact h
theorem jn_take (acc : List I5) (Ps : List (List I5)) (k : Nat) (hk : k < Ps.length) : jn acc (Ps.take (k + 1)) = jn acc (Ps.take k) ++ (Ps[k]).map (shift (jn acc (Ps.take k)).length) := by
  unfold jn
  rw [List.take_succ_eq_append_getElem hk, List.foldl_append]
  rfl
/-- Programs where they lie. -/
structure PrsAt (w : World) (v : Value) (Ps : List (List I5)) : Prop where
  form : ∃ a cap, v = .slice a Ps.length cap ∧ ∀ k (hk : k < Ps.length), ∃ g off pa pc, a = some ⟨g, off, none⟩ ∧ w.cell? ⟨g, off + k, none⟩ = some (.slice pa (Ps[k]).length pc) ∧ InsAt w (.slice pa (Ps[k]).length pc) Ps[k]
  few : Ps.length ≤ 3
  each : ∀ p ∈ Ps, p.length ≤ 4194304
theorem PrsAt.keeps {w w' : World} {v : Value} {Ps : List (List I5)} (h : PrsAt w v Ps) (k : Keeps (fun _ => False) w w') : PrsAt w' v Ps := by
  obtain ⟨⟨a, cap, rfl, hc⟩, h2, h3⟩ := h
  refine ⟨⟨a, cap, rfl, fun j hj => ?_⟩, h2, h3⟩
  obtain ⟨g, off, pa, pc, rfl, c0, c1⟩ := hc j hj
  refine ⟨g, off, pa, pc, rfl, ?_, c1.keeps k⟩
  rw [← c0]
  simp only [World.cell?, k.block g (World.block_lt_of_cell? _ _ c0) (fun f => f)]

theorem Irs.push1 {w : World} {base : Nat} {v : Value} {L : List I5} (h : Irs w base v L) (i : I5) (hi : i.wf) (hb : L.length ≤ 12582912) :
    ∃ v' w', (Builtin.append_ #[23, 23] 23 #[v, .slice (some ⟨w.heap.size, 0, none⟩) 1 1]).run Tryd.prog (w.alloc (.cells #[.int .i64 i.op, .int .i64 i.a, .int .i64 i.b, .int .i64 i.c, .int .u64 i.n] 38)) = .ok v' w' ∧ Irs w' base v' (L ++ [i]) ∧ Grew w w' v v' := by
  have k0 := (Keeps.refl (fun _ => False) w).alloc (.cells #[.int .i64 i.op, .int .i64 i.a, .int .i64 i.b, .int .i64 i.c, .int .u64 i.n] 38)
  have b0 := (MapKept.heap_alloc w (.cells #[.int .i64 i.op, .int .i64 i.a, .int .i64 i.b, .int .i64 i.c, .int .u64 i.n] 38)).1
  have IB : InsAt (w.alloc (.cells #[.int .i64 i.op, .int .i64 i.a, .int .i64 i.b, .int .i64 i.c, .int .u64 i.n] 38)) (.slice (some ⟨w.heap.size, 0, none⟩) 1 1) [i] := by
    refine ⟨⟨_, 1, rfl, fun k hk => ⟨_, 0, rfl, ?_⟩⟩, by simpa using hi, by simp⟩
    obtain rfl : k = 0 := by simp at hk; omega
    refine ⟨?_, ?_, ?_, ?_, ?_⟩ <;> (rw [cell_of_block b0]; rfl)
  obtain ⟨v', w', h1, h2, h3⟩ := (h.keeps k0 (fun _ _ f => f)).app _ [i] IB (by simp; omega)
  exact ⟨v', w', h1, h2, Grew.ahead k0 h3⟩
theorem Irs.form {w : World} {base : Nat} {v : Value} {L : List I5} (h : Irs w base v L) : ∃ b c, v = .slice b L.length c := by
  rcases h.own.2 with ⟨rfl, h2⟩ | ⟨g, cap, cur, rfl, _⟩
  · exact ⟨none, 0, by rw [h2]⟩
  · exact ⟨_, cap, rfl⟩

/-- What Join answers. -/
def JPost (Ps : List (List I5)) (base : Nat) (e : Ending) (w' : World) : Prop := ((∀ p ∈ Ps, ∀ i ∈ p, formedB i = true) → ∃ v', e = .returned (.tuple #[v', .int .i64 0]) ∧ Irs w' base v' (jn [] Ps)) ∧ ((¬ ∀ p ∈ Ps, ∀ i ∈ p, formedB i = true) → e = .returned (.tuple #[.slice none 0 0, .int .i64 180]))

end Go.Proofs.YtijommlodgpphaaDoor
