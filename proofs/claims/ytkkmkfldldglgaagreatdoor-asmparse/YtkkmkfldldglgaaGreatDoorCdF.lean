
/- Walks of Bytes (package code). No statement of the seat is proved here. -/
import Derived.Test.YtkkmkfldldglgaaGreatDoorCdE
namespace Go.Proofs.YtkkmkfldldglgaaGreatDoor
open Go.RowKit Go.Shelf

/-- The numbers of an instruction are numbers of their kinds. -/
def I5.wf (i : I5) : Prop := (-9223372036854775808 ≤ i.op ∧ i.op < 9223372036854775808) ∧ (-9223372036854775808 ≤ i.a ∧ i.a < 9223372036854775808) ∧ (-9223372036854775808 ≤ i.b ∧ i.b < 9223372036854775808) ∧ (-9223372036854775808 ≤ i.c ∧ i.c < 9223372036854775808) ∧ 0 ≤ i.n ∧ i.n < 18446744073709551616

/-- Instructions where they lie. -/
structure InsAt (w : World) (v : Value) (L : List I5) : Prop where
  form : ∃ a cap, v = .slice a L.length cap ∧ ∀ k (hk : k < L.length), ∃ g off, a = some ⟨g, off, none⟩ ∧ w.cell? ⟨g, off + k * 5, none⟩ = some (.int .i64 (L[k]'hk).op) ∧ w.cell? ⟨g, off + k * 5 + 1, none⟩ = some (.int .i64 (L[k]'hk).a) ∧ w.cell? ⟨g, off + k * 5 + 2, none⟩ = some (.int .i64 (L[k]'hk).b) ∧ w.cell? ⟨g, off + k * 5 + 3, none⟩ = some (.int .i64 (L[k]'hk).c) ∧ w.cell? ⟨g, off + k * 5 + 4, none⟩ = some (.int .u64 (L[k]'hk).n)
  wf : ∀ i ∈ L, i.wf
  big : L.length * 40 ≤ 140737488355328

theorem InsAt.keeps {w w' : World} {v : Value} {L : List I5} (h : InsAt w v L) (k : Keeps (fun _ => False) w w') : InsAt w' v L := by
  obtain ⟨⟨a, cap, rfl, hc⟩, h2, h3⟩ := h
  refine ⟨⟨a, cap, rfl, fun j hj => ?_⟩, h2, h3⟩
  obtain ⟨g, off, rfl, c0, c1, c2, c3, c4⟩ := hc j hj
  have hg : g < w.heap.size := World.block_lt_of_cell? _ _ c0
  have hb := k.block g hg (fun f => f)
  have e : ∀ x, w'.cell? ⟨g, x, none⟩ = w.cell? ⟨g, x, none⟩ := fun x => by simp [World.cell?, hb]
  exact ⟨g, off, rfl, by rw [e, c0], by rw [e, c1], by rw [e, c2], by rw [e, c3], by rw [e, c4]⟩

def bytesL (i : I5) : List UInt8 := UInt8.ofNat i.op.toNat :: (numL i).flatMap fun n => sevL n.toNat
theorem flat10 : ∀ l : List Int, (∀ x ∈ l, 0 ≤ x ∧ x < 18446744073709551616) → (l.flatMap fun n => sevL n.toNat).length ≤ 10 * l.length
  | [], _ => by simp
  | x :: l, h => by
    have h1 := flat10 l fun y hy => h y (by simp [hy])
    have hx := h x (by simp)
    have h2 := sevL_le10 (n := x.toNat) (by omega)
    simp only [List.flatMap_cons, List.length_append, List.length_cons]
    omega

/-- What Bytes answers. -/
def BPost (L : List I5) (base : Nat) (e : Ending) (w' : World) : Prop := (L.all formedB = true → ∃ v', e = .returned (.tuple #[v', .int .i64 0]) ∧ Bts w' base v' (L.flatMap bytesL)) ∧ (L.all formedB = false → e = .returned (.tuple #[.slice none 0 0, .int .i64 180]))

end Go.Proofs.YtkkmkfldldglgaaGreatDoor
