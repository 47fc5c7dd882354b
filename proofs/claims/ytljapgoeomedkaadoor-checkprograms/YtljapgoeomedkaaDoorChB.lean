
/- Rows of whole numbers of the call's own. No statement of the seat is proved here. -/
import Derived.Test.YtljapgoeomedkaaDoorChA
namespace Go.Proofs.YtljapgoeomedkaaDoor
open Go.RowKit Go.Shelf

theorem info_int : (Tryd.prog.info? 3).map (fun i => (i.zero, i.size, i.bytes)) = some (some (.int .i64 0), 1, 8) := by kernel_rfl
/-- A row of whole numbers of the call's own. -/
structure Its (w : World) (base : Nat) (v : Value) (l : List Int) : Prop where
  own : w.ownsRow base 3 1 v l.length (l.map (Value.int .i64))
  base : base ≤ w.heap.size
theorem Its.nil (w : World) : Its w w.heap.size (.slice none 0 0) [] := ⟨⟨rfl, .inl ⟨rfl, rfl⟩⟩, Nat.le_refl _⟩
theorem Its.keeps {w w' : World} {base : Nat} {v : Value} {l : List Int} {S : Nat → Prop} (h : Its w base v l) (k : Keeps S w w') (hs : ∀ g, v.ownBlock = some g → ¬ S g) : Its w' base v l :=
  ⟨own_keeps h.own k hs, Nat.le_trans h.base k.size⟩
theorem Its.push {w : World} {base : Nat} {v : Value} {l : List Int} (h : Its w base v l) (x : Int) (hb : (l.length + 1) * 8 ≤ 140737488355328) :
    ∃ v' w', (Builtin.append_ #[53, 53] 53 #[v, .slice (some ⟨w.heap.size, 0, none⟩) 1 1]).run Tryd.prog (w.alloc (.cells #[.int .i64 x] 3)) = .ok v' w' ∧ Its w' base v' (l ++ [x]) ∧ Grew w w' v v' := by
  have k0 := (Keeps.refl (fun _ => False) w).alloc (.cells #[.int .i64 x] 3)
  have h0 := h.keeps k0 (fun _ _ f => f)
  obtain ⟨v', w', h1, h2, h3, h4⟩ := own_push (P := Tryd.prog) (w.alloc (.cells #[.int .i64 x] 3)) base 53 53 3 (.int .i64 0) 1 8 Tryd.underlying53 info_int rfl (by decide) v l.length _ h0.own ⟨w.heap.size, 0, none⟩ 1 1 [.int .i64 x] rfl (fun j u hj => by
    match j with
    | 0 => simp at hj; subst hj; rw [addr_add, cell_of_block (MapKept.heap_alloc _ _).1]; rfl
    | j + 1 => simp at hj) (by simp [Value.oneCell']) (by omega) (by decide) h0.base
  refine ⟨v', w', h1, ⟨by simpa using h2, Nat.le_trans h0.base h3.size⟩, Grew.ahead k0 ⟨(Keeps.refl _ _).grown h3 fun k hk => .inr hk, h4⟩⟩
theorem Its.kept {w wr w' : World} {u u' : Value} {X : List Int} (h : Grew wr w' u u') (k : Keeps (fun _ => False) w wr) (hb : Its wr w.heap.size u X) : Keeps (fun _ => False) w w' :=
  ⟨h.keeps.os.trans k.os, h.keeps.tape.trans k.tape, h.keeps.output.trans k.output, Nat.le_trans k.size h.keeps.size, fun g hg hs => (h.keeps.block g (Nat.lt_of_lt_of_le hg k.size) fun e => by
    have := (own_block hb.own e).2; omega).trans (k.block g hg hs)⟩
theorem Its.form {w : World} {base : Nat} {v : Value} {L : List Int} (h : Its w base v L) : ∃ b c, v = .slice b L.length c := by
  rcases h.own.2 with ⟨rfl, h2⟩ | ⟨g, cap, cur, rfl, _⟩
  · exact ⟨none, 0, by rw [h2]⟩
  · exact ⟨_, cap, rfl⟩
theorem Its.at {w : World} {base : Nat} {b : Option Addr} {n c : Nat} {L : List Int} (h : Its w base (.slice b n c) L) (k : Nat) (hk : k < L.length) : ∃ g, b = some ⟨g, 0, none⟩ ∧ base ≤ g ∧ w.cell? ⟨g, k, none⟩ = some (.int .i64 (L[k]'hk)) := by
  rcases h.own.2 with ⟨_, h2⟩ | ⟨g, cap, cur, hv, h1, h2, h3, h4, h5, h6⟩
  · omega
  · cases hv
    refine ⟨g, rfl, h1, ?_⟩
    rw [cell_of_block h2]
    have : (cur.toList.take (L.length * 1))[k]? = (L.map (Value.int .i64))[k]? := by rw [h6]
    rw [List.getElem?_take_of_lt (by omega)] at this
    simpa [hk] using this

end Go.Proofs.YtljapgoeomedkaaDoor
