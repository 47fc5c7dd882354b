
/- The rows of Stands: they grow and are cut, apart (layer 24). No statement of the seat is proved here. -/
import Derived.Test.YtalopkllldnipaaRpDM
import Derived.Test.YtalopkllldnipaaRpF
namespace Go.Proofs.Ytalopkllldnipaa
open Go.RowKit

theorem Wr.lt {w : World} {base : Nat} {v : Value} {ws : List Int} (h : Wr w base v ws) {i : Nat} (hi : v.ownBlock = some i) : i < w.heap.size := by
  rcases id h.2 with ⟨h1, _⟩ | ⟨g, cap, cur, rfl, _, h2, _⟩
  · rw [h1] at hi; cases hi
  · have e : g = i := by simpa [Value.ownBlock] using hi
    subst e
    exact lt_of_block h2
theorem Wn.lt {w : World} {base : Nat} {v : Value} {l : List (Int × Int)} (h : Wn w base v l) {i : Nat} (hi : v.ownBlock = some i) : i < w.heap.size := by
  rcases id h.2 with ⟨h1, _⟩ | ⟨g, cap, cur, rfl, _, h2, _⟩
  · rw [h1] at hi; cases hi
  · have e : g = i := by simpa [Value.ownBlock] using hi
    subst e
    exact lt_of_block h2
theorem Wr.form' {w : World} {base : Nat} {v : Value} {ws : List Int} (h : Wr w base v ws) : ∃ a c, v = .slice a ws.length c ∧ ws.length ≤ c := by
  rcases id h.2 with ⟨h1, h2⟩ | ⟨g, cap, cur, rfl, _, _, h3, _⟩
  · exact ⟨none, 0, by rw [h1, h2], by omega⟩
  · exact ⟨_, cap, rfl, h3⟩
theorem Wn.form' {w : World} {base : Nat} {v : Value} {l : List (Int × Int)} (h : Wn w base v l) : ∃ a c, v = .slice a l.length c := by
  rcases id h.2 with ⟨h1, h2⟩ | ⟨g, cap, cur, rfl, _, _, h3, _⟩
  · exact ⟨none, 0, by rw [h1, h2]⟩
  · exact ⟨_, cap, rfl⟩
/-- A row cut by its last word. -/
theorem Wr.cut {w : World} {base : Nat} {a : Option Addr} {c n : Nat} {ws : List Int} {x : Int} (h : Wr w base (.slice a n c) (ws ++ [x])) : n = ws.length + 1 ∧ Wr w base (.slice a ws.length c) ws := by
  rcases id h.2 with ⟨h1, h2⟩ | ⟨g, cap, cur, hv, h1, h2, h3, h4, h5, h6⟩
  · simp at h2
  · injection hv with e1 e2 e3
    subst e1 e3
    rw [List.length_append] at e2 h3 h6
    refine ⟨by simpa using e2, by simp [wordsV], .inr ⟨g, c, cur, rfl, h1, h2, by simp at h3; omega, h4, h5, ?_⟩⟩
    have q := congrArg (List.take ws.length) h6
    rw [List.take_take] at q
    simp [wordsV] at q
    simpa [wordsV] using q
/-- The last word of such a row. -/
theorem Wr.last {w : World} {base : Nat} {a : Option Addr} {c n : Nat} {ws : List Int} {x : Int} (h : Wr w base (.slice a n c) (ws ++ [x])) : ∃ g, a = some ⟨g, 0, none⟩ ∧ w.cell? ⟨g, ws.length, none⟩ = some (.int .u64 x) := by
  rcases id h.2 with ⟨h1, h2⟩ | ⟨g, cap, cur, hv, h1, h2, h3, h4, h5, h6⟩
  · simp at h2
  · injection hv with e1 e2 e3
    subst e1 e3
    refine ⟨g, rfl, ?_⟩
    have e : Value.slice (some ⟨g, 0, none⟩) n c = .slice (some ⟨g, 0, none⟩) (ws ++ [x]).length c := by rw [e2]
    rw [e] at h
    have q := World.ownsRow.cellAt h ws.length (by simp)
    rw [q]
    simp [wordsV]
/-- Two rows have no block in common. -/
def Dj (a b : Value) : Prop := ∀ i, a.ownBlock = some i → b.ownBlock ≠ some i
theorem Dj.symm {a b : Value} (h : Dj a b) : Dj b a := fun i h1 h2 => h i h2 h1
set_option maxRecDepth 100000 in
/-- One word more. -/
theorem Wr.more {w : World} {base : Nat} {v : Value} {ws : List Int} (h : Wr w base v ws) (hb : base ≤ w.heap.size) (hl : ws.length < 1000000) (x : Int) :
    ∃ v' w', (Builtin.append_ #[34, 34] 34 #[v, .slice (some ⟨w.heap.size, 0, none⟩) 1 1]).run Try.prog (w.alloc (.cells #[.int .u64 x] 25)) = .ok v' w' ∧ Wr w' base v' (ws ++ [x]) ∧ Keeps (fun g => v.ownBlock = some g) w w' ∧ (∀ i, v'.ownBlock = some i → v.ownBlock = some i ∨ w.heap.size ≤ i) := by
  have h0 : (w.alloc (.cells #[.int .u64 x] 25)).ownsRow base 25 1 v ws.length (wordsV ws) := own_keeps h ((Keeps.refl (fun _ => False) w).alloc _) (fun _ _ f => f)
  have hbn := blk_new w 25 #[.int .u64 x]
  have hkn := keeps_new w (.cells #[.int .u64 x] 25)
  obtain ⟨v', w', r1, r2, r3, r4⟩ := own_push (P := Try.prog) (w.alloc (.cells #[.int .u64 x] 25)) base 34 34 25 (.int .u64 0) 1 8 Try.underlying34 info_word rfl (by decide) v ws.length (wordsV ws) h0 ⟨w.heap.size, 0, none⟩ 1 1 [.int .u64 x] rfl (fun j u hj => by
    have hj2 : j < 1 := (List.getElem?_eq_some_iff.1 hj).1
    obtain rfl : j = 0 := by omega
    rw [addr_add, Nat.zero_add]
    simp at hj
    subst hj
    exact hbn.cell rfl) (fun u hu => by simp at hu; subst hu; rfl) (by omega) (by omega) (by have := hkn.size; omega)
  refine ⟨v', w', r1, ?_, ((Keeps.refl _ w).alloc _).trans (keeps_grown r3), ?_⟩
  · unfold Wr
    rw [List.length_append]
    simpa [wordsV] using r2
  · intro i hi
    rcases r4 with e | e
    · exact .inl (e ▸ hi)
    · have := e i hi
      have := hkn.size
      exact .inr (by omega)
/-- The four rows, apart: entries, those led to, those that wait, and who leads to them. -/
structure Rw (w : World) (base : Nat) (vo vm vw va : Value) (O : List (Int × Int)) (M A B : List Int) : Prop where
  o : Wn w base vo O
  m : Wr w base vm M
  wt : Wr w base vw A
  a : Wr w base va B
  om : Dj vo vm
  ow : Dj vo vw
  oa : Dj vo va
  mw : Dj vm vw
  ma : Dj vm va
  wa : Dj vw va
theorem dj_nil (v : Value) : Dj (.slice none 0 0) v := fun i h _ => by cases h
theorem Dj.more {w : World} {v v' u : Value} (h : Dj v u) (hu : ∀ i, u.ownBlock = some i → i < w.heap.size) (k : ∀ i, v'.ownBlock = some i → v.ownBlock = some i ∨ w.heap.size ≤ i) : Dj v' u := fun i h1 h2 => by
  rcases k i h1 with e | e
  · exact h i e h2
  · have := hu i h2; omega
section
variable {w w' : World} {base : Nat} {vo vm vw va : Value} {O : List (Int × Int)} {M A B : List Int}
theorem Rw.start (w : World) (base : Nat) : Rw w base (.slice none 0 0) (.slice none 0 0) (.slice none 0 0) (.slice none 0 0) [] [] [] [] := ⟨Wn.nil _ _, Wr.nil _ _, Wr.nil _ _, Wr.nil _ _, dj_nil _, dj_nil _, dj_nil _, dj_nil _, dj_nil _, dj_nil _⟩
theorem Rw.keeps (h : Rw w base vo vm vw va O M A B) (k : Keeps (fun _ => False) w w') : Rw w' base vo vm vw va O M A B :=
  ⟨h.o.keeps k (fun _ _ f => f), own_keeps h.m k (fun _ _ f => f), own_keeps h.wt k (fun _ _ f => f), own_keeps h.a k (fun _ _ f => f), h.om, h.ow, h.oa, h.mw, h.ma, h.wa⟩
theorem Rw.setM {vm' : Value} {M' : List Int} (h : Rw w base vo vm vw va O M A B) (g : Wr w' base vm' M') (k : Keeps (fun g => vm.ownBlock = some g) w w') (q : ∀ i, vm'.ownBlock = some i → vm.ownBlock = some i ∨ w.heap.size ≤ i) : Rw w' base vo vm' vw va O M' A B :=
  ⟨h.o.keeps k (fun i e f => h.om i e f), g, own_keeps h.wt k (fun i e f => h.mw i f e), own_keeps h.a k (fun i e f => h.ma i f e), (h.om.symm.more (fun _ => h.o.lt) q).symm, h.ow, h.oa, h.mw.more (fun _ => h.wt.lt) q, h.ma.more (fun _ => h.a.lt) q, h.wa⟩
theorem Rw.setW {vw' : Value} {A' : List Int} (h : Rw w base vo vm vw va O M A B) (g : Wr w' base vw' A') (k : Keeps (fun g => vw.ownBlock = some g) w w') (q : ∀ i, vw'.ownBlock = some i → vw.ownBlock = some i ∨ w.heap.size ≤ i) : Rw w' base vo vm vw' va O M A' B :=
  ⟨h.o.keeps k (fun i e f => h.ow i e f), own_keeps h.m k (fun i e f => h.mw i e f), g, own_keeps h.a k (fun i e f => h.wa i f e), h.om, (h.ow.symm.more (fun _ => h.o.lt) q).symm, h.oa, (h.mw.symm.more (fun _ => h.m.lt) q).symm, h.ma, h.wa.more (fun _ => h.a.lt) q⟩
theorem Rw.setA {va' : Value} {B' : List Int} (h : Rw w base vo vm vw va O M A B) (g : Wr w' base va' B') (k : Keeps (fun g => va.ownBlock = some g) w w') (q : ∀ i, va'.ownBlock = some i → va.ownBlock = some i ∨ w.heap.size ≤ i) : Rw w' base vo vm vw va' O M A B' :=
  ⟨h.o.keeps k (fun i e f => h.oa i e f), own_keeps h.m k (fun i e f => h.ma i e f), own_keeps h.wt k (fun i e f => h.wa i e f), g, h.om, h.ow, (h.oa.symm.more (fun _ => h.o.lt) q).symm, h.mw, (h.ma.symm.more (fun _ => h.m.lt) q).symm, (h.wa.symm.more (fun _ => h.wt.lt) q).symm⟩
theorem Rw.setO {vo' : Value} {O' : List (Int × Int)} (h : Rw w base vo vm vw va O M A B) (hb : base ≤ w.heap.size) (g : Wn w' w.heap.size vo' O') (k : Keeps (fun _ => False) w w') : Rw w' base vo' vm vw va O' M A B := by
  have q : ∀ i, vo'.ownBlock = some i → vo.ownBlock = some i ∨ w.heap.size ≤ i := fun i hi => .inr (g.own_new hi)
  refine ⟨?_, own_keeps h.m k (fun _ _ f => f), own_keeps h.wt k (fun _ _ f => f), own_keeps h.a k (fun _ _ f => f), h.om.more (fun _ => h.m.lt) q, h.ow.more (fun _ => h.wt.lt) q, h.oa.more (fun _ => h.a.lt) q, h.mw, h.ma, h.wa⟩
  rcases id g.2 with z | ⟨g', cap, cur, hv, z1, z2⟩
  · exact ⟨g.1, .inl z⟩
  · exact ⟨g.1, .inr ⟨g', cap, cur, hv, by omega, z2⟩⟩
end
end Go.Proofs.Ytalopkllldnipaa
