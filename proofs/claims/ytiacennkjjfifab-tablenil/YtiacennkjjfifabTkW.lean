
/- Rows of words of the call's own, and slices of words as they lie (layer 25). No statement of the seat is proved here. -/
import Derived.Test.YtiacennkjjfifabTkA
import Derived.Test.YtiacennkjjfifabProg
import Derived.WalkSpells
import Derived.WalkLawsBesides
import Derived.OrdersIn
import Derived.OrdersHeld
import Derived.Deep.QuietTactic
import Derived.BigQuiet
import Derived.Deep.Upon
import Derived.Deep.RegionHeld3
import Derived.Deep.RegionWith
import Derived.Laws.AppendOwn
import Derived.OwnWalk
import Derived.OpenShut
namespace Go.Proofs.Ytiacennkjjfifab
open Go.RowKit

theorem alloc_block (w : World) (o : Obj) : (w.alloc o).heap[w.heap.size]? = some o := (MapKept.heap_alloc w o).1
theorem Keeps.step {S T : Nat → Prop} {a b c : World} (h : Keeps S a b) (k : Keeps T b c) (hst : ∀ i, i < a.heap.size → T i → S i) : Keeps S a c :=
  ⟨k.os.trans h.os, k.tape.trans h.tape, k.output.trans h.output, Nat.le_trans h.size k.size, fun i hi hs => (k.block i (Nat.lt_of_lt_of_le hi h.size) (fun e => hs (hst i hi e))).trans (h.block i hi hs)⟩
theorem keeps_grown {w w' : World} {row : Option Nat} (h : w.grownBy w' row) : Keeps (fun k => row = some k) w w' :=
  ⟨h.os, h.tape, h.output, h.size, fun k hk hn => h.block k hk (fun e => hn e.symm)⟩
/-- An append whose run is known, at its place in the walk. -/
theorem wpList_append_run {P : Program} {w : World} {ops : Array Oper} {rest : List Oper} {o : Oper} {a : Act} {Q : Exit → Act → World → Prop} (hgd : o.guard = none) (s x : Operand) (t : TypeId)
    (ho : o.op = .call { callee := .builtin .append, args := #[s, x], argTypes := #[t, t] }) {v y v' : Value} {w' : World} (hs : a.eval s = v) (hx : a.eval x = y)
    (hrun : (Builtin.append_ #[t, t] o.type #[v, y]).run P w = .ok v' w') (h : wpList P ops Q rest (a.put o.dst v') w') : wpList P ops Q (o :: rest) a w :=
  wpList_plain hgd fun K hK => by
    unfold Oper.wp execOp
    simp only [ho, resolve, invoke, builtin, Sem.run_bind, Sem.run_pure, Result.andThen_ok, List.map_toArray, List.map_cons, List.map_nil, hs, hx, hrun]
    exact hK _ _ h

theorem addr_add (b o i : Nat) : (⟨b, o, none⟩ : Addr).add i = ⟨b, o + i, none⟩ := by unfold Addr.add; split <;> simp_all

theorem own_block {w : World} {base size : Nat} {e : TypeId} {v : Value} {n : Nat} {xs : List Value} (h : w.ownsRow base e size v n xs) {g : Nat} (hg : v.ownBlock = some g) : g < w.heap.size ∧ base ≤ g := by
  rcases h.2 with ⟨rfl, rfl⟩ | ⟨g', cap, cur, rfl, h1, h2, _⟩
  · cases hg
  · cases hg; exact ⟨lt_of_block h2, h1⟩
theorem own_keep {w w' : World} {base size : Nat} {e : TypeId} {v : Value} {n : Nat} {xs : List Value} (h : w.ownsRow base e size v n xs) (hk : ∀ g, v.ownBlock = some g → w'.heap[g]? = w.heap[g]?) : w'.ownsRow base e size v n xs := by
  refine ⟨h.1, ?_⟩
  rcases h.2 with ⟨rfl, rfl⟩ | ⟨g', cap, cur, rfl, h1, h2, h3⟩
  · exact .inl ⟨rfl, rfl⟩
  · exact .inr ⟨g', cap, cur, rfl, h1, (hk g' rfl).trans h2, h3⟩
theorem own_keeps {w w' : World} {base size : Nat} {e : TypeId} {v : Value} {n : Nat} {xs : List Value} {S : Nat → Prop} (h : w.ownsRow base e size v n xs) (k : Keeps S w w') (hs : ∀ g, v.ownBlock = some g → ¬ S g) : w'.ownsRow base e size v n xs :=
  own_keep h fun g hg => k.block g (own_block h hg).1 (hs g hg)

/-- More behind a row of the call's own. -/
theorem own_push {P : Program} (w : World) (base : Nat) (t ty e : TypeId) (z : Value) (size bytes : Nat) (ht : P.underlying t = some (.slice e)) (hinfo : (P.info? e).map (fun i => (i.zero, i.size, i.bytes)) = some (some z, size, bytes)) (hzs : z.cells.size = size) (hsz : 0 < size)
    (v : Value) (n : Nat) (xs : List Value) (hown : w.ownsRow base e size v n xs) (ad : Addr) (m c : Nat) (us : List Value) (hl : us.length = m * size) (hu : ∀ (j : Nat) (u : Value), us[j]? = some u → w.cell? (ad.add j) = some u) (h1 : ∀ u ∈ us, u.oneCell' = true) (hbytes : (n + m) * bytes ≤ 140737488355328) (hb1 : 0 < bytes) (hbase : base ≤ w.heap.size) :
    ∃ v' w', (Builtin.append_ #[t, t] ty #[v, .slice (some ad) m c]).run P w = .ok v' w' ∧ w'.ownsRow base e size v' (n + m) (xs ++ us) ∧ w.grownBy w' v.ownBlock ∧ (v'.ownBlock = v.ownBlock ∨ ∀ g, v'.ownBlock = some g → w.heap.size ≤ g) := by
  obtain ⟨i, hi, hz0, hz1, hz2⟩ := info_parts hinfo
  have hnm : n + m ≤ 140737488355328 := Nat.le_trans (Nat.le_mul_of_pos_right _ hb1) hbytes
  have h63 : n + m ≤ maxLen := by simp only [maxLen]; omega
  obtain ⟨v', w', r1, r2, r3, _⟩ := run_append_own (P := P) w base t ty e i z size bytes ht hi hz0 hz1 hz2 hzs hsz v n xs hown ad m c us hl hu h1 h63 hbytes hbase
  refine ⟨v', w', r1, r2, r3, ?_⟩
  rcases hown.2 with ⟨rfl, rfl⟩ | ⟨g, cap, cur, rfl, q1, q2, q3, q4, q5, q6⟩
  · obtain ⟨v2, w2, s1, s2, _⟩ := run_append_own (P := P) w w.heap.size t ty e i z size bytes ht hi hz0 hz1 hz2 hzs hsz (.slice none 0 0) 0 xs ⟨hown.1, .inl ⟨rfl, rfl⟩⟩ ad m c us hl hu h1 h63 hbytes (Nat.le_refl _)
    rw [r1] at s1
    injection s1 with e1 e2
    subst e1; subst e2
    exact .inr fun g hg => (own_block s2 hg).2
  · by_cases hc : n + m ≤ cap
    · have s1 := run_append_room (P := P) w t ty e i ht hi g n cap cur q2 ad m c us (by rw [hz1]; exact hl) hu h1 hc (by rw [hz1, q5, hl, ← Nat.add_mul]; exact Nat.mul_le_mul_right _ hc)
      rw [r1] at s1
      injection s1 with e1 e2
      exact .inl (by rw [e1]; rfl)
    · have s1 := run_append_grow (P := P) w t ty e i z ht hi hz0 ⟨g, 0, none⟩ n cap xs (by rw [hz1]; exact hown.1) (fun j v0 hj => by
        rw [addr_add, Nat.zero_add, cell_of_block q2]
        have hlt : j < n * size := by
          have := (List.getElem?_eq_some_iff.1 hj).1
          rw [hown.1] at this; omega
        rw [← q6, List.getElem?_take_of_lt hlt] at hj
        simpa using hj) ad m c us (by rw [hz1]; exact hl) hu (by omega) (by simp only [maxLen] at h63; omega) (growslice_fits (by omega) (by rw [hz2]; exact hbytes))
      rw [r1] at s1
      injection s1 with e1 e2
      exact .inr fun g' hg => by rw [e1] at hg; cases hg; exact Nat.le_refl _


theorem info_word : (Try.prog.info? 22).map (fun i => (i.zero, i.size, i.bytes)) = some (some (.int .u64 0), 1, 8) := by kernel_rfl
/-- A slice's length. -/
def lenOf : Value → Nat
  | .slice _ n _ => n
  | _ => 0
/-- Words as values. -/
def wordsV (l : List Int) : List Value := l.map fun x => .int .u64 x
theorem wordsV_append (a b : List Int) : wordsV (a ++ b) = wordsV a ++ wordsV b := by unfold wordsV; rw [List.map_append]
/-- A slice that reads as these words. -/
def Lies (w : World) (v : Value) (xs : List Int) : Prop := ∃ a c, v = .slice a xs.length c ∧ ∀ i, i < xs.length → ∃ g off, a = some ⟨g, off, none⟩ ∧ w.cell? ⟨g, off + i, none⟩ = some (.int .u64 (oat xs i))
theorem Lies.keeps {w w' : World} {v : Value} {xs : List Int} {S : Nat → Prop} (h : Lies w v xs) (k : Keeps S w w') (hs : ∀ a c n, v = .slice (some a) n c → ¬ S a.block) : Lies w' v xs := by
  obtain ⟨a, c, rfl, hc⟩ := h
  refine ⟨a, c, rfl, fun i hi => ?_⟩
  obtain ⟨g, off, rfl, hcell⟩ := hc i hi
  exact ⟨g, off, rfl, (World.cell?_of_block (k.block g (World.block_lt_of_cell? _ _ hcell) (hs _ _ _ rfl))).trans hcell⟩
/-- A row of words of the call's own. -/
def Wr (w : World) (base : Nat) (v : Value) (l : List Int) : Prop := w.ownsRow base 22 1 v l.length (wordsV l)
theorem Wr.nil (w : World) (base : Nat) : Wr w base (.slice none 0 0) [] := ⟨rfl, .inl ⟨rfl, rfl⟩⟩
theorem Wr.lies {w : World} {base : Nat} {v : Value} {l : List Int} (h : Wr w base v l) : Lies w v l := by
  rcases id h.2 with ⟨h1, h2⟩ | ⟨g, cap, cur, rfl, _⟩
  · exact ⟨none, 0, by rw [h1, h2], fun i hi => by omega⟩
  · refine ⟨_, cap, rfl, fun i hi => ⟨g, 0, rfl, ?_⟩⟩
    rw [Nat.zero_add, World.ownsRow.cellAt h i (by omega)]
    simp [wordsV, oat, hi]
theorem Wr.keeps {w w' : World} {base : Nat} {v : Value} {l : List Int} {S : Nat → Prop} (h : Wr w base v l) (k : Keeps S w w') (hs : ∀ g, S g → g < base) : Wr w' base v l :=
  own_keeps h k (fun g hg hS => by have := hs g hS; have := (own_block h hg).2; omega)
theorem Wr.form {w : World} {base : Nat} {v : Value} {l : List Int} (h : Wr w base v l) : ∃ a c, v = .slice a l.length c := by
  obtain ⟨a, c, e, _⟩ := h.lies
  exact ⟨a, c, e⟩
/-- One more word. -/
theorem Wr.push {w : World} {base : Nat} {v : Value} {l : List Int} (h : Wr w base v l) (hb : base ≤ w.heap.size) (hl : l.length < 17592186044416) (x : Int) :
    ∃ v' w', (Builtin.append_ #[34, 34] 34 #[v, .slice (some ⟨w.heap.size, 0, none⟩) 1 1]).run Try.prog (w.alloc (.cells #[.int .u64 x] 22)) = .ok v' w' ∧ Wr w' base v' (l ++ [x]) ∧ Keeps (fun g => base ≤ g) w w' := by
  have h0 : (w.alloc (.cells #[.int .u64 x] 22)).ownsRow base 22 1 v l.length (wordsV l) := own_keeps h ((Keeps.refl (fun _ => False) w).alloc _) (fun _ _ f => f)
  obtain ⟨v', w', r1, r2, r3, _⟩ := own_push (P := Try.prog) (w.alloc (.cells #[.int .u64 x] 22)) base 34 34 22 (.int .u64 0) 1 8 Try.underlying34 info_word rfl (by decide) v l.length (wordsV l) h0 ⟨w.heap.size, 0, none⟩ 1 1 [.int .u64 x] rfl (fun j u hj => by
    obtain rfl : j = 0 := by
      have := (List.getElem?_eq_some_iff.1 hj).1
      simpa using this
    simp at hj
    subst hj
    rw [addr_add]
    exact cell_of_block (alloc_block w _) 0) (fun u hu => by simp at hu; subst hu; rfl) (by omega) (by decide) (by simp; omega)
  refine ⟨v', w', r1, ?_, ?_⟩
  · unfold Wr
    rw [wordsV_append, List.length_append]
    exact r2
  · exact ((Keeps.refl _ w).alloc _).step (keeps_grown r3) (fun g _ e => (own_block h0 e).2)
set_option maxRecDepth 100000 in
/-- append(v, s...) where v is the call's own: a longer row of the call's own. -/
theorem app_words (w : World) (base : Nat) (v : Value) (n : Nat) (xs : List Value) (hown : w.ownsRow base 22 1 v n xs) (vs : Value) (ys : List Int) (hr : Lies w vs ys) (hb : (n + ys.length) * 8 ≤ 140737488355328) (hbase : base ≤ w.heap.size) :
    ∃ v' w', (Builtin.append_ #[34, 34] 34 #[v, vs]).run Try.prog w = .ok v' w' ∧ w'.ownsRow base 22 1 v' (n + ys.length) (xs ++ wordsV ys) ∧ w.grownBy w' v.ownBlock := by
  obtain ⟨i0, hi, hz0, hz1, hz2⟩ := info_parts info_word
  obtain ⟨sp, c, rfl, hc⟩ := hr
  have hg : w.grownBy w v.ownBlock := ⟨rfl, rfl, rfl, Nat.le_refl _, fun _ _ _ => rfl⟩
  cases sp with
  | none =>
    have hl : ys.length = 0 := by
      rcases Nat.eq_zero_or_pos ys.length with h | h
      · exact h
      · obtain ⟨g, off, ha, _⟩ := hc 0 (by omega)
        cases ha
    obtain rfl : ys = [] := List.eq_nil_of_length_eq_zero hl
    have hsrc : Src Try.prog i0.size 34 (.slice none 0 c) 0 [] w := Src.ofNil w (e' := 22) Try.underlying34 c
    rcases id hown.2 with ⟨rfl, rfl⟩ | ⟨g, cap, cur, rfl, h1, h2, h3, h4, h5, h6⟩
    · exact ⟨_, _, run_append_nothing w 34 34 34 22 i0 Try.underlying34 hi none 0 0 (Nat.le_refl _) _ hsrc, by simpa [wordsV] using hown, hg⟩
    · exact ⟨_, _, run_append_nothing w 34 34 34 22 i0 Try.underlying34 hi (some ⟨g, 0, none⟩) n cap h3 _ hsrc, by simpa [wordsV] using hown, hg⟩
  | some a =>
    obtain ⟨v', w', h1, h2, h3, _⟩ := run_append_own (P := Try.prog) w base 34 34 22 i0 (.int .u64 0) 1 8 Try.underlying34 hi hz0 hz1 hz2 rfl (by decide) v n xs hown a ys.length c (wordsV ys) (by simp [wordsV])
      (fun j u hj => by
        have hj' : j < ys.length := by
          have := (List.getElem?_eq_some_iff.1 hj).1
          simpa [wordsV] using this
        obtain ⟨g, off, ha', hc'⟩ := hc j hj'
        injection ha' with ha'
        subst ha'
        rw [addr_add, hc', ← hj]
        simp [wordsV, oat, hj'])
      (fun u hu => by
        simp [wordsV] at hu
        obtain ⟨y, _, rfl⟩ := hu
        rfl) (by simp only [maxLen]; omega) hb hbase
    exact ⟨v', w', h1, h2, h3⟩

end Go.Proofs.Ytiacennkjjfifab
