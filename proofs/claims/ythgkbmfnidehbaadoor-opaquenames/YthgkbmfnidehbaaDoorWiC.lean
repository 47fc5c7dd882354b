
/- Numbers in a map. No statement of the seat is proved here. -/
import Derived.Test.YthgkbmfnidehbaaDoorEvF
namespace Go.Proofs.YthgkbmfnidehbaaDoor
open Go.RowKit Go.Shelf

def numI (a : Int) : Value := .int .i64 a
theorem lookup_erase : ∀ (L : List (Int × Int)) (j : Nat) (a z : Int), (L.map (·.1)).Nodup → L[j]? = some (a, z) → ∀ y, (L.eraseIdx j).lookup y = if y = a then none else L.lookup y
  | [], j, a, z, _, h => by simp at h
  | (b, u) :: L, 0, a, z, hn, h => by
    simp at h
    obtain ⟨rfl, rfl⟩ := h
    simp only [List.map_cons, List.nodup_cons] at hn
    intro y
    rw [List.eraseIdx_zero, List.tail_cons]
    by_cases hy : y = b
    · subst hy; rw [if_pos rfl, lookup_of_not hn.1]
    · have : (y == b) = false := by simp [hy]
      simp [List.lookup, this, hy]
  | (b, u) :: L, j + 1, a, z, hn, h => by
    simp only [List.map_cons, List.nodup_cons] at hn
    simp at h
    intro y
    have ih := lookup_erase L j a z hn.2 h y
    have hab : a ≠ b := by
      rintro rfl
      exact hn.1 (List.mem_map.2 ⟨(a, z), List.mem_of_getElem? h, rfl⟩)
    rw [List.eraseIdx_cons_succ, List.lookup, List.lookup]
    by_cases hy : y = b
    · subst hy
      have : ¬ y = a := fun e => hab e.symm
      simp [this]
    · have : (y == b) = false := by simp [hy]
      rw [this]; exact ih
/-- Numbers in a map. -/
structure MapI (w : World) (b : Nat) (f : Int → Option Int) : Prop where
  ex : ∃ (es : Array MapEntry) (clock : Nat) (L : List (Int × Int)), w.heap[b]? = some (.map es clock) ∧ es.toList.map (fun x => (x.key, x.val)) = L.map (fun p => (numI p.1, numI p.2)) ∧ (L.map (·.1)).Nodup ∧ (∀ y, L.lookup y = f y)
theorem MapI.keeps {w w' : World} {S : Nat → Prop} {b : Nat} {f : Int → Option Int} (h : MapI w b f) (k : Keeps S w w') (hs : ¬ S b) : MapI w' b f := by
  obtain ⟨es, clock, L, h1, h2⟩ := h.ex
  exact ⟨es, clock, L, (k.block b (lt_of_block h1) hs).trans h1, h2⟩
theorem MapI.lt {w : World} {b : Nat} {f : Int → Option Int} (h : MapI w b f) : b < w.heap.size := by
  obtain ⟨es, clock, L, h1, h2⟩ := h.ex
  exact lt_of_block h1
theorem enti_mem {es : List MapEntry} {L : List (Int × Int)} (h : es.map (fun x => (x.key, x.val)) = L.map (fun p => (numI p.1, numI p.2))) {j : Nat} {x : MapEntry} (hx : es[j]? = some x) : ∃ p, L[j]? = some p ∧ x.key = numI p.1 ∧ x.val = numI p.2 := by
  have h1 : (es.map (fun x => (x.key, x.val)))[j]? = some (x.key, x.val) := by rw [List.getElem?_map, hx]; rfl
  rw [h, List.getElem?_map] at h1
  obtain ⟨p, hp, he⟩ := Option.map_eq_some_iff.1 h1
  exact ⟨p, hp, (Prod.mk.inj he).1.symm, (Prod.mk.inj he).2.symm⟩
theorem enti_keys {es : List MapEntry} {L : List (Int × Int)} (h : es.map (fun x => (x.key, x.val)) = L.map (fun p => (numI p.1, numI p.2))) : ∀ x ∈ es, MapKept.IsKey (.int .i64) x.key := fun x hx => by
  obtain ⟨j, hj⟩ := List.getElem?_of_mem hx
  obtain ⟨p, _, h1, _⟩ := enti_mem h hj
  rw [h1]; rfl
theorem numI_inj {a b : Int} (h : numI a = numI b) : a = b := by unfold numI at h; injection h
/-- What a look into the map tells. -/
def lookI (f : Int → Option Int) (a : Int) : Value := .tuple #[.int .i64 ((f a).getD 0), .bool (f a).isSome]
theorem MapI.look {w : World} {b : Nat} {f : Int → Option Int} (h : MapI w b f) (a : Int) : (Instr.lookup 81 (.map (some b)) (.int .i64 a) true).run Tryd.prog w = .ok (lookI f a) w := by
  obtain ⟨es, clock, L, h1, h2, h3, h4⟩ := h.ex
  have hk : MapKept.IsKey (.int .i64) (numI a) := rfl
  have hgo := MapKept.run_getObj_map (P := Tryd.prog) h1
  have hck := fun e => MapKept.run_checkKey (P := Tryd.prog) (w := w) Tryd.underlying3 hk e 9999
  unfold lookI
  rw [← h4 a]
  rcases MapKept.findNow_spec hk es.toList 0 (enti_keys h2) with ⟨f1, f2⟩ | ⟨j, e, f1, f2, f3⟩
  · have hx : a ∉ L.map (·.1) := fun hm => by
      obtain ⟨p, hp, rfl⟩ := List.mem_map.1 hm
      have : (numI p.1, numI p.2) ∈ es.toList.map (fun x => (x.key, x.val)) := by rw [h2]; exact List.mem_map.2 ⟨p, hp, rfl⟩
      obtain ⟨y, hy, he⟩ := List.mem_map.1 this
      exact f2 y hy (Prod.mk.inj he).1
    have hf := MapKept.run_findKey (P := Tryd.prog) (w := w) Tryd.underlying3 f1
    rw [lookup_of_not hx]
    simp only [numI] at hck hf
    simp [Instr.lookup, run_underlying Tryd.underlying81, hgo, hck, hf, Result.andThen, go_sem]
  · have hf := MapKept.run_findKey (P := Tryd.prog) (w := w) Tryd.underlying3 f1
    obtain ⟨p, hp, e1, e2⟩ := enti_mem h2 f2
    have : a = p.1 := numI_inj (f3.symm.trans e1)
    rw [this, lookup_of_mem h3 (List.mem_of_getElem? hp)]
    simp only [numI, this] at hck hf e2
    simp [Instr.lookup, run_underlying Tryd.underlying81, hgo, hck, hf, Result.andThen, e2]
/-- A word more. -/
theorem MapI.put {w : World} {b : Nat} {f : Int → Option Int} (h : MapI w b f) (a x : Int) :
    ∃ w', (Instr.mapUpdate 81 (.map (some b)) (.int .i64 a) (.int .i64 x)).run Tryd.prog w = .ok () w' ∧ MapI w' b (fun y => if y = a then some x else f y) ∧ Keeps (fun k => k = b) w w' := by
  obtain ⟨es, clock, L, h1, h2, h3, h4⟩ := h.ex
  have hk : MapKept.IsKey (.int .i64) (numI a) := rfl
  have hgo := MapKept.run_getObj_map (P := Tryd.prog) h1
  have hck := fun e => MapKept.run_checkKey (P := Tryd.prog) (w := w) Tryd.underlying3 hk e 9999
  rcases MapKept.findNow_spec hk es.toList 0 (enti_keys h2) with ⟨f1, f2⟩ | ⟨j, e, f1, f2, f3⟩
  · have hf := MapKept.run_findKey (P := Tryd.prog) (w := w) Tryd.underlying3 f1
    have hx : a ∉ L.map (·.1) := fun hm => by
      obtain ⟨p, hp, rfl⟩ := List.mem_map.1 hm
      have : (numI p.1, numI p.2) ∈ es.toList.map (fun x => (x.key, x.val)) := by rw [h2]; exact List.mem_map.2 ⟨p, hp, rfl⟩
      obtain ⟨y, hy, he⟩ := List.mem_map.1 this
      exact f2 y hy (Prod.mk.inj he).1
    have hso := MapKept.run_setObj_map (P := Tryd.prog) (.map (es.push { key := numI a, val := numI x, born := clock }) (clock + 1)) h1
    refine ⟨{ w with heap := w.heap.setIfInBounds b (.map (es.push { key := numI a, val := numI x, born := clock }) (clock + 1)) }, ?_, ⟨_, _, L ++ [(a, x)], (MapKept.heap_set h1).1, ?_, ?_, ?_⟩, ?_⟩
    · simp only [numI] at hck hf hso
      simp [Instr.mapUpdate, run_underlying Tryd.underlying81, hgo, hck, hf, hso, Result.andThen, numI]
    · simp [h2]
    · rw [List.map_append, List.nodup_append]
      refine ⟨h3, by simp, ?_⟩
      intro u hu v hv
      simp only [List.map_cons, List.map_nil, List.mem_singleton] at hv
      subst hv
      rintro rfl
      exact hx hu
    · intro y
      rw [List.lookup_append, h4]
      by_cases hy : y = a
      · subst hy; rw [← h4, lookup_of_not hx]; simp [List.lookup]
      · have : (y == a) = false := by simp [hy]
        simp [List.lookup, this, hy]
    · refine ⟨rfl, rfl, rfl, by simp, fun k hk hs => ?_⟩
      exact (MapKept.heap_set h1).2 k hs
  · have hf := MapKept.run_findKey (P := Tryd.prog) (w := w) Tryd.underlying3 f1
    obtain ⟨p, hp, e1, e2⟩ := enti_mem h2 f2
    have hap : a = p.1 := numI_inj (f3.symm.trans e1)
    have hso := MapKept.run_setObj_map (P := Tryd.prog) (.map (es.modify j fun e => { e with key := numI a, val := numI x }) clock) h1
    have hej : es[j]? = some e := by simpa using f2
    have hsb : Instr.sameBits 10000 (Value.int .i64 a) (Value.int .i64 a) = true := by rw [show (10000 : Nat) = 9999 + 1 from rfl, Instr.sameBits]; simp
    refine ⟨{ w with heap := w.heap.setIfInBounds b (.map (es.modify j fun e => { e with key := numI a, val := numI x }) clock) }, ?_, ⟨_, _, L.set j (a, x), (MapKept.heap_set h1).1, ?_, ?_, ?_⟩, ?_⟩
    · simp only [numI] at hck hf hso f3
      simp [Instr.mapUpdate, run_underlying Tryd.underlying81, hgo, hck, hf, hso, Result.andThen, hej, f3, Instr.keyThatStays, hsb, numI]
    · apply List.ext_getElem?
      intro i
      have hl := congrArg (fun l : List (Value × Value) => l[i]?) h2
      simp only [List.getElem?_map] at hl ⊢
      rw [List.getElem?_set]
      by_cases hi : j = i
      · subst hi
        have hjl : j < L.length := (List.getElem?_eq_some_iff.1 hp).1
        simp [hej, hjl]
      · simp only [hi, if_false]
        rw [← hl]
        simp [hi]
    · have : (L.set j (a, x)).map (·.1) = L.map (·.1) := by
        apply List.ext_getElem?
        intro i
        simp only [List.getElem?_map, List.getElem?_set]
        by_cases hi : j = i
        · subst hi
          have hjl : j < L.length := (List.getElem?_eq_some_iff.1 hp).1
          simp only [if_true, hjl, Option.map_some]
          rw [hp, hap]; rfl
        · simp [hi]
      rw [this]; exact h3
    · intro y
      rw [lookup_set L j a x p.2 h3 (by rw [hp, hap]) y, h4]
    · refine ⟨rfl, rfl, rfl, by simp, fun k hk hs => ?_⟩
      exact (MapKept.heap_set h1).2 k hs
theorem MapI.new (w : World) : MapI (w.alloc (.map #[] 0)) w.heap.size (fun _ => none) := ⟨#[], 0, [], (MapKept.heap_alloc w (.map #[] 0)).1, rfl, List.nodup_nil, fun _ => rfl⟩
/-- One less. -/
theorem MapI.del {w : World} {b : Nat} {f : Int → Option Int} (h : MapI w b f) (a : Int) (ty : TypeId) :
    ∃ w', (Builtin.delete_ #[81, 3] ty #[.map (some b), .int .i64 a]).run Tryd.prog w = .ok (.tuple #[]) w' ∧ MapI w' b (fun y => if y = a then none else f y) ∧ Keeps (fun k => k = b) w w' := by
  obtain ⟨es, clock, L, h1, h2, h3, h4⟩ := h.ex
  have hk : MapKept.IsKey (.int .i64) (numI a) := rfl
  have hgo := MapKept.run_getObj_map (P := Tryd.prog) h1
  have hck := fun e => MapKept.run_checkKey (P := Tryd.prog) (w := w) Tryd.underlying3 hk e 9999
  rcases MapKept.findNow_spec hk es.toList 0 (enti_keys h2) with ⟨f1, f2⟩ | ⟨j, e, f1, f2, f3⟩
  · have hf := MapKept.run_findKey (P := Tryd.prog) (w := w) Tryd.underlying3 f1
    have hx : a ∉ L.map (·.1) := fun hm => by
      obtain ⟨p, hp, rfl⟩ := List.mem_map.1 hm
      have : (numI p.1, numI p.2) ∈ es.toList.map (fun x => (x.key, x.val)) := by rw [h2]; exact List.mem_map.2 ⟨p, hp, rfl⟩
      obtain ⟨y, hy, he⟩ := List.mem_map.1 this
      exact f2 y hy (Prod.mk.inj he).1
    have hso := MapKept.run_setObj_map (P := Tryd.prog) (.map es clock) h1
    refine ⟨{ w with heap := w.heap.setIfInBounds b (.map es clock) }, ?_, ⟨es, clock, L, (MapKept.heap_set h1).1, h2, h3, fun y => ?_⟩, ⟨rfl, rfl, rfl, by simp, fun k hk hs => (MapKept.heap_set h1).2 k hs⟩⟩
    · simp only [numI] at hck hf
      simp [Builtin.delete_, run_underlying Tryd.underlying81, hgo, hck, hf, hso, Result.andThen]
    · rw [h4]
      split
      · rename_i hy; subst hy; rw [← h4, lookup_of_not hx]
      · rfl
  · have hf := MapKept.run_findKey (P := Tryd.prog) (w := w) Tryd.underlying3 f1
    obtain ⟨p, hp, e1, e2⟩ := enti_mem h2 f2
    have hap : a = p.1 := numI_inj (f3.symm.trans e1)
    have hjl : j < es.toList.length := (List.getElem?_eq_some_iff.1 f2).1
    have hjs : j < es.size := by simpa using hjl
    have hsub : (es.eraseIdxIfInBounds j).toList = es.toList.eraseIdx j := by
      unfold Array.eraseIdxIfInBounds
      rw [dif_pos hjs]
      simp
    have hso := MapKept.run_setObj_map (P := Tryd.prog) (.map (es.eraseIdxIfInBounds j) clock) h1
    refine ⟨{ w with heap := w.heap.setIfInBounds b (.map (es.eraseIdxIfInBounds j) clock) }, ?_, ⟨_, clock, L.eraseIdx j, (MapKept.heap_set h1).1, ?_, ?_, fun y => ?_⟩, ⟨rfl, rfl, rfl, by simp, fun k hk hs => (MapKept.heap_set h1).2 k hs⟩⟩
    · simp only [numI] at hck hf
      simp [Builtin.delete_, run_underlying Tryd.underlying81, hgo, hck, hf, hso, Result.andThen]
    · rw [hsub]
      have : ∀ {α β : Type} (g : α → β) (l : List α) (n : Nat), (l.eraseIdx n).map g = (l.map g).eraseIdx n := by
        intro α β g l
        induction l with
        | nil => intro n; simp
        | cons x l ih => intro n; cases n <;> simp [ih]
      rw [this, this, h2]
    · exact h3.sublist ((List.eraseIdx_sublist L j).map _)
    · rw [lookup_erase L j a p.2 h3 (by rw [hp, hap]) y, h4]
end Go.Proofs.YthgkbmfnidehbaaDoor
