
/- Words in a map; a course as it lies; walks of owned, refusal (package events). No statement of the seat is proved here. -/
import Derived.Test.YthgkbmfnidehbaaDoorEvE
namespace Go.Proofs.YthgkbmfnidehbaaDoor
open Go.RowKit Go.Shelf

def numV (a : Int) : Value := .int .u64 a
theorem lookup_of_mem {L : List (Int × Int)} (hn : (L.map (·.1)).Nodup) {p : Int × Int} (hp : p ∈ L) : L.lookup p.1 = some p.2 := by
  induction L with
  | nil => simp at hp
  | cons q L ih =>
    simp only [List.map_cons, List.nodup_cons] at hn
    rcases List.mem_cons.1 hp with rfl | hp2
    · obtain ⟨a, b⟩ := p; simp [List.lookup]
    · obtain ⟨a, b⟩ := q
      have : (p.1 == a) = false := by
        rw [beq_eq_false_iff_ne]
        rintro rfl
        exact hn.1 (List.mem_map.2 ⟨p, hp2, rfl⟩)
      rw [List.lookup, this]
      exact ih hn.2 hp2
theorem lookup_of_not {L : List (Int × Int)} {x : Int} (h : x ∉ L.map (·.1)) : L.lookup x = none := by
  rw [List.lookup_eq_none_iff]
  intro p hp
  simp only [bne_iff_ne, ne_eq]
  rintro rfl
  exact h (List.mem_map.2 ⟨p, hp, rfl⟩)
theorem lookup_set : ∀ (L : List (Int × Int)) (j : Nat) (a x z : Int), (L.map (·.1)).Nodup → L[j]? = some (a, z) → ∀ y, (L.set j (a, x)).lookup y = if y = a then some x else L.lookup y
  | [], j, a, x, z, _, h => by simp at h
  | (b, u) :: L, 0, a, x, z, _, h => by
    simp at h
    obtain ⟨rfl, rfl⟩ := h
    intro y
    by_cases hy : y = b
    · subst hy; simp
    · have : (y == b) = false := by simp [hy]
      simp [List.lookup, this, hy]
  | (b, u) :: L, j + 1, a, x, z, hn, h => by
    simp only [List.map_cons, List.nodup_cons] at hn
    simp at h
    intro y
    have ih := lookup_set L j a x z hn.2 h y
    have hab : a ≠ b := by
      rintro rfl
      exact hn.1 (List.mem_map.2 ⟨(a, z), List.mem_of_getElem? h, rfl⟩)
    rw [List.set_cons_succ, List.lookup, List.lookup]
    by_cases hy : y = b
    · subst hy
      have : ¬ y = a := fun e => hab e.symm
      simp [this]
    · have : (y == b) = false := by simp [hy]
      rw [this]; exact ih
/-- Words in a map: which word stands at an address. -/
structure MapU (w : World) (b : Nat) (f : Int → Option Int) : Prop where
  ex : ∃ (es : Array MapEntry) (clock : Nat) (L : List (Int × Int)), w.heap[b]? = some (.map es clock) ∧ es.toList.map (fun x => (x.key, x.val)) = L.map (fun p => (numV p.1, numV p.2)) ∧ (L.map (·.1)).Nodup ∧ (∀ y, L.lookup y = f y)
theorem MapU.keeps {w w' : World} {S : Nat → Prop} {b : Nat} {f : Int → Option Int} (h : MapU w b f) (k : Keeps S w w') (hs : ¬ S b) : MapU w' b f := by
  obtain ⟨es, clock, L, h1, h2⟩ := h.ex
  exact ⟨es, clock, L, (k.block b (lt_of_block h1) hs).trans h1, h2⟩
theorem MapU.lt {w : World} {b : Nat} {f : Int → Option Int} (h : MapU w b f) : b < w.heap.size := by
  obtain ⟨es, clock, L, h1, h2⟩ := h.ex
  exact lt_of_block h1
theorem ent_mem {es : List MapEntry} {L : List (Int × Int)} (h : es.map (fun x => (x.key, x.val)) = L.map (fun p => (numV p.1, numV p.2))) {j : Nat} {x : MapEntry} (hx : es[j]? = some x) : ∃ p, L[j]? = some p ∧ x.key = numV p.1 ∧ x.val = numV p.2 := by
  have h1 : (es.map (fun x => (x.key, x.val)))[j]? = some (x.key, x.val) := by rw [List.getElem?_map, hx]; rfl
  rw [h, List.getElem?_map] at h1
  obtain ⟨p, hp, he⟩ := Option.map_eq_some_iff.1 h1
  exact ⟨p, hp, (Prod.mk.inj he).1.symm, (Prod.mk.inj he).2.symm⟩
theorem ent_keys {es : List MapEntry} {L : List (Int × Int)} (h : es.map (fun x => (x.key, x.val)) = L.map (fun p => (numV p.1, numV p.2))) : ∀ x ∈ es, MapKept.IsKey (.int .u64) x.key := fun x hx => by
  obtain ⟨j, hj⟩ := List.getElem?_of_mem hx
  obtain ⟨p, _, h1, _⟩ := ent_mem h hj
  rw [h1]; rfl
theorem numV_inj {a b : Int} (h : numV a = numV b) : a = b := by unfold numV at h; injection h
/-- What a look into the map tells. -/
def lookV (f : Int → Option Int) (a : Int) : Value := .tuple #[.int .u64 ((f a).getD 0), .bool (f a).isSome]
theorem MapU.look {w : World} {b : Nat} {f : Int → Option Int} (h : MapU w b f) (a : Int) : (Instr.lookup 95 (.map (some b)) (.int .u64 a) true).run Tryd.prog w = .ok (lookV f a) w := by
  obtain ⟨es, clock, L, h1, h2, h3, h4⟩ := h.ex
  have hk : MapKept.IsKey (.int .u64) (numV a) := rfl
  have hgo := MapKept.run_getObj_map (P := Tryd.prog) h1
  have hck := fun e => MapKept.run_checkKey (P := Tryd.prog) (w := w) Tryd.underlying23 hk e 9999
  unfold lookV
  rw [← h4 a]
  rcases MapKept.findNow_spec hk es.toList 0 (ent_keys h2) with ⟨f1, f2⟩ | ⟨j, e, f1, f2, f3⟩
  · have hx : a ∉ L.map (·.1) := fun hm => by
      obtain ⟨p, hp, rfl⟩ := List.mem_map.1 hm
      have : (numV p.1, numV p.2) ∈ es.toList.map (fun x => (x.key, x.val)) := by rw [h2]; exact List.mem_map.2 ⟨p, hp, rfl⟩
      obtain ⟨y, hy, he⟩ := List.mem_map.1 this
      exact f2 y hy (Prod.mk.inj he).1
    have hf := MapKept.run_findKey (P := Tryd.prog) (w := w) Tryd.underlying23 f1
    rw [lookup_of_not hx]
    simp only [numV] at hck hf
    simp [Instr.lookup, run_underlying Tryd.underlying95, hgo, hck, hf, Result.andThen, go_sem]
  · have hf := MapKept.run_findKey (P := Tryd.prog) (w := w) Tryd.underlying23 f1
    obtain ⟨p, hp, e1, e2⟩ := ent_mem h2 f2
    have : a = p.1 := numV_inj (f3.symm.trans e1)
    rw [this, lookup_of_mem h3 (List.mem_of_getElem? hp)]
    simp only [numV, this] at hck hf e2
    simp [Instr.lookup, run_underlying Tryd.underlying95, hgo, hck, hf, Result.andThen, e2]
/-- A word more. -/
theorem MapU.put {w : World} {b : Nat} {f : Int → Option Int} (h : MapU w b f) (a x : Int) :
    ∃ w', (Instr.mapUpdate 95 (.map (some b)) (.int .u64 a) (.int .u64 x)).run Tryd.prog w = .ok () w' ∧ MapU w' b (fun y => if y = a then some x else f y) ∧ Keeps (fun k => k = b) w w' := by
  obtain ⟨es, clock, L, h1, h2, h3, h4⟩ := h.ex
  have hk : MapKept.IsKey (.int .u64) (numV a) := rfl
  have hgo := MapKept.run_getObj_map (P := Tryd.prog) h1
  have hck := fun e => MapKept.run_checkKey (P := Tryd.prog) (w := w) Tryd.underlying23 hk e 9999
  rcases MapKept.findNow_spec hk es.toList 0 (ent_keys h2) with ⟨f1, f2⟩ | ⟨j, e, f1, f2, f3⟩
  · have hf := MapKept.run_findKey (P := Tryd.prog) (w := w) Tryd.underlying23 f1
    have hx : a ∉ L.map (·.1) := fun hm => by
      obtain ⟨p, hp, rfl⟩ := List.mem_map.1 hm
      have : (numV p.1, numV p.2) ∈ es.toList.map (fun x => (x.key, x.val)) := by rw [h2]; exact List.mem_map.2 ⟨p, hp, rfl⟩
      obtain ⟨y, hy, he⟩ := List.mem_map.1 this
      exact f2 y hy (Prod.mk.inj he).1
    have hso := MapKept.run_setObj_map (P := Tryd.prog) (.map (es.push { key := numV a, val := numV x, born := clock }) (clock + 1)) h1
    refine ⟨{ w with heap := w.heap.setIfInBounds b (.map (es.push { key := numV a, val := numV x, born := clock }) (clock + 1)) }, ?_, ⟨_, _, L ++ [(a, x)], (MapKept.heap_set h1).1, ?_, ?_, ?_⟩, ?_⟩
    · simp only [numV] at hck hf hso
      simp [Instr.mapUpdate, run_underlying Tryd.underlying95, hgo, hck, hf, hso, Result.andThen, numV]
    · simp [h2]
    · rw [List.map_append, List.nodup_append]
      refine ⟨h3, by simp, ?_⟩
      intro u hu v hv
      simp only [List.map_cons, List.map_nil, List.mem_singleton] at hv
      subst hv
      rintro rfl
      exact hx hu
    · intro y
      rw [List.lookup_append, h4]
      by_cases hy : y = a
      · subst hy; rw [← h4, lookup_of_not hx]; simp [List.lookup]
      · have : (y == a) = false := by simp [hy]
        simp [List.lookup, this, hy]
    · refine ⟨rfl, rfl, rfl, by simp, fun k hk hs => ?_⟩
      exact (MapKept.heap_set h1).2 k hs
  · have hf := MapKept.run_findKey (P := Tryd.prog) (w := w) Tryd.underlying23 f1
    obtain ⟨p, hp, e1, e2⟩ := ent_mem h2 f2
    have hap : a = p.1 := numV_inj (f3.symm.trans e1)
    have hso := MapKept.run_setObj_map (P := Tryd.prog) (.map (es.modify j fun e => { e with key := numV a, val := numV x }) clock) h1
    have hej : es[j]? = some e := by simpa using f2
    have hsb : Instr.sameBits 10000 (Value.int .u64 a) (Value.int .u64 a) = true := by rw [show (10000 : Nat) = 9999 + 1 from rfl, Instr.sameBits]; simp
    refine ⟨{ w with heap := w.heap.setIfInBounds b (.map (es.modify j fun e => { e with key := numV a, val := numV x }) clock) }, ?_, ⟨_, _, L.set j (a, x), (MapKept.heap_set h1).1, ?_, ?_, ?_⟩, ?_⟩
    · simp only [numV] at hck hf hso f3
      simp [Instr.mapUpdate, run_underlying Tryd.underlying95, hgo, hck, hf, hso, Result.andThen, hej, f3, Instr.keyThatStays, hsb, numV]
    · apply List.ext_getElem?
      intro i
      have hl := congrArg (fun l : List (Value × Value) => l[i]?) h2
      simp only [List.getElem?_map] at hl ⊢
      rw [List.getElem?_set]
      by_cases hi : j = i
      · subst hi
        have hjl : j < L.length := (List.getElem?_eq_some_iff.1 hp).1
        simp [hej, hjl]
      · simp only [hi, if_false]
        rw [← hl]
        simp [hi]
    · have : (L.set j (a, x)).map (·.1) = L.map (·.1) := by
        apply List.ext_getElem?
        intro i
        simp only [List.getElem?_map, List.getElem?_set]
        by_cases hi : j = i
        · subst hi
          have hjl : j < L.length := (List.getElem?_eq_some_iff.1 hp).1
          simp only [if_true, hjl, Option.map_some]
          rw [hp, hap]; rfl
        · simp [hi]
      rw [this]; exact h3
    · intro y
      rw [lookup_set L j a x p.2 h3 (by rw [hp, hap]) y, h4]
    · refine ⟨rfl, rfl, rfl, by simp, fun k hk hs => ?_⟩
      exact (MapKept.heap_set h1).2 k hs
end Go.Proofs.YthgkbmfnidehbaaDoor
