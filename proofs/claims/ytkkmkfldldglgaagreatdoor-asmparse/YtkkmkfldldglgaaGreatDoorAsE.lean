
/- Labels in a map; what has been read of a text, as it lies in memory. No statement of the seat is proved here. -/
import Derived.Test.YtkkmkfldldglgaaGreatDoorAsD
import Derived.Test.YtkkmkfldldglgaaGreatDoorARoundB
import Derived.Test.YtkkmkfldldglgaaGreatDoorCdE
import Derived.Test.YtkkmkfldldglgaaGreatDoorCdF
namespace Go.Proofs.YtkkmkfldldglgaaGreatDoor
open Go.RowKit Go.Shelf

theorem wp_held_end {P : Program} {ops : Array Oper} {Q : Exit → Act → World → Prop} {id : Nat} {a : Act} {w : World} {S : World → Prop} (N : Nat) (hN : ops.size = N) (hm : P.follows .mixedOrders = true)
    (h : wpAnyH P .any ops (atEnd (Q .normal)) S N (Array.replicate N false) a w.drew) : (Code.region id ops true).wp P Q a w := by
  subst hN
  exact Code.wp_mono (fun e a w h => by cases e <;> first | exact h | exact h.elim) (wp_region_held hm h)

def keyV (l : List UInt8) : Value := .string ⟨l.toArray⟩
/-- Labels in a map. -/
structure MpAt (w : World) (m : Nat) (L : List (List UInt8 × Nat)) : Prop where
  ex : ∃ es clock, w.heap[m]? = some (.map es clock) ∧ es.toList.map (fun x => (x.key, x.val)) = L.map fun p => (keyV p.1, Value.int .i64 (p.2 : Int))
  nodup : (L.map (·.1)).Nodup
theorem keyV_inj {a b : List UInt8} (h : keyV a = keyV b) : a = b := by
  have : (⟨a.toArray⟩ : ByteArray) = ⟨b.toArray⟩ := by unfold keyV at h; injection h
  have h2 := congrArg (fun x : ByteArray => x.data.toList) this
  simpa using h2
theorem MpAt.keeps {w w' : World} {S : Nat → Prop} {m : Nat} {L : List (List UInt8 × Nat)} (h : MpAt w m L) (k : Keeps S w w') (hs : ¬ S m) : MpAt w' m L := by
  obtain ⟨es, clock, h1, h2⟩ := h.ex
  exact ⟨⟨es, clock, (k.block m (lt_of_block h1) hs).trans h1, h2⟩, h.nodup⟩
theorem mem_entries {es : List MapEntry} {L : List (List UInt8 × Nat)} (h : es.map (fun x => (x.key, x.val)) = L.map fun p => (keyV p.1, Value.int .i64 (p.2 : Int))) {x : MapEntry} (hx : x ∈ es) : ∃ p ∈ L, x.key = keyV p.1 ∧ x.val = .int .i64 (p.2 : Int) := by
  have : (x.key, x.val) ∈ es.map (fun x => (x.key, x.val)) := List.mem_map.2 ⟨x, hx, rfl⟩
  rw [h] at this
  obtain ⟨p, h1, h2⟩ := List.mem_map.1 this
  exact ⟨p, h1, (Prod.mk.inj h2).1.symm, (Prod.mk.inj h2).2.symm⟩
theorem lookup_mem {L : List (List UInt8 × Nat)} (hn : (L.map (·.1)).Nodup) {p : List UInt8 × Nat} (hp : p ∈ L) : L.lookup p.1 = some p.2 := by
  induction L with
  | nil => simp at hp
  | cons q L ih =>
    simp only [List.map_cons, List.nodup_cons] at hn
    rcases List.mem_cons.1 hp with rfl | hp2
    · obtain ⟨a, b⟩ := p; simp [List.lookup]
    · obtain ⟨a, b⟩ := q
      have : (p.1 == a) = false := by
        rw [beq_eq_false_iff_ne]
        rintro rfl
        exact hn.1 (List.mem_map.2 ⟨p, hp2, rfl⟩)
      rw [List.lookup, this]
      exact ih hn.2 hp2
theorem lookup_none {L : List (List UInt8 × Nat)} {x : List UInt8} (h : x ∉ L.map (·.1)) : L.lookup x = none := by
  rw [List.lookup_eq_none_iff]
  intro p hp
  simp only [bne_iff_ne, ne_eq]
  rintro rfl
  exact h (List.mem_map.2 ⟨p, hp, rfl⟩)
theorem isKeys {es : List MapEntry} {L : List (List UInt8 × Nat)} (h : es.map (fun x => (x.key, x.val)) = L.map fun p => (keyV p.1, Value.int .i64 (p.2 : Int))) : ∀ x ∈ es, MapKept.IsKey .string x.key := fun x hx => by
  obtain ⟨p, _, h1, _⟩ := mem_entries h hx
  rw [h1]; exact trivial
/-- What a look into the map tells. -/
def lookV (L : List (List UInt8 × Nat)) (x : List UInt8) : Value := match L.lookup x with
  | some p => .tuple #[.int .i64 (p : Int), .bool true]
  | none => .tuple #[.int .i64 0, .bool false]
theorem MpAt.look {w : World} {m : Nat} {L : List (List UInt8 × Nat)} (h : MpAt w m L) (x : List UInt8) : (Instr.lookup 70 (.map (some m)) (.string ⟨x.toArray⟩) true).run Tryz.prog w = .ok (lookV L x) w := by
  obtain ⟨es, clock, h1, h2⟩ := h.ex
  have hk : MapKept.IsKey .string (keyV x) := trivial
  have hgo := MapKept.run_getObj_map (P := Tryz.prog) h1
  have hck := fun e => MapKept.run_checkKey (P := Tryz.prog) (w := w) Tryz.underlying9 hk e 9999
  unfold lookV
  rcases MapKept.findNow_spec hk es.toList 0 (isKeys h2) with ⟨f1, f2⟩ | ⟨j, e, f1, f2, f3⟩
  · have hx : x ∉ L.map (·.1) := fun hm => by
      obtain ⟨p, hp, rfl⟩ := List.mem_map.1 hm
      have : (keyV p.1, Value.int .i64 (p.2 : Int)) ∈ es.toList.map (fun x => (x.key, x.val)) := by rw [h2]; exact List.mem_map.2 ⟨p, hp, rfl⟩
      obtain ⟨y, hy, he⟩ := List.mem_map.1 this
      exact f2 y hy (Prod.mk.inj he).1
    have hf := MapKept.run_findKey (P := Tryz.prog) (w := w) Tryz.underlying9 f1
    rw [lookup_none hx]
    simp only [keyV] at hck hf
    simp [Instr.lookup, run_underlying Tryz.underlying70, hgo, hck, hf, Result.andThen, go_sem]
  · have hf := MapKept.run_findKey (P := Tryz.prog) (w := w) Tryz.underlying9 f1
    obtain ⟨p, hp, e1, e2⟩ := mem_entries h2 (List.mem_of_getElem? f2)
    have : x = p.1 := keyV_inj (f3.symm.trans e1)
    rw [this, lookup_mem h.nodup hp]
    simp only [keyV, this] at hck hf
    simp [Instr.lookup, run_underlying Tryz.underlying70, hgo, hck, hf, Result.andThen, e2]
/-- A label more. -/
theorem MpAt.put {w : World} {m : Nat} {L : List (List UInt8 × Nat)} (h : MpAt w m L) (x : List UInt8) (n : Nat) (hx : x ∉ L.map (·.1)) :
    ∃ w', (Instr.mapUpdate 70 (.map (some m)) (.string ⟨x.toArray⟩) (.int .i64 (n : Int))).run Tryz.prog w = .ok () w' ∧ MpAt w' m (L ++ [(x, n)]) ∧ Keeps (fun k => k = m) w w' := by
  obtain ⟨es, clock, h1, h2⟩ := h.ex
  have hk : MapKept.IsKey .string (keyV x) := trivial
  have hgo := MapKept.run_getObj_map (P := Tryz.prog) h1
  have hck := fun e => MapKept.run_checkKey (P := Tryz.prog) (w := w) Tryz.underlying9 hk e 9999
  rcases MapKept.findNow_spec hk es.toList 0 (isKeys h2) with ⟨f1, f2⟩ | ⟨j, e, f1, f2, f3⟩
  · have hf := MapKept.run_findKey (P := Tryz.prog) (w := w) Tryz.underlying9 f1
    have hso := MapKept.run_setObj_map (P := Tryz.prog) (.map (es.push { key := keyV x, val := .int .i64 (n : Int), born := clock }) (clock + 1)) h1
    refine ⟨{ w with heap := w.heap.setIfInBounds m (.map (es.push { key := keyV x, val := .int .i64 (n : Int), born := clock }) (clock + 1)) }, ?_, ⟨⟨_, _, (MapKept.heap_set h1).1, ?_⟩, ?_⟩, ?_⟩
    · simp only [keyV] at hck hf hso
      simp [Instr.mapUpdate, run_underlying Tryz.underlying70, hgo, hck, hf, hso, Result.andThen, keyV]
    · simp [h2]
    · rw [List.map_append, List.nodup_append]
      refine ⟨h.nodup, by simp, ?_⟩
      intro a ha b hb
      simp only [List.map_cons, List.map_nil, List.mem_singleton] at hb
      subst hb
      rintro rfl
      exact hx ha
    · refine ⟨rfl, rfl, rfl, by simp, fun k hk hs => ?_⟩
      exact (MapKept.heap_set h1).2 k hs
  · obtain ⟨p, hp, e1, _⟩ := mem_entries h2 (List.mem_of_getElem? f2)
    have : x = p.1 := keyV_inj (f3.symm.trans e1)
    exact absurd (List.mem_map.2 ⟨p, hp, this.symm⟩) hx
end Go.Proofs.YtkkmkfldldglgaaGreatDoor
