
/- What All goes over: a set of words as a map, rows of pointers, and the walk's record (layer 24). No statement of the seat is proved here. -/
import Derived.Test.YtalopkllldnipaaRkZd
namespace Go.Proofs.Ytalopkllldnipaa
open Go.RowKit

def numV (a : Int) : Value := .int .u64 a
theorem numV_inj {a b : Int} (h : numV a = numV b) : a = b := by unfold numV at h; injection h
/-- A set of words, as it lies. -/
structure MapN (w : World) (b : Nat) (L : List Int) : Prop where
  ex : ∃ (es : Array MapEntry) (clock : Nat), w.heap[b]? = some (.map es clock) ∧ es.toList.map (fun x => (x.key, x.val)) = L.map (fun p => (numV p, .agg #[]))
theorem MapN.keeps {w w' : World} {S : Nat → Prop} {b : Nat} {L : List Int} (h : MapN w b L) (k : Keeps S w w') (hs : ¬ S b) : MapN w' b L := by
  obtain ⟨es, clock, h1, h2⟩ := h.ex
  exact ⟨es, clock, (k.block b (lt_of_block h1) hs).trans h1, h2⟩
theorem MapN.lt {w : World} {b : Nat} {L : List Int} (h : MapN w b L) : b < w.heap.size := by
  obtain ⟨es, clock, h1, h2⟩ := h.ex
  exact lt_of_block h1
theorem entN_mem {es : List MapEntry} {L : List Int} (h : es.map (fun x => (x.key, x.val)) = L.map (fun p => (numV p, .agg #[]))) {j : Nat} {x : MapEntry} (hx : es[j]? = some x) : ∃ p, L[j]? = some p ∧ x.key = numV p ∧ x.val = .agg #[] := by
  have h1 : (es.map (fun x => (x.key, x.val)))[j]? = some (x.key, x.val) := by rw [List.getElem?_map, hx]; rfl
  rw [h, List.getElem?_map] at h1
  obtain ⟨p, hp, he⟩ := Option.map_eq_some_iff.1 h1
  exact ⟨p, hp, (Prod.mk.inj he).1.symm, (Prod.mk.inj he).2.symm⟩
theorem entN_keys {es : List MapEntry} {L : List Int} (h : es.map (fun x => (x.key, x.val)) = L.map (fun p => (numV p, .agg #[]))) : ∀ x ∈ es, MapKept.IsKey (.int .u64) x.key := fun x hx => by
  obtain ⟨j, hj⟩ := List.getElem?_of_mem hx
  obtain ⟨p, _, h1, _⟩ := entN_mem h hj
  rw [h1]; rfl
theorem MapN.look {w : World} {b : Nat} {L : List Int} (h : MapN w b L) (a : Int) : (Instr.lookup 126 (.map (some b)) (.int .u64 a) true).run Try.prog w = .ok (.tuple #[.agg #[], .bool (decide (a ∈ L))]) w := by
  obtain ⟨es, clock, h1, h2⟩ := h.ex
  have hk : MapKept.IsKey (.int .u64) (numV a) := rfl
  have hgo := MapKept.run_getObj_map (P := Try.prog) h1
  have hck := fun e => MapKept.run_checkKey (P := Try.prog) (w := w) Try.underlying25 hk e 9999
  have hzv := Try.zeroValue145
  rcases MapKept.findNow_spec hk es.toList 0 (entN_keys h2) with ⟨f1, f2⟩ | ⟨j, e, f1, f2, f3⟩
  · have hx : a ∉ L := fun hm => by
      have : (numV a, Value.agg #[]) ∈ es.toList.map (fun x => (x.key, x.val)) := by rw [h2]; exact List.mem_map.2 ⟨a, hm, rfl⟩
      obtain ⟨y, hy, he⟩ := List.mem_map.1 this
      exact f2 y hy (Prod.mk.inj he).1
    have hf := MapKept.run_findKey (P := Try.prog) (w := w) Try.underlying25 f1
    have hd : decide (a ∈ L) = false := by simp [hx]
    rw [hd]
    simp only [numV] at hck hf
    simp [Instr.lookup, run_underlying Try.underlying126, hgo, hck, hf, Result.andThen, go_sem]
  · have hf := MapKept.run_findKey (P := Try.prog) (w := w) Try.underlying25 f1
    obtain ⟨p, hp, e1, e2⟩ := entN_mem h2 f2
    have : a = p := numV_inj (f3.symm.trans e1)
    have hd : decide (a ∈ L) = true := by simp [this, List.mem_of_getElem? hp]
    rw [hd]
    simp only [numV] at hck hf e2
    simp [Instr.lookup, run_underlying Try.underlying126, hgo, hck, hf, Result.andThen, e2]
/-- A word more. -/
theorem MapN.put {w : World} {b : Nat} {L : List Int} (h : MapN w b L) (a : Int) (ha : a ∉ L) :
    ∃ w', (Instr.mapUpdate 126 (.map (some b)) (.int .u64 a) (.agg #[])).run Try.prog w = .ok () w' ∧ MapN w' b (L ++ [a]) ∧ Keeps (fun k => k = b) w w' := by
  obtain ⟨es, clock, h1, h2⟩ := h.ex
  have hk : MapKept.IsKey (.int .u64) (numV a) := rfl
  have hgo := MapKept.run_getObj_map (P := Try.prog) h1
  have hck := fun e => MapKept.run_checkKey (P := Try.prog) (w := w) Try.underlying25 hk e 9999
  rcases MapKept.findNow_spec hk es.toList 0 (entN_keys h2) with ⟨f1, f2⟩ | ⟨j, e, f1, f2, f3⟩
  · have hf := MapKept.run_findKey (P := Try.prog) (w := w) Try.underlying25 f1
    have hso := MapKept.run_setObj_map (P := Try.prog) (.map (es.push { key := numV a, val := .agg #[], born := clock }) (clock + 1)) h1
    refine ⟨{ w with heap := w.heap.setIfInBounds b (.map (es.push { key := numV a, val := .agg #[], born := clock }) (clock + 1)) }, ?_, ⟨_, _, (MapKept.heap_set h1).1, ?_⟩, ?_⟩
    · simp only [numV] at hck hf hso
      simp [Instr.mapUpdate, run_underlying Try.underlying126, hgo, hck, hf, hso, Result.andThen, numV]
    · simp [h2]
    · exact ⟨rfl, rfl, rfl, by simp, fun k hk hs => (MapKept.heap_set h1).2 k hs⟩
  · obtain ⟨p, hp, e1, e2⟩ := entN_mem h2 f2
    have : a = p := numV_inj (f3.symm.trans e1)
    exact absurd (this ▸ List.mem_of_getElem? hp) ha
@[go_sem] theorem run_mkMapN (w : World) : (Instr.makeMap 126 none).run Try.prog w = .ok (.map (some w.heap.size)) (w.alloc (.map #[] 0)) := by
  simp [Instr.makeMap, Result.andThen]
theorem MapN.new (w : World) : MapN (w.alloc (.map #[] 0)) w.heap.size [] := ⟨#[], 0, (MapKept.heap_alloc w (.map #[] 0)).1, rfl⟩

/-- Pointers as values; a row of them of the call's own. -/
def ptrV (q : Nat) : Value := .pointer (some ⟨q, 0, none⟩)
theorem info_ptr : (Try.prog.info? 104).map (fun i => (i.zero, i.size, i.bytes)) = some (some (.pointer none), 1, 8) := by kernel_rfl
def Pr (w : World) (base : Nat) (v : Value) (l : List Nat) : Prop := w.ownsRow base 104 1 v l.length (l.map ptrV)
theorem Pr.nil (w : World) (base : Nat) : Pr w base (.slice none 0 0) [] := ⟨rfl, .inl ⟨rfl, rfl⟩⟩
theorem Pr.form {w : World} {base : Nat} {v : Value} {l : List Nat} (h : Pr w base v l) : ∃ a c, v = .slice a l.length c := by
  rcases id h.2 with ⟨h1, h2⟩ | ⟨g, cap, cur, rfl, _⟩
  · exact ⟨none, 0, by rw [h1, h2]⟩
  · exact ⟨_, cap, rfl⟩
theorem Pr.at {w : World} {base : Nat} {a : Option Addr} {n c : Nat} {l : List Nat} (h : Pr w base (.slice a n c) l) (i : Nat) (hi : i < l.length) : ∃ g, a = some ⟨g, 0, none⟩ ∧ w.cell? ⟨g, i, none⟩ = some (ptrV (l[i])) := by
  rcases id h.2 with ⟨h1, h2⟩ | ⟨g, cap, cur, hv, _⟩
  · omega
  · rw [hv] at h
    injection hv with hv1 hv2 hv3
    refine ⟨g, hv1, ?_⟩
    have q := World.ownsRow.cellAt h i (by omega)
    rw [q]
    simp [hi]
theorem Pr.keeps {w w' : World} {base : Nat} {v : Value} {l : List Nat} {S : Nat → Prop} (h : Pr w base v l) (k : Keeps S w w') (hs : ∀ g, v.ownBlock = some g → ¬ S g) : Pr w' base v l := own_keeps h k hs
theorem Pr.push {w : World} {base : Nat} {v : Value} {l : List Nat} (h : Pr w base v l) (hb : base ≤ w.heap.size) (hl : l.length < 17592186044415) (q : Nat) :
    ∃ v' w', (Builtin.append_ #[100, 100] 100 #[v, .slice (some ⟨w.heap.size, 0, none⟩) 1 1]).run Try.prog (w.alloc (.cells #[.pointer (some ⟨q, 0, none⟩)] 104)) = .ok v' w' ∧ Pr w' base v' (l ++ [q]) ∧ Keeps (fun g => v.ownBlock = some g) w w' ∧ (v'.ownBlock = v.ownBlock ∨ ∀ g, v'.ownBlock = some g → w.heap.size ≤ g) := by
  have h0 : (w.alloc (.cells #[.pointer (some ⟨q, 0, none⟩)] 104)).ownsRow base 104 1 v l.length (l.map ptrV) := own_keeps h ((Keeps.refl (fun _ => False) w).alloc _) (fun _ _ f => f)
  obtain ⟨v', w', r1, r2, r3, r4⟩ := own_push (P := Try.prog) (w.alloc (.cells #[.pointer (some ⟨q, 0, none⟩)] 104)) base 100 100 104 (.pointer none) 1 8 Try.underlying100 info_ptr rfl (by decide) v l.length (l.map ptrV) h0 ⟨w.heap.size, 0, none⟩ 1 1 [.pointer (some ⟨q, 0, none⟩)] rfl (fun j u hj => by
    obtain rfl : j = 0 := by
      have := (List.getElem?_eq_some_iff.1 hj).1
      simpa using this
    simp at hj
    subst hj
    rw [addr_add]
    exact cell_of_block (alloc_block w _) 0) (fun u hu => by simp at hu; subst hu; rfl) (by omega) (by decide) (by simp; omega)
  refine ⟨v', w', r1, ?_, ((Keeps.refl _ w).alloc _).trans (keeps_grown r3), ?_⟩
  · unfold Pr
    rw [List.map_append, List.length_append]
    exact r2
  · rcases r4 with r4 | r4
    · exact .inl r4
    · refine .inr fun g hg => ?_
      have := r4 g hg
      simp at this
      omega

theorem ne_ty {w : World} {a b : Nat} {c1 c2 : Array Value} {t1 t2 : TypeId} {f1 f2 : Nat × Nat} (h1 : w.heap[a]? = some (.cells c1 t1 f1)) (h2 : w.heap[b]? = some (.cells c2 t2 f2)) (h : t1 ≠ t2) : a ≠ b := by
  rintro rfl
  rw [h1] at h2
  injection h2 with h2
  injection h2 with _ h3
  exact h h3
theorem ne_map {w : World} {a b : Nat} {c1 : Array Value} {t1 : TypeId} {f1 : Nat × Nat} {es : Array MapEntry} {n : Nat} (h1 : w.heap[a]? = some (.cells c1 t1 f1)) (h2 : w.heap[b]? = some (.map es n)) : a ≠ b := by
  rintro rfl
  rw [h1] at h2
  injection h2 with h2
  cases h2
/-- The words that led to these nodes. -/
def seenL (F : List Tr) : List Int := F.map fun t => uw (t.at_ + 1)
/-- The record of a heap that is gone over: in the block k0, its set in mb, the nodes F found, where they lie qs, the row v of them. -/
structure WlAt (w : World) (b g k0 mb base : Nat) (cn : Int) (F : List Tr) (qs : List Nat) (v : Value) : Prop where
  box : Blk w k0 128 #[.iface 24 (.pointer (some ⟨b, 0, none⟩)), .int .u64 cn, .map (some mb), v]
  map : MapN w mb (seenL F)
  row : Pr w base v qs
  len : qs.length = F.length
  trees : ∀ (i q : Nat) (t : Tr), qs[i]? = some q → F[i]? = some t → TrAt w q t
  hi : ∀ (i q : Nat), qs[i]? = some q → base ≤ q
  lo : b < base ∧ g < base ∧ base ≤ k0 ∧ base ≤ mb ∧ base ≤ w.heap.size
  few : (F.length : Int) ≤ cn ∧ cn ≤ 2147483647
/-- What a step of the walk may write. -/
def wlS (b g k0 mb : Nat) (v : Value) (i : Nat) : Prop := two b g i ∨ i = k0 ∨ i = mb ∨ v.ownBlock = some i
section
variable {w w' : World} {b g k0 mb base : Nat} {cn : Int} {F : List Tr} {qs : List Nat} {v : Value}
theorem Pr.block (h : Pr w base v qs) {i : Nat} (hi : v.ownBlock = some i) : base ≤ i ∧ ∃ cur, w.heap[i]? = some (.cells cur 104 (0, 0)) := by
  rcases id h.2 with ⟨h1, h2⟩ | ⟨g, cap, cur, rfl, h1, h2, _⟩
  · rw [h1] at hi; cases hi
  · have e : g = i := by simpa [Value.ownBlock] using hi
    subst e
    exact ⟨h1, cur, h2⟩
theorem WlAt.kept {S : Nat → Prop} (h : WlAt w b g k0 mb base cn F qs v) (k : Keeps S w w') (hS : ∀ i, base ≤ i → i < w.heap.size → ¬ S i) : WlAt w' b g k0 mb base cn F qs v := by
  refine ⟨h.box.kept k (hS _ h.lo.2.2.1 h.box.lt), h.map.keeps k (hS _ h.lo.2.2.2.1 h.map.lt), h.row.keeps k (fun i hi => ?_), h.len, fun i q t hq ht => (h.trees i q t hq ht).kept k (hS _ (h.hi i q hq) (h.trees i q t hq ht).lt), h.hi, ⟨h.lo.1, h.lo.2.1, h.lo.2.2.1, h.lo.2.2.2.1, Nat.le_trans h.lo.2.2.2.2 k.size⟩, h.few⟩
  obtain ⟨h1, cur, h2⟩ := h.row.block hi
  exact hS i h1 (lt_of_block h2)
theorem WlAt.two (h : WlAt w b g k0 mb base cn F qs v) (k : Keeps (two b g) w w') : WlAt w' b g k0 mb base cn F qs v := h.kept k (fun i hi _ f => by have := h.lo; rcases f with f | f <;> omega)
theorem WlAt.new (h : WlAt w b g k0 mb base cn F qs v) (k : Keeps (fun _ => False) w w') : WlAt w' b g k0 mb base cn F qs v := h.kept k (fun _ _ _ f => f)
end
end Go.Proofs.Ytalopkllldnipaa
