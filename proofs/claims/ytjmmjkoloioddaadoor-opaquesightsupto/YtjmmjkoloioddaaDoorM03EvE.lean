/-
  No statement of the seat is proved here. (Several texts in one: EvE, EvF, EvG, EvH.)
-/
import Derived.Test.YtjmmjkoloioddaaDoorEvD

/- A course and its threads as they lie; walks of turn, locked, numbered, owned (package events). No statement of the seat is proved here. -/
namespace Go.Proofs.YtjmmjkoloioddaaDoor
open Go.RowKit Go.Shelf

theorem turn_table (st : Nat) (h0 : 1 ≤ st) (h1 : st ≤ 4) (e : Ev) (k0 : 1 ≤ e.kd) (k1 : e.kd ≤ 12) (hn : ¬ (st = 1 ∧ e.kd = 9 ∧ e.er ≠ 4)) : turnT st e.kd.toNat = (turnN st e : Int) := by
  have hst : st = 1 ∨ st = 2 ∨ st = 3 ∨ st = 4 := by omega
  obtain ⟨th, kd, ad, wd, own, er⟩ := e
  dsimp only at *
  rcases hst with rfl | rfl | rfl | rfl <;> rcases kd12 k0 k1 with rfl | rfl | rfl | rfl | rfl | rfl | rfl | rfl | rfl | rfl | rfl | rfl
  all_goals first | rfl | (have h4 : er = 4 := by simpa using hn
                           subst h4; rfl)
theorem turn_none {e : Ev} (h9 : e.kd = 9) (h4 : e.er ≠ 4) : turnN 1 e = 0 := by unfold turnN; rw [if_pos rfl, h9]; simp [h4]

set_option maxRecDepth 100000 in
set_option maxHeartbeats 2000000 in
theorem turn_any (c o st : Nat) (h0 : 1 ≤ st) (h1 : st ≤ 4) (e : Ev) (k0 : 1 ≤ e.kd) (k1 : e.kd ≤ 12) (w : World) (hc : w.cell? ⟨c, o, none⟩ = some (.int .i64 (st : Int))) (hg : Gv w) :
    Calls Tryd.prog 73 #[.pointer (some ⟨c, o, none⟩), .agg e.cells] w fun ex w' => ex = .returned (.int .i64 (turnN st e : Int)) ∧ Keeps (fun _ => False) w w' := by
  have hT := turn_table st h0 h1 e k0 k1
  have hN := @turn_none e
  have ct := hg.tn st e.kd.toNat (by omega) (by omega)
  generalize turnT st e.kd.toNat = tt at *
  generalize hq : turnN st e = tn at *
  obtain ⟨th, kd, ad, wd, own, er⟩ := e
  dsimp only at *
  obtain ⟨k, rfl⟩ : ∃ k : Nat, kd = k := ⟨kd.toNat, by omega⟩
  have hk13 : (k : Int) < 13 := by omega
  have hs5 : (st : Int) < 5 := by omega
  have hs0 : (0 : Int) ≤ st := by omega
  have hk0 : (0 : Int) ≤ k := by omega
  have hcl := World.block_lt_of_cell? _ _ hc
  have hgl := World.block_lt_of_cell? _ _ ct
  simp only [Int.toNat_natCast] at ct
  have kk := (Keeps.refl (fun _ => False) w).alloc (.cells #[.int .i64 th, .int .i64 k, .int .u64 ad, .int .u64 wd, .bool own, .int .i64 er] 44)
  clear hg
  show Calls Tryd.prog 73 #[.pointer (some ⟨c, o, none⟩), .agg #[.int .i64 th, .int .i64 k, .int .u64 ad, .int .u64 wd, .bool own, .int .i64 er]] w fun ex w' => ex = .returned (.int .i64 (tn : Int)) ∧ Keeps (fun _ => False) w w'
  by_cases hx : st = 1 ∧ (k : Int) = 9 ∧ er ≠ 4
  · obtain ⟨rfl, hk9, he⟩ := hx
    obtain rfl : k = 9 := by omega
    obtain rfl : tn = 0 := by rw [← hq]; exact hN rfl he
    clear hT hN hq ct
    go_enter Tryd.func73, Tryd.ntmps73
    go_wp2_with fail
    go_ret
    exact ⟨rfl, kk⟩
  · have hT2 := hT hx
    clear hT hN hq
    subst hT2
    have hcond : (st ≠ 1) ∨ (st = 1 ∧ k ≠ 9) ∨ (st = 1 ∧ k = 9 ∧ er = 4) := by omega
    clear hx
    rcases hcond with h | ⟨rfl, h⟩ | ⟨rfl, rfl, rfl⟩
    · have h' : ¬ (st : Int) = 1 := by omega
      clear h
      go_enter Tryd.func73, Tryd.ntmps73
      go_wp2_with fail
      go_quiet (fail)
      go_wp2_with fail
      go_ret
      exact ⟨rfl, kk.drewN _⟩
    · have h' : ¬ (k : Int) = 9 := by omega
      clear h
      go_enter Tryd.func73, Tryd.ntmps73
      go_wp2_with fail
      go_quiet (fail)
      go_wp2_with fail
      go_ret
      exact ⟨rfl, kk.drewN _⟩
    · go_enter Tryd.func73, Tryd.ntmps73
      go_wp2_with fail
      go_quiet (fail)
      go_wp2_with fail
      go_ret
      exact ⟨rfl, kk.drewN _⟩

set_option maxRecDepth 100000 in
set_option maxHeartbeats 2000000 in
theorem locked_any (c : Nat) (hd : Bool) (kd : Int) (w : World) (hc : w.cell? ⟨c, 1, none⟩ = some (.bool hd)) :
    Calls Tryd.prog 74 #[.pointer (some ⟨c, 0, none⟩), .int .i64 kd] w fun ex w' => ex = .returned (.bool (hd && clkB kd)) ∧ w' = w := by
  cases hd
  · go_enter Tryd.func74, Tryd.ntmps74
    go_wp2_with fail
    go_ret
    exact ⟨rfl, rfl⟩
  · by_cases h1 : kd = 1
    · subst h1
      go_enter Tryd.func74, Tryd.ntmps74
      go_wp2_with fail
      go_ret
      exact ⟨rfl, rfl⟩
    · by_cases h4 : kd = 4
      · subst h4
        go_enter Tryd.func74, Tryd.ntmps74
        go_wp2_with fail
        go_ret
        exact ⟨rfl, rfl⟩
      · go_enter Tryd.func74, Tryd.ntmps74
        go_wp2_with fail
        go_ret
        exact ⟨by rw [show (kd == 1) = false from beq_eq_false_iff_ne.2 h1, show (kd == 4) = false from beq_eq_false_iff_ne.2 h4]; simp [clkB, h1, h4]; rfl, rfl⟩

set_option maxRecDepth 100000 in
set_option maxHeartbeats 4000000 in
theorem numbered_any (c o : Nat) (n sn : Int) (st : Nat) (wr : List (Int × Int)) (e : Ev) (w : World) (hn0 : 0 ≤ n) (hn1 : n < 4611686018427387904) (hs0 : 0 ≤ sn) (hs1 : sn < 18446744073709551616) (cn : w.cell? ⟨c, 0, none⟩ = some (.int .u64 n)) (c0 : w.cell? ⟨c, o, none⟩ = some (.int .i64 (st : Int))) (c1 : w.cell? ⟨c, o + 1, none⟩ = some (.int .u64 sn)) :
    Calls Tryd.prog 75 #[.pointer (some ⟨c, 0, none⟩), .pointer (some ⟨c, o, none⟩), .agg e.cells] w fun ex w' => ex = .returned (.bool (numE n ⟨st, sn, wr⟩ e)) ∧ Keeps (fun _ => False) w w' := by
  obtain ⟨th, kd, ad, wd, own, er⟩ := e
  have hcl := World.block_lt_of_cell? _ _ cn
  have kk := (Keeps.refl (fun _ => False) w).alloc (.cells #[.int .i64 th, .int .i64 kd, .int .u64 ad, .int .u64 wd, .bool own, .int .i64 er] 44)
  show Calls Tryd.prog 75 #[.pointer (some ⟨c, 0, none⟩), .pointer (some ⟨c, o, none⟩), .agg #[.int .i64 th, .int .i64 kd, .int .u64 ad, .int .u64 wd, .bool own, .int .i64 er]] w fun ex w' => ex = .returned (.bool (numE n ⟨st, sn, wr⟩ ⟨th, kd, ad, wd, own, er⟩)) ∧ Keeps (fun _ => False) w w'
  by_cases h1 : kd = 1
  · subst h1
    go_enter Tryd.func75, Tryd.ntmps75
    go_wp2_with fail
    go_quiet (fail)
    go_wp2_with fail
    go_ret
    exact ⟨by simp [numE]; rfl, kk.drewN _⟩
  · by_cases h4 : kd = 4
    · subst h4
      by_cases hw : wd = 2 * n
      · have hw2 : (wd == 2 * n) = true := by simp [hw]
        clear hw
        go_enter Tryd.func75, Tryd.ntmps75
        go_wp2_with fail
        go_quiet (fail)
        go_wp2_with fail
        go_ret
        exact ⟨by have hw := eq_of_beq hw2; simp [numE, hw], kk.drewN _⟩
      · have hw2 : (wd == 2 * n) = false := by simp [hw]
        go_enter Tryd.func75, Tryd.ntmps75
        go_wp2_with fail
        go_quiet (fail)
        go_wp2_with fail
        go_ret
        exact ⟨by simp [numE, hw], kk.drewN _⟩
    · by_cases h5 : kd = 5
      · subst h5
        go_enter Tryd.func75, Tryd.ntmps75
        go_wp2_with fail
        go_quiet (fail)
        go_wp2_with fail
        go_ret
        exact ⟨by simp [numE]; rfl, kk.drewN _⟩
      · by_cases h6 : kd = 6
        · subst h6
          by_cases hst : st = 3
          · subst hst
            go_enter Tryd.func75, Tryd.ntmps75
            go_wp2_with fail
            go_quiet (fail)
            go_wp2_with fail
            go_ret
            exact ⟨by simp [numE]; rfl, kk.drewN _⟩
          · have hst2 : ¬ (st : Int) = 3 := by omega
            go_enter Tryd.func75, Tryd.ntmps75
            go_wp2_with fail
            go_quiet (fail)
            go_wp2_with fail
            go_ret
            exact ⟨by simp [numE, hst]; rfl, kk.drewN _⟩
        · go_enter Tryd.func75, Tryd.ntmps75
          go_wp2_with fail
          go_ret
          exact ⟨by simp [numE, h1, h4, h5, h6], kk⟩
end Go.Proofs.YtjmmjkoloioddaaDoor


/- Words in a map; a course as it lies; walks of owned, refusal (package events). No statement of the seat is proved here. -/
namespace Go.Proofs.YtjmmjkoloioddaaDoor
open Go.RowKit Go.Shelf

def numV (a : Int) : Value := .int .u64 a
theorem lookup_of_mem {L : List (Int × Int)} (hn : (L.map (·.1)).Nodup) {p : Int × Int} (hp : p ∈ L) : L.lookup p.1 = some p.2 := by
  induction L with
  | nil => simp at hp
  | cons q L ih =>
    simp only [List.map_cons, List.nodup_cons] at hn
    rcases List.mem_cons.1 hp with rfl | hp2
    · obtain ⟨a, b⟩ := p; simp [List.lookup]
    · obtain ⟨a, b⟩ := q
      have : (p.1 == a) = false := by
        rw [beq_eq_false_iff_ne]
        rintro rfl
        exact hn.1 (List.mem_map.2 ⟨p, hp2, rfl⟩)
      rw [List.lookup, this]
      exact ih hn.2 hp2
theorem lookup_of_not {L : List (Int × Int)} {x : Int} (h : x ∉ L.map (·.1)) : L.lookup x = none := by
  rw [List.lookup_eq_none_iff]
  intro p hp
  simp only [bne_iff_ne, ne_eq]
  rintro rfl
  exact h (List.mem_map.2 ⟨p, hp, rfl⟩)
theorem lookup_set : ∀ (L : List (Int × Int)) (j : Nat) (a x z : Int), (L.map (·.1)).Nodup → L[j]? = some (a, z) → ∀ y, (L.set j (a, x)).lookup y = if y = a then some x else L.lookup y
  | [], j, a, x, z, _, h => by simp at h
  | (b, u) :: L, 0, a, x, z, _, h => by
    simp at h
    obtain ⟨rfl, rfl⟩ := h
    intro y
    by_cases hy : y = b
    · subst hy; simp
    · have : (y == b) = false := by simp [hy]
      simp [List.lookup, this, hy]
  | (b, u) :: L, j + 1, a, x, z, hn, h => by
    simp only [List.map_cons, List.nodup_cons] at hn
    simp at h
    intro y
    have ih := lookup_set L j a x z hn.2 h y
    have hab : a ≠ b := by
      rintro rfl
      exact hn.1 (List.mem_map.2 ⟨(a, z), List.mem_of_getElem? h, rfl⟩)
    rw [List.set_cons_succ, List.lookup, List.lookup]
    by_cases hy : y = b
    · subst hy
      have : ¬ y = a := fun e => hab e.symm
      simp [this]
    · have : (y == b) = false := by simp [hy]
      rw [this]; exact ih
/-- Words in a map: which word stands at an address. -/
structure MapU (w : World) (b : Nat) (f : Int → Option Int) : Prop where
  ex : ∃ (es : Array MapEntry) (clock : Nat) (L : List (Int × Int)), w.heap[b]? = some (.map es clock) ∧ es.toList.map (fun x => (x.key, x.val)) = L.map (fun p => (numV p.1, numV p.2)) ∧ (L.map (·.1)).Nodup ∧ (∀ y, L.lookup y = f y)
theorem MapU.keeps {w w' : World} {S : Nat → Prop} {b : Nat} {f : Int → Option Int} (h : MapU w b f) (k : Keeps S w w') (hs : ¬ S b) : MapU w' b f := by
  obtain ⟨es, clock, L, h1, h2⟩ := h.ex
  exact ⟨es, clock, L, (k.block b (lt_of_block h1) hs).trans h1, h2⟩
theorem MapU.lt {w : World} {b : Nat} {f : Int → Option Int} (h : MapU w b f) : b < w.heap.size := by
  obtain ⟨es, clock, L, h1, h2⟩ := h.ex
  exact lt_of_block h1
theorem ent_mem {es : List MapEntry} {L : List (Int × Int)} (h : es.map (fun x => (x.key, x.val)) = L.map (fun p => (numV p.1, numV p.2))) {j : Nat} {x : MapEntry} (hx : es[j]? = some x) : ∃ p, L[j]? = some p ∧ x.key = numV p.1 ∧ x.val = numV p.2 := by
  have h1 : (es.map (fun x => (x.key, x.val)))[j]? = some (x.key, x.val) := by rw [List.getElem?_map, hx]; rfl
  rw [h, List.getElem?_map] at h1
  obtain ⟨p, hp, he⟩ := Option.map_eq_some_iff.1 h1
  exact ⟨p, hp, (Prod.mk.inj he).1.symm, (Prod.mk.inj he).2.symm⟩
theorem ent_keys {es : List MapEntry} {L : List (Int × Int)} (h : es.map (fun x => (x.key, x.val)) = L.map (fun p => (numV p.1, numV p.2))) : ∀ x ∈ es, MapKept.IsKey (.int .u64) x.key := fun x hx => by
  obtain ⟨j, hj⟩ := List.getElem?_of_mem hx
  obtain ⟨p, _, h1, _⟩ := ent_mem h hj
  rw [h1]; rfl
theorem numV_inj {a b : Int} (h : numV a = numV b) : a = b := by unfold numV at h; injection h
/-- What a look into the map tells. -/
def lookV (f : Int → Option Int) (a : Int) : Value := .tuple #[.int .u64 ((f a).getD 0), .bool (f a).isSome]
theorem MapU.look {w : World} {b : Nat} {f : Int → Option Int} (h : MapU w b f) (a : Int) : (Instr.lookup 114 (.map (some b)) (.int .u64 a) true).run Tryd.prog w = .ok (lookV f a) w := by
  obtain ⟨es, clock, L, h1, h2, h3, h4⟩ := h.ex
  have hk : MapKept.IsKey (.int .u64) (numV a) := rfl
  have hgo := MapKept.run_getObj_map (P := Tryd.prog) h1
  have hck := fun e => MapKept.run_checkKey (P := Tryd.prog) (w := w) Tryd.underlying35 hk e 9999
  unfold lookV
  rw [← h4 a]
  rcases MapKept.findNow_spec hk es.toList 0 (ent_keys h2) with ⟨f1, f2⟩ | ⟨j, e, f1, f2, f3⟩
  · have hx : a ∉ L.map (·.1) := fun hm => by
      obtain ⟨p, hp, rfl⟩ := List.mem_map.1 hm
      have : (numV p.1, numV p.2) ∈ es.toList.map (fun x => (x.key, x.val)) := by rw [h2]; exact List.mem_map.2 ⟨p, hp, rfl⟩
      obtain ⟨y, hy, he⟩ := List.mem_map.1 this
      exact f2 y hy (Prod.mk.inj he).1
    have hf := MapKept.run_findKey (P := Tryd.prog) (w := w) Tryd.underlying35 f1
    rw [lookup_of_not hx]
    simp only [numV] at hck hf
    simp [Instr.lookup, run_underlying Tryd.underlying114, hgo, hck, hf, Result.andThen, go_sem]
  · have hf := MapKept.run_findKey (P := Tryd.prog) (w := w) Tryd.underlying35 f1
    obtain ⟨p, hp, e1, e2⟩ := ent_mem h2 f2
    have : a = p.1 := numV_inj (f3.symm.trans e1)
    rw [this, lookup_of_mem h3 (List.mem_of_getElem? hp)]
    simp only [numV, this] at hck hf e2
    simp [Instr.lookup, run_underlying Tryd.underlying114, hgo, hck, hf, Result.andThen, e2]
/-- A word more. -/
theorem MapU.put {w : World} {b : Nat} {f : Int → Option Int} (h : MapU w b f) (a x : Int) :
    ∃ w', (Instr.mapUpdate 114 (.map (some b)) (.int .u64 a) (.int .u64 x)).run Tryd.prog w = .ok () w' ∧ MapU w' b (fun y => if y = a then some x else f y) ∧ Keeps (fun k => k = b) w w' := by
  obtain ⟨es, clock, L, h1, h2, h3, h4⟩ := h.ex
  have hk : MapKept.IsKey (.int .u64) (numV a) := rfl
  have hgo := MapKept.run_getObj_map (P := Tryd.prog) h1
  have hck := fun e => MapKept.run_checkKey (P := Tryd.prog) (w := w) Tryd.underlying35 hk e 9999
  rcases MapKept.findNow_spec hk es.toList 0 (ent_keys h2) with ⟨f1, f2⟩ | ⟨j, e, f1, f2, f3⟩
  · have hf := MapKept.run_findKey (P := Tryd.prog) (w := w) Tryd.underlying35 f1
    have hx : a ∉ L.map (·.1) := fun hm => by
      obtain ⟨p, hp, rfl⟩ := List.mem_map.1 hm
      have : (numV p.1, numV p.2) ∈ es.toList.map (fun x => (x.key, x.val)) := by rw [h2]; exact List.mem_map.2 ⟨p, hp, rfl⟩
      obtain ⟨y, hy, he⟩ := List.mem_map.1 this
      exact f2 y hy (Prod.mk.inj he).1
    have hso := MapKept.run_setObj_map (P := Tryd.prog) (.map (es.push { key := numV a, val := numV x, born := clock }) (clock + 1)) h1
    refine ⟨{ w with heap := w.heap.setIfInBounds b (.map (es.push { key := numV a, val := numV x, born := clock }) (clock + 1)) }, ?_, ⟨_, _, L ++ [(a, x)], (MapKept.heap_set h1).1, ?_, ?_, ?_⟩, ?_⟩
    · simp only [numV] at hck hf hso
      simp [Instr.mapUpdate, run_underlying Tryd.underlying114, hgo, hck, hf, hso, Result.andThen, numV]
    · simp [h2]
    · rw [List.map_append, List.nodup_append]
      refine ⟨h3, by simp, ?_⟩
      intro u hu v hv
      simp only [List.map_cons, List.map_nil, List.mem_singleton] at hv
      subst hv
      rintro rfl
      exact hx hu
    · intro y
      rw [List.lookup_append, h4]
      by_cases hy : y = a
      · subst hy; rw [← h4, lookup_of_not hx]; simp [List.lookup]
      · have : (y == a) = false := by simp [hy]
        simp [List.lookup, this, hy]
    · refine ⟨rfl, rfl, rfl, by simp, fun k hk hs => ?_⟩
      exact (MapKept.heap_set h1).2 k hs
  · have hf := MapKept.run_findKey (P := Tryd.prog) (w := w) Tryd.underlying35 f1
    obtain ⟨p, hp, e1, e2⟩ := ent_mem h2 f2
    have hap : a = p.1 := numV_inj (f3.symm.trans e1)
    have hso := MapKept.run_setObj_map (P := Tryd.prog) (.map (es.modify j fun e => { e with key := numV a, val := numV x }) clock) h1
    have hej : es[j]? = some e := by simpa using f2
    have hsb : Instr.sameBits 10000 (Value.int .u64 a) (Value.int .u64 a) = true := by rw [show (10000 : Nat) = 9999 + 1 from rfl, Instr.sameBits]; simp
    refine ⟨{ w with heap := w.heap.setIfInBounds b (.map (es.modify j fun e => { e with key := numV a, val := numV x }) clock) }, ?_, ⟨_, _, L.set j (a, x), (MapKept.heap_set h1).1, ?_, ?_, ?_⟩, ?_⟩
    · simp only [numV] at hck hf hso f3
      simp [Instr.mapUpdate, run_underlying Tryd.underlying114, hgo, hck, hf, hso, Result.andThen, hej, f3, Instr.keyThatStays, hsb, numV]
    · apply List.ext_getElem?
      intro i
      have hl := congrArg (fun l : List (Value × Value) => l[i]?) h2
      simp only [List.getElem?_map] at hl ⊢
      rw [List.getElem?_set]
      by_cases hi : j = i
      · subst hi
        have hjl : j < L.length := (List.getElem?_eq_some_iff.1 hp).1
        simp [hej, hjl]
      · simp only [hi, if_false]
        rw [← hl]
        simp [hi]
    · have : (L.set j (a, x)).map (·.1) = L.map (·.1) := by
        apply List.ext_getElem?
        intro i
        simp only [List.getElem?_map, List.getElem?_set]
        by_cases hi : j = i
        · subst hi
          have hjl : j < L.length := (List.getElem?_eq_some_iff.1 hp).1
          simp only [if_true, hjl, Option.map_some]
          rw [hp, hap]; rfl
        · simp [hi]
      rw [this]; exact h3
    · intro y
      rw [lookup_set L j a x p.2 h3 (by rw [hp, hap]) y, h4]
    · refine ⟨rfl, rfl, rfl, by simp, fun k hk hs => ?_⟩
      exact (MapKept.heap_set h1).2 k hs
end Go.Proofs.YtjmmjkoloioddaaDoor


/- A course as it lies; walks of owned, refusal (package events). No statement of the seat is proved here. -/
namespace Go.Proofs.YtjmmjkoloioddaaDoor
open Go.RowKit Go.Shelf

/-- The Writes of a thread in its map, or none. -/
def MapW (w : World) (m : Option Nat) (wr : List (Int × Int)) : Prop := match m with
  | none => wr = []
  | some b => MapU w b (fun y => wr.lookup y) ∧ wr ≠ []
theorem MapW.keeps {w w' : World} {S : Nat → Prop} {m : Option Nat} {wr : List (Int × Int)} (h : MapW w m wr) (k : Keeps S w w') (hs : ∀ b, m = some b → ¬ S b) : MapW w' m wr := by
  cases m with
  | none => exact h
  | some b => exact ⟨h.1.keeps k (hs b rfl), h.2⟩
theorem MapW.look {w : World} {m : Option Nat} {wr : List (Int × Int)} (h : MapW w m wr) (a : Int) : (Instr.lookup 114 (.map m) (.int .u64 a) true).run Tryd.prog w = .ok (lookV (fun y => wr.lookup y) a) w := by
  cases m with
  | none =>
    have hw : wr = [] := h
    subst hw
    have hk : MapKept.IsKey (.int .u64) (numV a) := rfl
    have hck := fun e => MapKept.run_checkKey (P := Tryd.prog) (w := w) Tryd.underlying35 hk e 9999
    have hf := MapKept.run_findKey (P := Tryd.prog) (w := w) (l := []) (k := numV a) Tryd.underlying35 (a := none) rfl
    simp only [numV] at hck hf
    simp [Instr.lookup, run_underlying Tryd.underlying114, hck, hf, Result.andThen, go_sem, lookV]
  | some b => exact h.1.look a
theorem MapW.len {w : World} {m : Option Nat} {wr : List (Int × Int)} (h : MapW w m wr) : ∃ n : Nat, (∀ X, Keeps (fun _ => False) w X → (Builtin.len_ #[114] 3 #[.map m]).run Tryd.prog X = .ok (.int .i64 (n : Int)) X) ∧ (n = 0 ↔ wr = []) := by
  cases m with
  | none =>
    refine ⟨0, fun X _ => ?_, by simpa [MapW] using h⟩
    simp [Builtin.len_, run_underlying Tryd.underlying114, Result.andThen, goInt]
  | some b =>
    obtain ⟨es, clock, L, h1, h2, h3, h4⟩ := h.1.ex
    refine ⟨es.size, fun X k => ?_, ?_⟩
    · have h5 := (k.block b (lt_of_block h1) (fun f => f)).trans h1
      have hgo := MapKept.run_getObj_map (P := Tryd.prog) h5
      simp [Builtin.len_, run_underlying Tryd.underlying114, hgo, Result.andThen, goInt]
    · have hl := congrArg List.length h2
      simp at hl
      rw [hl]
      constructor
      · intro hz
        have : L = [] := List.length_eq_zero_iff.1 hz
        subst this
        have hw := h.2
        cases hwr : wr with
        | nil => rfl
        | cons p r =>
          have := h4 p.1
          rw [hwr] at this
          obtain ⟨a, x⟩ := p
          simp [List.lookup] at this
      · intro hz; exact absurd hz h.2

/-- A course as it lies: its cells, the threads' maps. -/
structure Crs (w : World) (base c : Nat) (S : St) (m : Nat → Option Nat) : Prop where
  len : S.t.length = 8
  blk : ∃ cs, w.heap[c]? = some (.cells cs 156 (0, 0)) ∧ cs.size = 26 ∧ cs[0]? = some (.int .u64 S.n) ∧ cs[1]? = some (.bool (heldB S)) ∧ ∀ i, i < 8 → cs[2 + i * 3]? = some (.int .i64 ((S.sd i).st : Int)) ∧ cs[2 + i * 3 + 1]? = some (.int .u64 (S.sd i).sn) ∧ cs[2 + i * 3 + 2]? = some (.map (m i))
  maps : ∀ i, i < 8 → MapW w (m i) (S.sd i).wr
  inj : ∀ i j b, i < 8 → j < 8 → m i = some b → m j = some b → i = j
  ne : ∀ i, i < 8 → m i ≠ some c
  base : base ≤ c ∧ ∀ i b, i < 8 → m i = some b → base ≤ b
  st : ∀ i, i < 8 → 1 ≤ (S.sd i).st ∧ (S.sd i).st ≤ 4
  sn : ∀ i, i < 8 → 0 ≤ (S.sd i).sn ∧ (S.sd i).sn < 18446744073709551616
  n : 0 ≤ S.n
/-- The blocks of a course. -/
def Crs.own (c : Nat) (m : Nat → Option Nat) (q : Nat) : Prop := q = c ∨ ∃ i, i < 8 ∧ m i = some q
theorem Crs.keeps {w w' : World} {base c : Nat} {S : St} {m : Nat → Option Nat} {T : Nat → Prop} (h : Crs w base c S m) (k : Keeps T w w') (hs : ∀ q, Crs.own c m q → ¬ T q) : Crs w' base c S m := by
  obtain ⟨cs, h1, h2⟩ := h.blk
  exact ⟨h.len, ⟨cs, (k.block c (lt_of_block h1) (hs c (.inl rfl))).trans h1, h2⟩, fun i hi => (h.maps i hi).keeps k (fun b hb => hs b (.inr ⟨i, hi, hb⟩)), h.inj, h.ne, h.base, h.st, h.sn, h.n⟩

set_option maxRecDepth 100000 in
set_option maxHeartbeats 4000000 in
theorem owned_any (c o : Nat) (st : Nat) (sn : Int) (m : Option Nat) (wr : List (Int × Int)) (e : Ev) (w : World) (c0 : w.cell? ⟨c, o, none⟩ = some (.int .i64 (st : Int))) (c2 : w.cell? ⟨c, o + 2, none⟩ = some (.map m)) (hm : MapW w m wr) :
    Calls Tryd.prog 76 #[.pointer (some ⟨c, o, none⟩), .agg e.cells] w fun ex w' => ex = .returned (.bool (ownE ⟨st, sn, wr⟩ e)) ∧ Keeps (fun _ => False) w w' := by
  obtain ⟨th, kd, ad, wd, own, er⟩ := e
  have hcl := World.block_lt_of_cell? _ _ c0
  have kk := (Keeps.refl (fun _ => False) w).alloc (.cells #[.int .i64 th, .int .i64 kd, .int .u64 ad, .int .u64 wd, .bool own, .int .i64 er] 44)
  show Calls Tryd.prog 76 #[.pointer (some ⟨c, o, none⟩), .agg #[.int .i64 th, .int .i64 kd, .int .u64 ad, .int .u64 wd, .bool own, .int .i64 er]] w fun ex w' => ex = .returned (.bool (ownE ⟨st, sn, wr⟩ ⟨th, kd, ad, wd, own, er⟩)) ∧ Keeps (fun _ => False) w w'
  by_cases h2 : kd = 2
  · subst h2
    have hO : ownE ⟨st, sn, wr⟩ ⟨th, 2, ad, wd, own, er⟩ = if own then ((wr.lookup ad).isSome && ((wr.lookup ad).getD 0 == wd)) else !(wr.lookup ad).isSome := by
      unfold ownE
      rw [if_pos rfl]
      dsimp only
      cases wr.lookup ad <;> cases own <;> simp
      rfl
    rw [hO]
    have hlk : ∀ X, Keeps (fun _ => False) w X → (Instr.lookup 114 (.map m) (.int .u64 ad) true).run Tryd.prog X = .ok (.tuple #[.int .u64 ((wr.lookup ad).getD 0), .bool (wr.lookup ad).isSome]) X := fun X kx => (hm.keeps kx (fun _ _ f => f)).look ad
    generalize (wr.lookup ad).getD 0 = x at *
    generalize (wr.lookup ad).isSome = bb at *
    have hl2 : ∀ n, (Instr.lookup 114 (.map m) (.int .u64 ad) true).run Tryd.prog ((w.alloc (.cells #[.int .i64 th, .int .i64 2, .int .u64 ad, .int .u64 wd, .bool own, .int .i64 er] 44)).drewN n) = .ok (.tuple #[.int .u64 x, .bool bb]) ((w.alloc (.cells #[.int .i64 th, .int .i64 2, .int .u64 ad, .int .u64 wd, .bool own, .int .i64 er] 44)).drewN n) := fun n => hlk _ (kk.drewN n)
    clear hm hlk hO
    cases own <;> cases bb
    all_goals
      go_enter Tryd.func76, Tryd.ntmps76
      go_wp2_with fail
      go_quiet (fail)
      go_wp2_with fail
      go_ret
      exact ⟨by simp, kk.drewN _⟩
  · obtain ⟨n, hn, hz⟩ := hm.len
    have hn2 := hn _ kk
    clear hn hm
    by_cases h5 : kd = 5
    · subst h5
      have hO : ownE ⟨st, sn, wr⟩ ⟨th, 5, ad, wd, own, er⟩ = decide (0 < n) := by
        unfold ownE
        simp only [if_true]
        by_cases hw : wr = []
        · have := hz.2 hw; subst this; simp [hw]
        · have : n ≠ 0 := fun h => hw (hz.1 h)
          simp [hw]; omega
      rw [hO]
      clear hO hz
      go_enter Tryd.func76, Tryd.ntmps76
      go_wp2_with fail
      go_ret
      exact ⟨rfl, kk⟩
    · by_cases h6 : kd = 6
      · subst h6
        have hO : ownE ⟨st, sn, wr⟩ ⟨th, 6, ad, wd, own, er⟩ = (decide (st = 3) || decide (n = 0)) := by
          unfold ownE
          simp only [if_true]
          by_cases hw : wr = []
          · have := hz.2 hw; subst this; simp [hw]
          · have : n ≠ 0 := fun h => hw (hz.1 h)
            simp [hw, this]
        rw [hO]
        clear hO hz
        by_cases hst : st = 3
        · subst hst
          go_enter Tryd.func76, Tryd.ntmps76
          go_wp2_with fail
          go_ret
          exact ⟨rfl, kk⟩
        · have hst2 : ¬ (st : Int) = 3 := by omega
          go_enter Tryd.func76, Tryd.ntmps76
          go_wp2_with fail
          go_ret
          exact ⟨by rw [show ((st : Int) == 3) = false from beq_eq_false_iff_ne.2 hst2, show ((n : Int) == 0) = decide (n = 0) by by_cases h : n = 0 <;> simp [h]]; simp, kk⟩
      · go_enter Tryd.func76, Tryd.ntmps76
        go_wp2_with fail
        go_ret
        exact ⟨by simp [ownE, h2, h5, h6], kk⟩
theorem Crs.cell {w : World} {base c : Nat} {S : St} {m : Nat → Option Nat} (h : Crs w base c S m) : w.cell? ⟨c, 0, none⟩ = some (.int .u64 S.n) ∧ w.cell? ⟨c, 1, none⟩ = some (.bool (heldB S)) ∧ ∀ i, i < 8 → w.cell? ⟨c, 2 + i * 3, none⟩ = some (.int .i64 ((S.sd i).st : Int)) ∧ w.cell? ⟨c, 2 + i * 3 + 1, none⟩ = some (.int .u64 (S.sd i).sn) ∧ w.cell? ⟨c, 2 + i * 3 + 2, none⟩ = some (.map (m i)) := by
  obtain ⟨cs, h1, h2, h3, h4, h5⟩ := h.blk
  refine ⟨by rw [cell_of_block h1, h3], by rw [cell_of_block h1, h4], fun i hi => ?_⟩
  obtain ⟨a, b, d⟩ := h5 i hi
  exact ⟨by rw [cell_of_block h1, a], by rw [cell_of_block h1, b], by rw [cell_of_block h1, d]⟩
set_option maxRecDepth 100000 in
set_option maxHeartbeats 4000000 in
theorem refusal_any (base c : Nat) (S : St) (m : Nat → Option Nat) (e : Ev) (w : World) (h : Crs w base c S m) (hg : Gv w) (hn : S.n < 4611686018427387904) :
    Calls Tryd.prog 57 #[.pointer (some ⟨c, 0, none⟩), .agg e.cells] w fun ex w' => ex = .returned (.int .i64 (errE S e)) ∧ Keeps (fun _ => False) w w' := by
  have F := fun W (k : Keeps (fun _ => False) w W) => formed_any e W (hg.keeps k)
  have k0 := (Keeps.refl (fun _ => False) w).alloc (.cells e.cells 44)
  have bb := (MapKept.heap_alloc w (.cells e.cells 44)).1
  have hE : errE S e = errS (heldB S) S.n (S.sd e.th.toNat) e := rfl
  unfold errS at hE
  have HC : Hid (∀ X, Keeps (fun _ => False) w X → Crs X base c S m ∧ Gv X) := fun X k => ⟨h.keeps k (fun _ _ f => f), hg.keeps k⟩
  have hn0 := h.n
  have hin := @formed_in e
  have st := h.st
  have sn := h.sn
  clear h hg
  cases hf : formedE e
  · rw [hf] at F hE
    simp only [if_true] at hE
    rw [hE]
    clear hE HC hin st sn
    obtain ⟨th, kd, ad, wd, own, er⟩ := e
    show Calls Tryd.prog 57 #[.pointer (some ⟨c, 0, none⟩), .agg #[.int .i64 th, .int .i64 kd, .int .u64 ad, .int .u64 wd, .bool own, .int .i64 er]] w fun ex w' => ex = .returned (.int .i64 201) ∧ Keeps (fun _ => False) w w'
    go_enter Tryd.func57, Tryd.ntmps57
    go_wp2_with fail
    refine (F _ k0).mono ?_
    rintro ex w1 ⟨rfl, k1⟩
    go_wp2_with fail
    go_ret
    exact ⟨rfl, k0.trans k1⟩
  · obtain ⟨t0, t1, q0, q1⟩ := hin hf
    rw [hf] at F hE
    simp only [Bool.true_eq_false, if_false] at hE
    obtain ⟨i, hi⟩ : ∃ i : Nat, e.th = i := ⟨e.th.toNat, by omega⟩
    have hi8 : i < 8 := by omega
    rw [show e.th.toNat = i by omega] at hE
    obtain ⟨st0, st1⟩ := st i hi8
    obtain ⟨sn0, sn1⟩ := sn i hi8
    have T := fun W (k : Keeps (fun _ => False) w W) => turn_any c (2 + i * 3) (S.sd i).st st0 st1 e q0 q1 W ((HC.out W k).1.cell.2.2 i hi8).1 (HC.out W k).2
    have LK := fun W (k : Keeps (fun _ => False) w W) => locked_any c (heldB S) e.kd W (HC.out W k).1.cell.2.1
    have N := fun W (k : Keeps (fun _ => False) w W) => numbered_any c (2 + i * 3) S.n (S.sd i).sn (S.sd i).st (S.sd i).wr e W hn0 hn sn0 sn1 (HC.out W k).1.cell.1 ((HC.out W k).1.cell.2.2 i hi8).1 ((HC.out W k).1.cell.2.2 i hi8).2.1
    have O := fun W (k : Keeps (fun _ => False) w W) => owned_any c (2 + i * 3) (S.sd i).st (S.sd i).sn (m i) (S.sd i).wr e W ((HC.out W k).1.cell.2.2 i hi8).1 ((HC.out W k).1.cell.2.2 i hi8).2.2 ((HC.out W k).1.maps i hi8)
    have e1 : (⟨(S.sd i).st, (S.sd i).sn, (S.sd i).wr⟩ : Sd) = S.sd i := rfl
    rw [e1] at N O
    generalize errE S e = z at *
    generalize (heldB S && clkB e.kd) = lb at *
    have HZ : Hid (z = _) := hE
    clear hE hn0 st sn hin q0 q1 e1 st0 st1 sn0 sn1 t0 t1 HC
    generalize turnN (S.sd i).st e = tn at *
    generalize numE S.n (S.sd i) e = nb at *
    generalize ownE (S.sd i) e = ob at *
    obtain ⟨th, kd, ad, wd, own, er⟩ := e
    dsimp only at hi T LK N O F bb k0 ⊢
    subst hi
    have hi0 : (0 : Int) ≤ i := by omega
    have hi8' : (i : Int) < 8 := by omega
    have CE : Hid (∀ X, Keeps (fun _ => False) (w.alloc (.cells #[.int .i64 (i : Int), .int .i64 kd, .int .u64 ad, .int .u64 wd, .bool own, .int .i64 er] 44)) X → X.cell? ⟨w.heap.size, 0, none⟩ = some (.int .i64 (i : Int)) ∧ X.cell? ⟨w.heap.size, 1, none⟩ = some (.int .i64 kd) ∧ X.cell? ⟨w.heap.size, 2, none⟩ = some (.int .u64 ad) ∧ X.cell? ⟨w.heap.size, 3, none⟩ = some (.int .u64 wd) ∧ X.cell? ⟨w.heap.size, 4, none⟩ = some (.bool own) ∧ X.cell? ⟨w.heap.size, 5, none⟩ = some (.int .i64 er)) := fun X k => by
      have b2 := (k.block _ (lt_of_block bb) (fun f => f)).trans bb
      refine ⟨?_, ?_, ?_, ?_, ?_, ?_⟩ <;> (rw [cell_of_block b2]; rfl)
    clear bb
    go_enter Tryd.func57, Tryd.ntmps57
    go_wp2_with fail
    refine (F _ k0).mono ?_
    rintro ex w1 ⟨rfl, k1⟩
    obtain ⟨a0, a1, a2, a3, a4, a5⟩ := CE.out w1 k1
    go_wp2_with fail
    go_quiet (fail)
    go_wp2_with fail
    have k2 := k1.drewN nq
    clear k1 a0 a1 a2 a3 a4 a5
    refine (T _ (k0.trans k2)).mono ?_
    rintro ex w2 ⟨rfl, k3⟩
    have k4 := k2.trans k3
    obtain ⟨a0, a1, a2, a3, a4, a5⟩ := CE.out w2 k4
    clear k2 k3 T F
    by_cases htn : tn = 0
    · subst htn
      go_wp2_with fail
      go_ret
      exact ⟨by rw [HZ.out]; rfl, k0.trans k4⟩
    · have htn2 : ¬ (tn : Int) = 0 := by omega
      have HT : Hid (tn ≠ 0) := htn
      clear htn
      go_wp2_with fail
      refine (LK _ (k0.trans k4)).mono ?_
      rintro ex w3 ⟨rfl, rfl⟩
      cases lb
      · clear LK
        go_wp2_with fail
        refine (N _ (k0.trans k4)).mono ?_
        rintro ex w4 ⟨rfl, k5⟩
        have k6 := k4.trans k5
        obtain ⟨a0, a1, a2, a3, a4, a5⟩ := CE.out w4 k6
        clear N k4 k5
        cases nb
        · go_wp2_with fail
          go_ret
          exact ⟨by rw [HZ.out, if_neg HT.out]; rfl, k0.trans k6⟩
        · go_wp2_with fail
          refine (O _ (k0.trans k6)).mono ?_
          rintro ex w5 ⟨rfl, k7⟩
          have k8 := k6.trans k7
          clear O k6 k7
          cases ob
          · go_wp2_with fail
            go_ret
            exact ⟨by rw [HZ.out, if_neg HT.out]; rfl, k0.trans k8⟩
          · go_wp2_with fail
            go_ret
            exact ⟨by rw [HZ.out, if_neg HT.out]; rfl, k0.trans k8⟩
      · go_wp2_with fail
        go_ret
        exact ⟨by rw [HZ.out, if_neg HT.out]; rfl, k0.trans k4⟩
end Go.Proofs.YtjmmjkoloioddaaDoor


/- Walks of start, take, Check (package events). No statement of the seat is proved here. -/
namespace Go.Proofs.YtjmmjkoloioddaaDoor
open Go.RowKit Go.Shelf

theorem sd_set {S : St} {i : Nat} {s : Sd} {n : Int} (hl : S.t.length = 8) (hi : i < 8) (j : Nat) : (⟨n, S.t.set i s⟩ : St).sd j = if j = i then s else S.sd j := by
  unfold St.sd
  dsimp only
  rw [List.getElem?_set]
  by_cases h : i = j
  · subst h; simp [hl, hi]
  · have h' : ¬ j = i := fun e => h e.symm
    simp [h, h']
theorem held_iff {S : St} (hl : S.t.length = 8) : heldB S = true ↔ ∃ j, j < 8 ∧ (S.sd j).st = 3 := by
  unfold heldB
  rw [List.any_eq_true]
  constructor
  · rintro ⟨x, hx, h3⟩
    obtain ⟨j, hj, rfl⟩ := List.getElem_of_mem hx
    refine ⟨j, by omega, ?_⟩
    unfold St.sd
    rw [List.getElem?_eq_getElem hj]
    simpa using h3
  · rintro ⟨j, hj, h3⟩
    refine ⟨S.t[j]'(by omega), List.getElem_mem _, ?_⟩
    unfold St.sd at h3
    rw [List.getElem?_eq_getElem (by omega)] at h3
    simpa using h3
/-- At most one thread holds the lock. -/
def Uniq (S : St) : Prop := S.t.length = 8 ∧ ∀ i j, i < 8 → j < 8 → (S.sd i).st = 3 → (S.sd j).st = 3 → i = j
theorem turn3 {st : Nat} {e : Ev} (h : turnN st e = 3) : st = 2 ∧ e.kd = 5 := by
  unfold turnN at h
  repeat' split at h
  all_goals first | omega | (exact ⟨by assumption, by assumption⟩)
theorem turn_of3 {e : Ev} (h : turnN 3 e ≠ 0) : e.kd = 6 ∧ turnN 3 e = 1 := by
  unfold turnN at h ⊢
  simp only [show ¬ (3 = 1) by decide, show ¬ (3 = 2) by decide, if_false, if_true] at h ⊢
  by_cases h6 : e.kd = 6
  · simp [h6]
  · simp [h6] at h
theorem turn_of5 {st : Nat} {e : Ev} (h : turnN st e ≠ 0) (h5 : e.kd = 5) : st = 2 ∧ turnN st e = 3 := by
  unfold turnN at h ⊢
  rw [h5] at h ⊢
  by_cases h1 : st = 1
  · simp [h1] at h
  · by_cases h2 : st = 2
    · simp [h2]
    · by_cases h3 : st = 3
      · simp [h3] at h
      · simp [h1, h2, h3] at h
theorem turn_le {st : Nat} {e : Ev} : turnN st e ≤ 4 := by
  unfold turnN
  repeat' split
  all_goals omega
/-- What an event that can be says. -/
theorem err_ok {S : St} {e : Ev} (h : errE S e = 0) : formedE e = true ∧ turnN (S.sd e.th.toNat).st e ≠ 0 ∧ (heldB S && clkB e.kd) = false ∧ numE S.n (S.sd e.th.toNat) e = true ∧ ownE (S.sd e.th.toNat) e = true := by
  unfold errE errS at h
  by_cases h1 : formedE e = false
  · simp [h1] at h
  · by_cases h2 : turnN (S.sd e.th.toNat).st e = 0
    · simp [h1, h2] at h
    · by_cases h3 : (heldB S && clkB e.kd) = true
      · simp only [h1, h2, h3, if_true, if_false] at h; omega
      · by_cases h4 : numE S.n (S.sd e.th.toNat) e = false
        · simp only [h1, h2, h3, h4, if_true, if_false] at h; omega
        · by_cases h5 : ownE (S.sd e.th.toNat) e = false
          · simp only [h1, h2, h3, h4, h5, if_true, if_false] at h; omega
          · exact ⟨by simpa using h1, h2, by simpa using h3, by simpa using h4, by simpa using h5⟩
theorem next_len {S : St} {e : Ev} (h : S.t.length = 8) : (nextS S e).t.length = 8 := by simp [nextS, h]
theorem next_sd {S : St} {e : Ev} (hl : S.t.length = 8) (h0 : 0 ≤ e.th) (h8 : e.th < 8) (j : Nat) : (nextS S e).sd j = if j = e.th.toNat then nextSd (S.sd e.th.toNat) e else S.sd j := sd_set hl (by omega) j
theorem next_uniq {S : St} {e : Ev} (hu : Uniq S) (h : errE S e = 0) : Uniq (nextS S e) := by
  obtain ⟨h1, h2, h3, h4, h5⟩ := err_ok h
  obtain ⟨t0, t8, k0, k1⟩ := formed_in h1
  refine ⟨next_len hu.1, fun i j hi hj h3i h3j => ?_⟩
  rw [next_sd hu.1 t0 t8] at h3i h3j
  have key : ∀ j, j < 8 → (S.sd j).st = 3 → nextSd (S.sd e.th.toNat) e ≠ nextSd (S.sd e.th.toNat) e ∨ ¬ (nextSd (S.sd e.th.toNat) e).st = 3 := fun j hj hs => .inr fun hn => by
    obtain ⟨a, b⟩ := turn3 hn
    have hh := (held_iff hu.1).2 ⟨j, hj, hs⟩
    rw [hh, b] at h3
    simp [clkB] at h3
  by_cases ei : i = e.th.toNat <;> by_cases ej : j = e.th.toNat
  · omega
  · rw [if_pos ei] at h3i; rw [if_neg ej] at h3j
    rcases key j hj h3j with q | q
    · exact absurd rfl q
    · exact absurd h3i q
  · rw [if_neg ei] at h3i; rw [if_pos ej] at h3j
    rcases key i hi h3i with q | q
    · exact absurd rfl q
    · exact absurd h3j q
  · rw [if_neg ei] at h3i; rw [if_neg ej] at h3j
    exact hu.2 i j hi hj h3i h3j
theorem next_held {S : St} {e : Ev} (hu : Uniq S) (h : errE S e = 0) : heldB (nextS S e) = if e.kd = 5 then true else if e.kd = 6 ∧ (S.sd e.th.toNat).st = 3 then false else heldB S := by
  obtain ⟨h1, h2, h3, h4, h5⟩ := err_ok h
  obtain ⟨t0, t8, k0, k1⟩ := formed_in h1
  have hl := next_len (e := e) hu.1
  by_cases e5 : e.kd = 5
  · rw [if_pos e5, held_iff hl]
    refine ⟨e.th.toNat, by omega, ?_⟩
    rw [next_sd hu.1 t0 t8, if_pos rfl]
    exact (turn_of5 h2 e5).2
  · rw [if_neg e5]
    by_cases e6 : e.kd = 6 ∧ (S.sd e.th.toNat).st = 3
    · rw [if_pos e6, Bool.eq_false_iff, Ne, held_iff hl]
      rintro ⟨j, hj, hs⟩
      rw [next_sd hu.1 t0 t8] at hs
      by_cases ej : j = e.th.toNat
      · rw [if_pos ej] at hs
        exact e5 (turn3 hs).2
      · rw [if_neg ej] at hs
        exact ej (hu.2 j _ hj (by omega) hs e6.2)
    · rw [if_neg e6, Bool.eq_iff_iff, held_iff hl, held_iff hu.1]
      constructor
      · rintro ⟨j, hj, hs⟩
        rw [next_sd hu.1 t0 t8] at hs
        by_cases ej : j = e.th.toNat
        · rw [if_pos ej] at hs
          exact absurd (turn3 hs).2 e5
        · rw [if_neg ej] at hs
          exact ⟨j, hj, hs⟩
      · rintro ⟨j, hj, hs⟩
        refine ⟨j, hj, ?_⟩
        rw [next_sd hu.1 t0 t8]
        by_cases ej : j = e.th.toNat
        · exfalso
          rw [ej] at hs
          rw [hs] at h2
          exact e6 ⟨(turn_of3 h2).1, hs⟩
        · rw [if_neg ej]; exact hs
theorem st0_len : st0.t.length = 8 := rfl
theorem st0_sd (j : Nat) : st0.sd j = sd0 := by
  unfold St.sd st0
  dsimp only
  rw [List.getElem?_replicate]
  split <;> rfl
theorem st0_uniq : Uniq st0 := ⟨rfl, fun i j _ _ h _ => by rw [st0_sd] at h; cases h⟩
theorem run_uniq : ∀ (h : List Ev) (S : St) (k : Nat), Uniq S → (chk S h k).2 = 0 → Uniq (h.foldl nextS S)
  | [], S, _, hu, _ => hu
  | e :: h, S, k, hu, hc => by
    rw [chk] at hc
    by_cases he : errE S e = 0
    · rw [if_pos he] at hc
      exact run_uniq h _ _ (next_uniq hu he) hc
    · rw [if_neg he] at hc; exact absurd hc he
end Go.Proofs.YtjmmjkoloioddaaDoor
