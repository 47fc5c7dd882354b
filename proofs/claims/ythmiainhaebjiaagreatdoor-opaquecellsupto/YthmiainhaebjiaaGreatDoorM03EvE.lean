/-
  No statement of the seat is proved here. (Several texts in one: EvE, EvF.)
-/
import Derived.Test.YthmiainhaebjiaaGreatDoorM02EvD

/- A course and its threads as they lie; walks of turn, locked, numbered, owned (package events). No statement of the seat is proved here. -/
namespace Go.Proofs.YthmiainhaebjiaaGreatDoor
open Go.RowKit Go.Shelf

theorem turn_table (st : Nat) (h0 : 1 ≤ st) (h1 : st ≤ 4) (e : Ev) (k0 : 1 ≤ e.kd) (k1 : e.kd ≤ 12) (hn : ¬ (st = 1 ∧ e.kd = 9 ∧ e.er ≠ 4)) : turnT st e.kd.toNat = (turnN st e : Int) := by
  have hst : st = 1 ∨ st = 2 ∨ st = 3 ∨ st = 4 := by omega
  obtain ⟨th, kd, ad, wd, own, er⟩ := e
  dsimp only at *
  rcases hst with rfl | rfl | rfl | rfl <;> rcases kd12 k0 k1 with rfl | rfl | rfl | rfl | rfl | rfl | rfl | rfl | rfl | rfl | rfl | rfl
  all_goals first | rfl | (have h4 : er = 4 := by simpa using hn
                           subst h4; rfl)
theorem turn_none {e : Ev} (h9 : e.kd = 9) (h4 : e.er ≠ 4) : turnN 1 e = 0 := by unfold turnN; rw [if_pos rfl, h9]; simp [h4]

set_option maxRecDepth 100000 in
set_option maxHeartbeats 2000000 in
theorem turn_any (c o st : Nat) (h0 : 1 ≤ st) (h1 : st ≤ 4) (e : Ev) (k0 : 1 ≤ e.kd) (k1 : e.kd ≤ 12) (w : World) (hc : w.cell? ⟨c, o, none⟩ = some (.int .i64 (st : Int))) (hg : Gv w) :
    Calls Tryz.prog 100 #[.pointer (some ⟨c, o, none⟩), .agg e.cells] w fun ex w' => ex = .returned (.int .i64 (turnN st e : Int)) ∧ Keeps (fun _ => False) w w' := by
  have hT := turn_table st h0 h1 e k0 k1
  have hN := @turn_none e
  have ct := hg.tn st e.kd.toNat (by omega) (by omega)
  generalize turnT st e.kd.toNat = tt at *
  generalize hq : turnN st e = tn at *
  obtain ⟨th, kd, ad, wd, own, er⟩ := e
  dsimp only at *
  obtain ⟨k, rfl⟩ : ∃ k : Nat, kd = k := ⟨kd.toNat, by omega⟩
  have hk13 : (k : Int) < 13 := by omega
  have hs5 : (st : Int) < 5 := by omega
  have hs0 : (0 : Int) ≤ st := by omega
  have hk0 : (0 : Int) ≤ k := by omega
  have hcl := World.block_lt_of_cell? _ _ hc
  have hgl := World.block_lt_of_cell? _ _ ct
  simp only [Int.toNat_natCast] at ct
  have kk := (Keeps.refl (fun _ => False) w).alloc (.cells #[.int .i64 th, .int .i64 k, .int .u64 ad, .int .u64 wd, .bool own, .int .i64 er] 60)
  clear hg
  show Calls Tryz.prog 100 #[.pointer (some ⟨c, o, none⟩), .agg #[.int .i64 th, .int .i64 k, .int .u64 ad, .int .u64 wd, .bool own, .int .i64 er]] w fun ex w' => ex = .returned (.int .i64 (tn : Int)) ∧ Keeps (fun _ => False) w w'
  by_cases hx : st = 1 ∧ (k : Int) = 9 ∧ er ≠ 4
  · obtain ⟨rfl, hk9, he⟩ := hx
    obtain rfl : k = 9 := by omega
    obtain rfl : tn = 0 := by rw [← hq]; exact hN rfl he
    clear hT hN hq ct
    go_enter Tryz.func100, Tryz.ntmps100
    go_wp2_with fail
    go_ret
    exact ⟨rfl, kk⟩
  · have hT2 := hT hx
    clear hT hN hq
    subst hT2
    have hcond : (st ≠ 1) ∨ (st = 1 ∧ k ≠ 9) ∨ (st = 1 ∧ k = 9 ∧ er = 4) := by omega
    clear hx
    rcases hcond with h | ⟨rfl, h⟩ | ⟨rfl, rfl, rfl⟩
    · have h' : ¬ (st : Int) = 1 := by omega
      clear h
      go_enter Tryz.func100, Tryz.ntmps100
      go_wp2_with fail
      go_quiet (fail)
      go_wp2_with fail
      go_ret
      exact ⟨rfl, kk.drewN _⟩
    · have h' : ¬ (k : Int) = 9 := by omega
      clear h
      go_enter Tryz.func100, Tryz.ntmps100
      go_wp2_with fail
      go_quiet (fail)
      go_wp2_with fail
      go_ret
      exact ⟨rfl, kk.drewN _⟩
    · go_enter Tryz.func100, Tryz.ntmps100
      go_wp2_with fail
      go_quiet (fail)
      go_wp2_with fail
      go_ret
      exact ⟨rfl, kk.drewN _⟩

set_option maxRecDepth 100000 in
set_option maxHeartbeats 2000000 in
theorem locked_any (c : Nat) (hd : Bool) (kd : Int) (w : World) (hc : w.cell? ⟨c, 1, none⟩ = some (.bool hd)) :
    Calls Tryz.prog 101 #[.pointer (some ⟨c, 0, none⟩), .int .i64 kd] w fun ex w' => ex = .returned (.bool (hd && clkB kd)) ∧ w' = w := by
  cases hd
  · go_enter Tryz.func101, Tryz.ntmps101
    go_wp2_with fail
    go_ret
    exact ⟨rfl, rfl⟩
  · by_cases h1 : kd = 1
    · subst h1
      go_enter Tryz.func101, Tryz.ntmps101
      go_wp2_with fail
      go_ret
      exact ⟨rfl, rfl⟩
    · by_cases h4 : kd = 4
      · subst h4
        go_enter Tryz.func101, Tryz.ntmps101
        go_wp2_with fail
        go_ret
        exact ⟨rfl, rfl⟩
      · go_enter Tryz.func101, Tryz.ntmps101
        go_wp2_with fail
        go_ret
        exact ⟨by rw [show (kd == 1) = false from beq_eq_false_iff_ne.2 h1, show (kd == 4) = false from beq_eq_false_iff_ne.2 h4]; simp [clkB, h1, h4]; rfl, rfl⟩

set_option maxRecDepth 100000 in
set_option maxHeartbeats 4000000 in
theorem numbered_any (c o : Nat) (n sn : Int) (st : Nat) (wr : List (Int × Int)) (e : Ev) (w : World) (hn0 : 0 ≤ n) (hn1 : n < 4611686018427387904) (hs0 : 0 ≤ sn) (hs1 : sn < 18446744073709551616) (cn : w.cell? ⟨c, 0, none⟩ = some (.int .u64 n)) (c0 : w.cell? ⟨c, o, none⟩ = some (.int .i64 (st : Int))) (c1 : w.cell? ⟨c, o + 1, none⟩ = some (.int .u64 sn)) :
    Calls Tryz.prog 102 #[.pointer (some ⟨c, 0, none⟩), .pointer (some ⟨c, o, none⟩), .agg e.cells] w fun ex w' => ex = .returned (.bool (numE n ⟨st, sn, wr⟩ e)) ∧ Keeps (fun _ => False) w w' := by
  obtain ⟨th, kd, ad, wd, own, er⟩ := e
  have hcl := World.block_lt_of_cell? _ _ cn
  have kk := (Keeps.refl (fun _ => False) w).alloc (.cells #[.int .i64 th, .int .i64 kd, .int .u64 ad, .int .u64 wd, .bool own, .int .i64 er] 60)
  show Calls Tryz.prog 102 #[.pointer (some ⟨c, 0, none⟩), .pointer (some ⟨c, o, none⟩), .agg #[.int .i64 th, .int .i64 kd, .int .u64 ad, .int .u64 wd, .bool own, .int .i64 er]] w fun ex w' => ex = .returned (.bool (numE n ⟨st, sn, wr⟩ ⟨th, kd, ad, wd, own, er⟩)) ∧ Keeps (fun _ => False) w w'
  by_cases h1 : kd = 1
  · subst h1
    go_enter Tryz.func102, Tryz.ntmps102
    go_wp2_with fail
    go_quiet (fail)
    go_wp2_with fail
    go_ret
    exact ⟨by simp [numE]; rfl, kk.drewN _⟩
  · by_cases h4 : kd = 4
    · subst h4
      by_cases hw : wd = 2 * n
      · have hw2 : (wd == 2 * n) = true := by simp [hw]
        clear hw
        go_enter Tryz.func102, Tryz.ntmps102
        go_wp2_with fail
        go_quiet (fail)
        go_wp2_with fail
        go_ret
        exact ⟨by have hw := eq_of_beq hw2; simp [numE, hw], kk.drewN _⟩
      · have hw2 : (wd == 2 * n) = false := by simp [hw]
        go_enter Tryz.func102, Tryz.ntmps102
        go_wp2_with fail
        go_quiet (fail)
        go_wp2_with fail
        go_ret
        exact ⟨by simp [numE, hw], kk.drewN _⟩
    · by_cases h5 : kd = 5
      · subst h5
        go_enter Tryz.func102, Tryz.ntmps102
        go_wp2_with fail
        go_quiet (fail)
        go_wp2_with fail
        go_ret
        exact ⟨by simp [numE]; rfl, kk.drewN _⟩
      · by_cases h6 : kd = 6
        · subst h6
          by_cases hst : st = 3
          · subst hst
            go_enter Tryz.func102, Tryz.ntmps102
            go_wp2_with fail
            go_quiet (fail)
            go_wp2_with fail
            go_ret
            exact ⟨by simp [numE]; rfl, kk.drewN _⟩
          · have hst2 : ¬ (st : Int) = 3 := by omega
            go_enter Tryz.func102, Tryz.ntmps102
            go_wp2_with fail
            go_quiet (fail)
            go_wp2_with fail
            go_ret
            exact ⟨by simp [numE, hst]; rfl, kk.drewN _⟩
        · go_enter Tryz.func102, Tryz.ntmps102
          go_wp2_with fail
          go_ret
          exact ⟨by simp [numE, h1, h4, h5, h6], kk⟩
end Go.Proofs.YthmiainhaebjiaaGreatDoor


/- Words in a map; a course as it lies; walks of owned, refusal (package events). No statement of the seat is proved here. -/
namespace Go.Proofs.YthmiainhaebjiaaGreatDoor
open Go.RowKit Go.Shelf

def numV (a : Int) : Value := .int .u64 a
theorem lookup_of_mem {L : List (Int × Int)} (hn : (L.map (·.1)).Nodup) {p : Int × Int} (hp : p ∈ L) : L.lookup p.1 = some p.2 := by
  induction L with
  | nil => simp at hp
  | cons q L ih =>
    simp only [List.map_cons, List.nodup_cons] at hn
    rcases List.mem_cons.1 hp with rfl | hp2
    · obtain ⟨a, b⟩ := p; simp [List.lookup]
    · obtain ⟨a, b⟩ := q
      have : (p.1 == a) = false := by
        rw [beq_eq_false_iff_ne]
        rintro rfl
        exact hn.1 (List.mem_map.2 ⟨p, hp2, rfl⟩)
      rw [List.lookup, this]
      exact ih hn.2 hp2
theorem lookup_of_not {L : List (Int × Int)} {x : Int} (h : x ∉ L.map (·.1)) : L.lookup x = none := by
  rw [List.lookup_eq_none_iff]
  intro p hp
  simp only [bne_iff_ne, ne_eq]
  rintro rfl
  exact h (List.mem_map.2 ⟨p, hp, rfl⟩)
theorem lookup_set : ∀ (L : List (Int × Int)) (j : Nat) (a x z : Int), (L.map (·.1)).Nodup → L[j]? = some (a, z) → ∀ y, (L.set j (a, x)).lookup y = if y = a then some x else L.lookup y
  | [], j, a, x, z, _, h => by simp at h
  | (b, u) :: L, 0, a, x, z, _, h => by
    simp at h
    obtain ⟨rfl, rfl⟩ := h
    intro y
    by_cases hy : y = b
    · subst hy; simp
    · have : (y == b) = false := by simp [hy]
      simp [List.lookup, this, hy]
  | (b, u) :: L, j + 1, a, x, z, hn, h => by
    simp only [List.map_cons, List.nodup_cons] at hn
    simp at h
    intro y
    have ih := lookup_set L j a x z hn.2 h y
    have hab : a ≠ b := by
      rintro rfl
      exact hn.1 (List.mem_map.2 ⟨(a, z), List.mem_of_getElem? h, rfl⟩)
    rw [List.set_cons_succ, List.lookup, List.lookup]
    by_cases hy : y = b
    · subst hy
      have : ¬ y = a := fun e => hab e.symm
      simp [this]
    · have : (y == b) = false := by simp [hy]
      rw [this]; exact ih
/-- Words in a map: which word stands at an address. -/
structure MapU (w : World) (b : Nat) (f : Int → Option Int) : Prop where
  ex : ∃ (es : Array MapEntry) (clock : Nat) (L : List (Int × Int)), w.heap[b]? = some (.map es clock) ∧ es.toList.map (fun x => (x.key, x.val)) = L.map (fun p => (numV p.1, numV p.2)) ∧ (L.map (·.1)).Nodup ∧ (∀ y, L.lookup y = f y)
theorem MapU.keeps {w w' : World} {S : Nat → Prop} {b : Nat} {f : Int → Option Int} (h : MapU w b f) (k : Keeps S w w') (hs : ¬ S b) : MapU w' b f := by
  obtain ⟨es, clock, L, h1, h2⟩ := h.ex
  exact ⟨es, clock, L, (k.block b (lt_of_block h1) hs).trans h1, h2⟩
theorem MapU.lt {w : World} {b : Nat} {f : Int → Option Int} (h : MapU w b f) : b < w.heap.size := by
  obtain ⟨es, clock, L, h1, h2⟩ := h.ex
  exact lt_of_block h1
theorem ent_mem {es : List MapEntry} {L : List (Int × Int)} (h : es.map (fun x => (x.key, x.val)) = L.map (fun p => (numV p.1, numV p.2))) {j : Nat} {x : MapEntry} (hx : es[j]? = some x) : ∃ p, L[j]? = some p ∧ x.key = numV p.1 ∧ x.val = numV p.2 := by
  have h1 : (es.map (fun x => (x.key, x.val)))[j]? = some (x.key, x.val) := by rw [List.getElem?_map, hx]; rfl
  rw [h, List.getElem?_map] at h1
  obtain ⟨p, hp, he⟩ := Option.map_eq_some_iff.1 h1
  exact ⟨p, hp, (Prod.mk.inj he).1.symm, (Prod.mk.inj he).2.symm⟩
theorem ent_keys {es : List MapEntry} {L : List (Int × Int)} (h : es.map (fun x => (x.key, x.val)) = L.map (fun p => (numV p.1, numV p.2))) : ∀ x ∈ es, MapKept.IsKey (.int .u64) x.key := fun x hx => by
  obtain ⟨j, hj⟩ := List.getElem?_of_mem hx
  obtain ⟨p, _, h1, _⟩ := ent_mem h hj
  rw [h1]; rfl
theorem numV_inj {a b : Int} (h : numV a = numV b) : a = b := by unfold numV at h; injection h
/-- What a look into the map tells. -/
def lookV (f : Int → Option Int) (a : Int) : Value := .tuple #[.int .u64 ((f a).getD 0), .bool (f a).isSome]
theorem MapU.look {w : World} {b : Nat} {f : Int → Option Int} (h : MapU w b f) (a : Int) : (Instr.lookup 104 (.map (some b)) (.int .u64 a) true).run Tryz.prog w = .ok (lookV f a) w := by
  obtain ⟨es, clock, L, h1, h2, h3, h4⟩ := h.ex
  have hk : MapKept.IsKey (.int .u64) (numV a) := rfl
  have hgo := MapKept.run_getObj_map (P := Tryz.prog) h1
  have hck := fun e => MapKept.run_checkKey (P := Tryz.prog) (w := w) Tryz.underlying26 hk e 9999
  unfold lookV
  rw [← h4 a]
  rcases MapKept.findNow_spec hk es.toList 0 (ent_keys h2) with ⟨f1, f2⟩ | ⟨j, e, f1, f2, f3⟩
  · have hx : a ∉ L.map (·.1) := fun hm => by
      obtain ⟨p, hp, rfl⟩ := List.mem_map.1 hm
      have : (numV p.1, numV p.2) ∈ es.toList.map (fun x => (x.key, x.val)) := by rw [h2]; exact List.mem_map.2 ⟨p, hp, rfl⟩
      obtain ⟨y, hy, he⟩ := List.mem_map.1 this
      exact f2 y hy (Prod.mk.inj he).1
    have hf := MapKept.run_findKey (P := Tryz.prog) (w := w) Tryz.underlying26 f1
    rw [lookup_of_not hx]
    simp only [numV] at hck hf
    simp [Instr.lookup, run_underlying Tryz.underlying104, hgo, hck, hf, Result.andThen, go_sem]
  · have hf := MapKept.run_findKey (P := Tryz.prog) (w := w) Tryz.underlying26 f1
    obtain ⟨p, hp, e1, e2⟩ := ent_mem h2 f2
    have : a = p.1 := numV_inj (f3.symm.trans e1)
    rw [this, lookup_of_mem h3 (List.mem_of_getElem? hp)]
    simp only [numV, this] at hck hf e2
    simp [Instr.lookup, run_underlying Tryz.underlying104, hgo, hck, hf, Result.andThen, e2]
/-- A word more. -/
theorem MapU.put {w : World} {b : Nat} {f : Int → Option Int} (h : MapU w b f) (a x : Int) :
    ∃ w', (Instr.mapUpdate 104 (.map (some b)) (.int .u64 a) (.int .u64 x)).run Tryz.prog w = .ok () w' ∧ MapU w' b (fun y => if y = a then some x else f y) ∧ Keeps (fun k => k = b) w w' := by
  obtain ⟨es, clock, L, h1, h2, h3, h4⟩ := h.ex
  have hk : MapKept.IsKey (.int .u64) (numV a) := rfl
  have hgo := MapKept.run_getObj_map (P := Tryz.prog) h1
  have hck := fun e => MapKept.run_checkKey (P := Tryz.prog) (w := w) Tryz.underlying26 hk e 9999
  rcases MapKept.findNow_spec hk es.toList 0 (ent_keys h2) with ⟨f1, f2⟩ | ⟨j, e, f1, f2, f3⟩
  · have hf := MapKept.run_findKey (P := Tryz.prog) (w := w) Tryz.underlying26 f1
    have hx : a ∉ L.map (·.1) := fun hm => by
      obtain ⟨p, hp, rfl⟩ := List.mem_map.1 hm
      have : (numV p.1, numV p.2) ∈ es.toList.map (fun x => (x.key, x.val)) := by rw [h2]; exact List.mem_map.2 ⟨p, hp, rfl⟩
      obtain ⟨y, hy, he⟩ := List.mem_map.1 this
      exact f2 y hy (Prod.mk.inj he).1
    have hso := MapKept.run_setObj_map (P := Tryz.prog) (.map (es.push { key := numV a, val := numV x, born := clock }) (clock + 1)) h1
    refine ⟨{ w with heap := w.heap.setIfInBounds b (.map (es.push { key := numV a, val := numV x, born := clock }) (clock + 1)) }, ?_, ⟨_, _, L ++ [(a, x)], (MapKept.heap_set h1).1, ?_, ?_, ?_⟩, ?_⟩
    · simp only [numV] at hck hf hso
      simp [Instr.mapUpdate, run_underlying Tryz.underlying104, hgo, hck, hf, hso, Result.andThen, numV]
    · simp [h2]
    · rw [List.map_append, List.nodup_append]
      refine ⟨h3, by simp, ?_⟩
      intro u hu v hv
      simp only [List.map_cons, List.map_nil, List.mem_singleton] at hv
      subst hv
      rintro rfl
      exact hx hu
    · intro y
      rw [List.lookup_append, h4]
      by_cases hy : y = a
      · subst hy; rw [← h4, lookup_of_not hx]; simp [List.lookup]
      · have : (y == a) = false := by simp [hy]
        simp [List.lookup, this, hy]
    · refine ⟨rfl, rfl, rfl, by simp, fun k hk hs => ?_⟩
      exact (MapKept.heap_set h1).2 k hs
  · have hf := MapKept.run_findKey (P := Tryz.prog) (w := w) Tryz.underlying26 f1
    obtain ⟨p, hp, e1, e2⟩ := ent_mem h2 f2
    have hap : a = p.1 := numV_inj (f3.symm.trans e1)
    have hso := MapKept.run_setObj_map (P := Tryz.prog) (.map (es.modify j fun e => { e with key := numV a, val := numV x }) clock) h1
    have hej : es[j]? = some e := by simpa using f2
    have hsb : Instr.sameBits 10000 (Value.int .u64 a) (Value.int .u64 a) = true := by rw [show (10000 : Nat) = 9999 + 1 from rfl, Instr.sameBits]; simp
    refine ⟨{ w with heap := w.heap.setIfInBounds b (.map (es.modify j fun e => { e with key := numV a, val := numV x }) clock) }, ?_, ⟨_, _, L.set j (a, x), (MapKept.heap_set h1).1, ?_, ?_, ?_⟩, ?_⟩
    · simp only [numV] at hck hf hso f3
      simp [Instr.mapUpdate, run_underlying Tryz.underlying104, hgo, hck, hf, hso, Result.andThen, hej, f3, Instr.keyThatStays, hsb, numV]
    · apply List.ext_getElem?
      intro i
      have hl := congrArg (fun l : List (Value × Value) => l[i]?) h2
      simp only [List.getElem?_map] at hl ⊢
      rw [List.getElem?_set]
      by_cases hi : j = i
      · subst hi
        have hjl : j < L.length := (List.getElem?_eq_some_iff.1 hp).1
        simp [hej, hjl]
      · simp only [hi, if_false]
        rw [← hl]
        simp [hi]
    · have : (L.set j (a, x)).map (·.1) = L.map (·.1) := by
        apply List.ext_getElem?
        intro i
        simp only [List.getElem?_map, List.getElem?_set]
        by_cases hi : j = i
        · subst hi
          have hjl : j < L.length := (List.getElem?_eq_some_iff.1 hp).1
          simp only [if_true, hjl, Option.map_some]
          rw [hp, hap]; rfl
        · simp [hi]
      rw [this]; exact h3
    · intro y
      rw [lookup_set L j a x p.2 h3 (by rw [hp, hap]) y, h4]
    · refine ⟨rfl, rfl, rfl, by simp, fun k hk hs => ?_⟩
      exact (MapKept.heap_set h1).2 k hs
end Go.Proofs.YthmiainhaebjiaaGreatDoor
