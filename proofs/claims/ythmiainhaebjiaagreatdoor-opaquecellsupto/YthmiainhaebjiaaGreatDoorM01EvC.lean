/-
  No statement of the seat is proved here. (Several texts in one: EvC.)
-/
import Derived.Test.YthmiainhaebjiaaGreatDoorM00CMem

/- What the calls read of the program's variables; walks of bare, formed, turn, locked, numbered (package events). No statement of the seat is proved here. -/
namespace Go.Proofs.YthmiainhaebjiaaGreatDoor
open Go.RowKit Go.Shelf

/-- The kinds' names. -/
def shNs : List (List UInt8) := [[], [98, 101, 103, 105, 110], [114, 101, 97, 100], [119, 114, 105, 116, 101], [109, 111, 118, 101, 100], [108, 111, 99, 107, 101, 100], [99, 111, 109, 109, 105, 116, 116, 101, 100], [115, 116, 97, 108, 101], [97, 98, 111, 114, 116, 101, 100], [102, 97, 105, 108, 101, 100], [108, 111, 97, 100, 101, 100], [115, 116, 111, 114, 101, 100], [104, 97, 108, 116, 101, 100]]
def shL (i : Nat) : List UInt8 := (shNs[i]?).getD []
def turnTs : List Int := [0, 0, 0, 0, 0, 0, 0, 0, 0, 0, 0, 0, 0, 0, 2, 0, 0, 0, 0, 0, 0, 0, 4, 1, 1, 4, 0, 0, 2, 2, 2, 3, 1, 1, 1, 4, 0, 0, 0, 0, 0, 0, 0, 0, 0, 1, 0, 0, 0, 0, 0, 0, 0, 0, 0, 0, 0, 0, 0, 0, 0, 0, 0, 0, 0]
def turnT (s k : Nat) : Int := (turnTs[s * 13 + k]?).getD 0
/-- What the calls read of the program's variables. -/
structure Gv (w : World) : Prop where
  nm : ∀ i : Nat, i < 13 → w.cell? ⟨1, i * 4, none⟩ = some (.string ⟨(shL i).toArray⟩)
  ad : ∀ i : Nat, i < 13 → w.cell? ⟨1, i * 4 + 1, none⟩ = some (.bool (adB i))
  wd : ∀ i : Nat, i < 13 → w.cell? ⟨1, i * 4 + 2, none⟩ = some (.bool (wdB i))
  er : ∀ i : Nat, i < 13 → w.cell? ⟨1, i * 4 + 3, none⟩ = some (.bool (erB i))
  tn : ∀ s k : Nat, s < 5 → k < 13 → w.cell? ⟨0, s * 13 + k, none⟩ = some (.int .i64 (turnT s k))
theorem cell_keep {w w' : World} {S : Nat → Prop} (k : Keeps S w w') {b o : Nat} {v : Value} (h : w.cell? ⟨b, o, none⟩ = some v) (hs : ¬ S b) : w'.cell? ⟨b, o, none⟩ = some v := by
  rw [← h]; simp only [World.cell?, k.block b (World.block_lt_of_cell? _ _ h) hs]
theorem Gv.keepsB {w w' : World} {S : Nat → Prop} (h : Gv w) (k : Keeps S w w') (hs : ∀ q, q < 2 → ¬ S q) : Gv w' := by
  refine ⟨fun i hi => cell_keep k (h.nm i hi) (hs _ (by decide)), fun i hi => cell_keep k (h.ad i hi) (hs _ (by decide)), fun i hi => cell_keep k (h.wd i hi) (hs _ (by decide)), fun i hi => cell_keep k (h.er i hi) (hs _ (by decide)), fun s j h1 h2 => cell_keep k (h.tn s j h1 h2) (hs _ (by decide))⟩
theorem Gv.keeps {w w' : World} (h : Gv w) (k : Keeps (fun _ => False) w w') : Gv w' := h.keepsB k (fun _ _ f => f)
/-- An event with nothing but what its kind names. -/
def bareE (e : Ev) : Ev := ⟨e.th, e.kd, if adB e.kd then e.ad else 0, if wdB e.kd then e.wd else 0, e.own && (e.kd == 2), if erB e.kd then e.er else 0⟩
set_option maxRecDepth 100000 in
set_option maxHeartbeats 2000000 in
theorem bare_any (e : Ev) (h0 : 1 ≤ e.kd) (h1 : e.kd ≤ 12) (w : World) (hg : Gv w) : Calls Tryz.prog 121 #[.agg e.cells] w fun ex w' => ex = .returned (.agg (bareE e).cells) ∧ Keeps (fun _ => False) w w' := by
  obtain ⟨th, kd, ad, wd, own, er⟩ := e
  dsimp only at h0 h1
  obtain ⟨k, rfl⟩ : ∃ k : Nat, kd = k := ⟨kd.toNat, by omega⟩
  have hk : k < 13 := by omega
  have kk : ∀ o1 o2 o3 o4, Keeps (fun _ => False) w ((((w.alloc o1).alloc o2).alloc o3).alloc o4) := fun o1 o2 o3 o4 => ((((Keeps.refl (fun _ => False) w).alloc o1).alloc o2).alloc o3).alloc o4
  have cn := hg.nm k hk
  have ca := hg.ad k hk
  have cw := hg.wd k hk
  have ce := hg.er k hk
  have hlt : 1 < w.heap.size := World.block_lt_of_cell? _ _ cn
  have n0 : ¬ w.heap.size = 0 := by omega
  have n1 : ¬ w.heap.size = 1 := by omega
  have n2 : ¬ 1 = w.heap.size := by omega
  have n3 : 0 < w.heap.size := by omega
  have n4 : ¬ 0 = w.heap.size := by omega
  have hki : (k : Int) < 13 := by omega
  have hk0 : (0 : Int) ≤ k := by omega
  show Calls Tryz.prog 121 #[.agg #[.int .i64 th, .int .i64 k, .int .u64 ad, .int .u64 wd, .bool own, .int .i64 er]] w fun ex w' => ex = .returned (.agg #[.int .i64 th, .int .i64 k, .int .u64 (if adB k then ad else 0), .int .u64 (if wdB k then wd else 0), .bool (own && ((k : Int) == 2)), .int .i64 (if erB k then er else 0)]) ∧ Keeps (fun _ => False) w w'
  have h4 : (adB k = false ∧ wdB k = true ∧ erB k = false) ∨ (adB k = true ∧ wdB k = true ∧ erB k = false) ∨ (adB k = false ∧ wdB k = false ∧ erB k = false) ∨ (adB k = false ∧ wdB k = false ∧ erB k = true) := by
    rcases kd12 h0 h1 with h | h | h | h | h | h | h | h | h | h | h | h <;> rw [h] <;> decide
  generalize adB k = ab at *
  generalize wdB k = wb at *
  generalize erB k = eb at *
  clear hg h0 h1
  rcases h4 with ⟨rfl, rfl, rfl⟩ | ⟨rfl, rfl, rfl⟩ | ⟨rfl, rfl, rfl⟩ | ⟨rfl, rfl, rfl⟩ <;> cases own
  all_goals
    go_enter Tryz.func121, Tryz.ntmps121
    go_wp2_with fail
    refine ⟨rfl, _, ?_, rfl, kk _ _ _ _⟩
    simp [results, Tryz.f121, go_sem]
end Go.Proofs.YthmiainhaebjiaaGreatDoor
