
/- Walk of targets (package asm). No statement of the seat is proved here. -/
import Derived.Test.YtkkmkfldldglgaaGreatDoorAsR
namespace Go.Proofs.YtkkmkfldldglgaaGreatDoor
open Go.RowKit Go.Shelf

def boolsV (f : Nat → Bool) (n : Nat) : Array Value := ((List.range n).map fun k => Value.bool (f k)).toArray
theorem boolsV_get (f : Nat → Bool) {n k : Nat} (h : k < n) : (boolsV f n)[k]? = some (.bool (f k)) := by simp [boolsV, h]
theorem boolsV_set (f : Nat → Bool) (n k : Nat) : (boolsV f n).setIfInBounds k (.bool true) = boolsV (fun j => f j || decide (j = k)) n := by
  apply Array.ext
  · simp [boolsV]
  · intro i h1 h2
    simp [boolsV] at h2
    rw [Array.getElem_setIfInBounds (by simp [boolsV]; omega)]
    split
    · rename_i h; subst h; simp [boolsV]
    · rename_i h
      have : ¬ i = k := fun e => h e.symm
      simp [boolsV, this]
theorem madeCells_bool (n : Nat) : madeCells #[Value.bool false] n = boolsV (fun _ => false) n := by
  apply Array.ext
  · simp [size_madeCells, boolsV]
  · intro i h1 h2
    simp [madeCells, boolsV, Nat.mod_one]
theorem info_bool : (Tryz.prog.info? 4).map (fun i => (i.zero, i.size, i.bytes)) = some (some (.bool false), 1, 1) := by kernel_rfl
/-- Is a place a target of one of these? -/
def markB (L : List I5) (n k : Nat) : Bool := L.any fun i => aimB i n && decide (i.n = (k : Int))
theorem markB_snoc (L : List I5) (i : I5) (n k : Nat) : markB (L ++ [i]) n k = (markB L n k || (aimB i n && decide (i.n = (k : Int)))) := by simp [markB]

theorem InsAt.at {w : World} {v : Value} {L : List I5} (h : InsAt w v L) (k : Nat) (hk : k < L.length) : ∃ g off cap, v = .slice (some ⟨g, off, none⟩) L.length cap ∧ w.cell? ⟨g, off + k * 5, none⟩ = some (.int .i64 (L[k]).op) ∧ w.cell? ⟨g, off + k * 5 + 1, none⟩ = some (.int .i64 (L[k]).a) ∧ w.cell? ⟨g, off + k * 5 + 2, none⟩ = some (.int .i64 (L[k]).b) ∧ w.cell? ⟨g, off + k * 5 + 3, none⟩ = some (.int .i64 (L[k]).c) ∧ w.cell? ⟨g, off + k * 5 + 4, none⟩ = some (.int .u64 (L[k]).n) := by
  obtain ⟨⟨a, cap, rfl, hc⟩, _, _⟩ := h
  obtain ⟨g, off, rfl, q⟩ := hc k hk
  exact ⟨g, off, cap, rfl, q⟩

set_option maxRecDepth 100000 in
set_option maxHeartbeats 4000000 in
theorem targets_any (v : Value) (L : List I5) (hL : L.length ≤ 1048576) (w : World) (h : InsAt w v L) :
    Calls Tryz.prog 42 #[v] w fun e w' => ∃ g, e = .returned (.slice (some ⟨g, 0, none⟩) (L.length + 1) (L.length + 1)) ∧ w.heap.size ≤ g ∧ w'.heap[g]? = some (.cells (boolsV (markB L L.length) (L.length + 1)) 4 (0, 0)) ∧ Keeps (fun _ => False) w w' := by
  have HI : Hid (∀ X, Keeps (fun _ => False) w X → InsAt X v L) := fun X k => h.keeps k
  have AM := fun i => aims_any i L.length (by omega)
  obtain ⟨⟨a0, c0, rfl, _⟩, hwf, _⟩ := h
  have hLi : (L.length : Int) ≤ 1048576 := by omega
  have hb0 := alloc_block w (.cells (boolsV (fun _ => false) (L.length + 1)) 4)
  have k0 := (Keeps.refl (fun _ => False) w).alloc (.cells (boolsV (fun _ => false) (L.length + 1)) 4)
  have hmk := run_make_row' (P := Tryz.prog) 89 4 (.bool false) 1 Tryz.underlying89 info_bool rfl .i64 .i64 (L.length + 1) (by omega) (by omega)
  rw [madeCells_bool, show ((L.length + 1 : Nat) : Int) = (L.length : Int) + 1 by omega] at hmk
  have hP0 : Hid (Keeps (fun _ => False) w (w.alloc (.cells (boolsV (fun _ => false) (L.length + 1)) 4)) ∧ (w.alloc (.cells (boolsV (fun _ => false) (L.length + 1)) 4)).heap[w.heap.size]? = some (.cells (boolsV (markB (L.take 0) L.length) (L.length + 1)) 4 (0, 0))) := ⟨k0, hb0⟩
  clear hb0 k0
  go_enter Tryz.func42, Tryz.ntmps42
  go_wp2_with fail
  obtain ⟨g, hg⟩ : ∃ g, g = w.heap.size := ⟨_, rfl⟩
  rw [← hg] at hP0 ⊢
  have HG : Hid (g = w.heap.size) := hg
  clear hmk hg
  go_loopw [12] (fun u wr => ∃ k : Nat, u = .int .i64 k ∧ k ≤ L.length ∧ Hid (Keeps (fun _ => False) w wr ∧ wr.heap[g]? = some (.cells (boolsV (markB (L.take k) L.length) (L.length + 1)) 4 (0, 0)))) (fun u _ => L.length - (intOf u).toNat)
  case atStart => exact ⟨0, rfl, Nat.zero_le _, hP0⟩
  case round =>
    obtain ⟨k, rfl, hk, hP⟩ := hrel
    clear hP0
    by_cases hlt : k < L.length
    · obtain ⟨ga, off, cap, hv, x0, x1, x2, x3, x4⟩ := (HI.out wr hP.out.1).at k hlt
      simp only [Value.slice.injEq] at hv
      obtain ⟨rfl, -, rfl⟩ := hv
      have hki : (k : Int) < L.length := by omega
      have htk : L.take (k + 1) = L.take k ++ [L[k]] := List.take_succ_eq_append_getElem hlt
      have hw5 := hwf (L[k]) (List.getElem_mem hlt)
      have AK := AM (L[k])
      generalize L[k]'hlt = i at *
      obtain ⟨op, a, b, c, N⟩ := i
      dsimp only at x0 x1 x2 x3 x4
      have hNb : 0 ≤ N ∧ N < 18446744073709551616 := hw5.2.2.2.2
      have ka := (Keeps.refl (fun _ => False) wr).alloc (.cells #[.int .i64 op, .int .i64 a, .int .i64 b, .int .i64 c, .int .u64 N] 37)
      have hbi := alloc_block wr (.cells #[.int .i64 op, .int .i64 a, .int .i64 b, .int .i64 c, .int .u64 N] 37)
      have hgb := (ka.block _ (lt_of_block hP.out.2) (fun f => f)).trans hP.out.2
      have hsn : ∀ j, markB (L.take (k + 1)) L.length j = (markB (L.take k) L.length j || (aimB ⟨op, a, b, c, N⟩ L.length && decide (N = (j : Int)))) := fun j => by rw [htk, markB_snoc]
      cases haim : aimB ⟨op, a, b, c, N⟩ L.length
      · rw [haim] at AK
        have hres : Hid (∀ X, Keeps (fun _ => False) (wr.alloc (.cells #[.int .i64 op, .int .i64 a, .int .i64 b, .int .i64 c, .int .u64 N] 37)) X → Keeps (fun _ => False) w X ∧ X.heap[g]? = some (.cells (boolsV (markB (L.take (k + 1)) L.length) (L.length + 1)) 4 (0, 0))) := fun X kX => by
          refine ⟨(hP.out.1.trans ka).trans kX, ?_⟩
          rw [show (markB (L.take (k + 1)) L.length) = markB (L.take k) L.length from funext fun j => by rw [hsn j, haim]; simp]
          exact (kX.block _ (lt_of_block hgb) (fun f => f)).trans hgb
        clear hsn haim hgb hP ka hbi htk hw5
        go_wp2_with fail
        refine (AK _).mono ?_
        rintro e X ⟨rfl, kX⟩
        have hr := hres.out X kX
        clear AK hres
        go_wp2_with fail
        go_roundw
        · exact ⟨k + 1, by simp, by omega, hr⟩
        · simp [intOf]; omega
      · rw [haim] at AK
        have hNle : N ≤ L.length := by
          unfold aimB at haim
          simp only [Bool.and_eq_true, decide_eq_true_eq] at haim
          exact haim.2
        obtain ⟨q, rfl⟩ : ∃ q : Nat, N = q := ⟨N.toNat, by omega⟩
        obtain ⟨bi, hbie⟩ : ∃ bi, bi = wr.heap.size := ⟨_, rfl⟩
        have hres : Hid (∀ X, Keeps (fun _ => False) (wr.alloc (.cells #[.int .i64 op, .int .i64 a, .int .i64 b, .int .i64 c, .int .u64 (q : Int)] 37)) X → X.cell? ⟨bi, 4, none⟩ = some (.int .u64 (q : Int)) ∧ X.cell? ⟨g, q, none⟩ = some (.bool (markB (L.take k) L.length q)) ∧ X.frozen? ⟨g, q, none⟩ = false ∧ Keeps (fun _ => False) w (X.setCell ⟨g, q, none⟩ (.bool true)) ∧ (X.setCell ⟨g, q, none⟩ (.bool true)).heap[g]? = some (.cells (boolsV (markB (L.take (k + 1)) L.length) (L.length + 1)) 4 (0, 0))) := fun X kX => by
          have hX := (kX.block _ (lt_of_block hgb) (fun f => f)).trans hgb
          have hXi := (kX.block _ (lt_of_block hbi) (fun f => f)).trans hbi
          refine ⟨by rw [hbie]; exact cell_of_block hXi 4, (cell_of_block hX q).trans (boolsV_get _ (by omega)), frozen_of_block hX q, ?_, ?_⟩
          · exact ((hP.out.1.trans ka).trans kX).setCell (p := ⟨g, q, none⟩) (.inl (by show w.heap.size ≤ g; rw [HG.out]; exact Nat.le_refl _)) _
          · have := block_set hX q (.bool true)
            rw [boolsV_set] at this
            rw [this, show (markB (L.take (k + 1)) L.length) = (fun j => markB (L.take k) L.length j || decide (j = q)) from funext fun j => by
              rw [hsn j, haim]
              have : decide ((q : Int) = (j : Int)) = decide (j = q) := by congr 1; simp only [eq_iff_iff]; omega
              simp [this]]
        have HBI : Hid (bi = wr.heap.size) := hbie
        have hqi : (q : Int) < (L.length : Int) + 1 := by omega
        clear hsn haim hgb hP ka hbi htk hw5 hbie
        go_wp2_with fail
        refine (AK _).mono ?_
        rintro e X ⟨rfl, kX⟩
        obtain ⟨r1, r2, r3, r4, r5⟩ := hres.out X kX
        rw [← HBI.out]
        clear AK hres kX
        go_wp2_with fail
        go_roundw
        · exact ⟨k + 1, by simp, by omega, ⟨r4, r5⟩⟩
        · simp [intOf]; omega
    · obtain rfl : k = L.length := by omega
      have h1 := hP.out.1
      have h2 := hP.out.2
      rw [List.take_length] at h2
      have hgs : w.heap.size ≤ g := by rw [HG.out]; exact Nat.le_refl _
      clear hP HI
      go_wp2_with fail
      go_ret
      exact ⟨g, rfl, hgs, h2, h1⟩
end Go.Proofs.YtkkmkfldldglgaaGreatDoor
