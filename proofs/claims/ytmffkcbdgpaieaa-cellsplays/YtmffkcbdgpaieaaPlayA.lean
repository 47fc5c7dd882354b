/-
  Walks of the document's own New, Swap, Add, Words and Slice (package parleyref01). No statement of the seat is proved here.
-/
import Derived.Test.YtmffkcbdgpaieaaGoes
namespace Go.Proofs.Ytmffkcbdgpaieaa
open Go.RowKit

set_option maxHeartbeats 400000 in
theorem rnew_no (n : Int) (w : World) (h : n < 1 ∨ 65536 < n) : Calls Try.prog 11 #[.int .i64 n] w fun e w' => e = .returned (.tuple #[.pointer none, .int .i64 2]) ∧ w' = w := by
  by_cases h1 : n < 1
  · go_enter Try.func11, Try.ntmps11
    go_wp2
    go_ret2
    exact ⟨rfl, rfl⟩
  · have h2 : 65536 < n := by omega
    go_enter Try.func11, Try.ntmps11
    go_wp2
    go_ret2
    exact ⟨rfl, rfl⟩

theorem u64s_refCells (ws : List Int) : u64s ws = refCells ws [] := by simp [u64s, refCells]

set_option maxHeartbeats 400000 in
theorem rnew_yes (n : Int) (w : World) (h1 : 1 ≤ n) (h2 : n ≤ 65536) : Calls Try.prog 11 #[.int .i64 n] w (RefMade w (List.replicate n.toNat 0) fun p => .tuple #[p, .int .i64 0]) := by
  have hmk := run_make36 w n (by omega) (by omega)
  have h3 : ¬ n < 1 := by omega
  have h4 : ¬ 65536 < n := by omega
  generalize hx : u64s (List.replicate n.toNat 0) = x at hmk
  have hb : (w.alloc (.cells x 36)).heap[w.heap.size]? = some (.cells (refCells (List.replicate n.toNat 0) []) 36 (0, 0)) := by
    rw [← u64s_refCells, hx]
    exact alloc_block w _
  have hm := ref_made (cap := n.toNat) hb (by simp; omega) (by simp; omega) (by simp)
  rw [List.length_replicate, World.size_alloc] at hm
  have hk : Keeps (fun _ => False) w (w.alloc (.cells x 36)) := (Keeps.refl _ w).alloc _
  clear hx hb
  go_enter Try.func11, Try.ntmps11
  go_wp2
  go_ret2
  exact ⟨_, _, _, _, rfl, by omega, by omega, hm, hk.alloc _⟩

set_option maxHeartbeats 400000 in
theorem rswap_nil (a o v : Int) (w : World) : Calls Try.prog 43 #[.pointer none, .int .u64 a, .int .u64 o, .int .u64 v] w fun e w' => e = .returned (.tuple #[.bool false, .int .i64 1]) ∧ w' = w := by
  go_enter Try.func43, Try.ntmps43
  go_wp2_with (go_at_call 54; refine (asked_nil _ _).mono ?_; rintro e w' ⟨rfl, rfl⟩)
  go_ret2
  exact ⟨rfl, rfl⟩
set_option maxHeartbeats 400000 in
theorem rswap_at (b c cap : Nat) (rest : List Value) (ws : List Int) (n a o v : Int) (w : World) (h : RefAt w b c cap rest ws n) (h0 : 0 ≤ a) :
    Calls Try.prog 43 #[.pointer (some ⟨b, 0, none⟩), .int .u64 a, .int .u64 o, .int .u64 v] w fun e w' => e = .returned (.tuple #[.bool (swaps ws a o), .int .i64 (errAt ws.length a)]) ∧ RefAt w' b c cap rest (if swaps ws a o then putAt ws a v else ws) (more n) ∧ Keeps (fun k => k = b ∨ k = c) w w' := by
  have hk := asked_at b c cap rest ws n a w h
  have r := h.count (more n)
  have k0 := r.cell0
  by_cases ha : a < (ws.length : Int)
  · have k1 := r.wcell a.toNat (by omega)
    have k2 := r.wfrozen a.toNat
    have r2 := r.store a.toNat v (by omega)
    rw [show errAt ws.length a = 0 from if_pos ha] at hk ⊢
    rw [show putAt ws a v = ws.set a.toNat v from if_pos ha]
    have hs : swaps ws a o = (ws[a.toNat]?.getD 0 == o) := by simp [swaps, ha]
    rw [hs]
    clear hs
    generalize ws[a.toNat]?.getD 0 = x at k1 ⊢
    have hx := keeps_both (w := w) (b := b) (c := c) a.toNat (.int .u64 (more n)) (.int .u64 v)
    have hx1 := keeps_count (w := w) (b := b) (c := c) (.int .u64 (more n))
    generalize w.setCell ⟨b, 1, none⟩ (.int .u64 (more n)) = w1 at hk r r2 k0 k1 k2 hx hx1
    cases hb : (x == o)
    · have hb' : (x != o) = true := by simp [bne, hb]
      clear r2 hx
      go_enter Try.func43, Try.ntmps43
      go_wp2_with fail
      refine hk.mono ?_
      rintro e w' ⟨rfl, rfl⟩
      go_wp2_with fail
      go_ret2
      exact ⟨rfl, r, hx1⟩
    · have hb' : (x != o) = false := by simp [bne, hb]
      clear r hx1
      go_enter Try.func43, Try.ntmps43
      go_wp2_with fail
      refine hk.mono ?_
      rintro e w' ⟨rfl, rfl⟩
      go_wp2_with fail
      go_ret2
      exact ⟨rfl, r2, hx⟩
  · have hs : swaps ws a o = false := by simp [swaps, ha]
    rw [show errAt ws.length a = 4 from if_neg ha] at hk ⊢
    rw [hs]
    clear hs
    go_enter Try.func43, Try.ntmps43
    go_wp2_with fail
    refine hk.mono ?_
    rintro e w' ⟨rfl, rfl⟩
    go_wp2_with fail
    go_ret2
    exact ⟨rfl, r, keeps_count _⟩

set_option maxHeartbeats 400000 in
theorem radd_nil (a v : Int) (w : World) : Calls Try.prog 44 #[.pointer none, .int .u64 a, .int .u64 v] w fun e w' => e = .returned (.tuple #[.int .u64 0, .int .i64 1]) ∧ w' = w := by
  go_enter Try.func44, Try.ntmps44
  go_wp2_with (go_at_call 54; refine (asked_nil _ _).mono ?_; rintro e w' ⟨rfl, rfl⟩)
  go_ret2
  exact ⟨rfl, rfl⟩
set_option maxHeartbeats 400000 in
theorem radd_at (b c cap : Nat) (rest : List Value) (ws : List Int) (n a v : Int) (w : World) (h : RefAt w b c cap rest ws n) (h0 : 0 ≤ a) :
    Calls Try.prog 44 #[.pointer (some ⟨b, 0, none⟩), .int .u64 a, .int .u64 v] w fun e w' => e = .returned (.tuple #[.int .u64 (wordAt ws a), .int .i64 (errAt ws.length a)]) ∧ RefAt w' b c cap rest (putAt ws a (IntKind.u64.wrap (wordAt ws a + v))) (more n) ∧ Keeps (fun k => k = b ∨ k = c) w w' := by
  have hk := asked_at b c cap rest ws n a w h
  have r := h.count (more n)
  have k0 := r.cell0
  by_cases ha : a < (ws.length : Int)
  · rw [show errAt ws.length a = 0 from if_pos ha] at hk ⊢
    rw [show wordAt ws a = ws[a.toNat]?.getD 0 from if_pos ha, show ∀ v, putAt ws a v = ws.set a.toNat v from fun v => if_pos ha]
    have k1 := r.wcell a.toNat (by omega)
    have k2 := r.wfrozen a.toNat
    have r2 := r.store a.toNat (IntKind.u64.wrap (ws[a.toNat]?.getD 0 + v)) (by omega)
    generalize ws[a.toNat]?.getD 0 = x at k1 r2 ⊢
    have hx := keeps_both (w := w) (b := b) (c := c) a.toNat (.int .u64 (more n)) (.int .u64 (IntKind.u64.wrap (x + v)))
    generalize w.setCell ⟨b, 1, none⟩ (.int .u64 (more n)) = w1 at hk r2 k0 k1 k2 hx
    clear r
    go_enter Try.func44, Try.ntmps44
    go_wp2_with fail
    refine hk.mono ?_
    rintro e w' ⟨rfl, rfl⟩
    go_wp2_with fail
    go_ret2
    exact ⟨rfl, r2, hx⟩
  · rw [show errAt ws.length a = 4 from if_neg ha] at hk ⊢
    rw [show wordAt ws a = 0 from if_neg ha, show ∀ v, putAt ws a v = ws from fun v => if_neg ha]
    go_enter Try.func44, Try.ntmps44
    go_wp2_with fail
    refine hk.mono ?_
    rintro e w' ⟨rfl, rfl⟩
    go_wp2_with fail
    go_ret2
    exact ⟨rfl, r, keeps_count _⟩

set_option maxHeartbeats 400000 in
theorem rwords_nil (w : World) : Calls Try.prog 47 #[.pointer none] w fun e w' => e = .returned (.slice none 0 0) ∧ w' = w := by
  go_enter Try.func47, Try.ntmps47
  go_wp2
  go_ret
  exact ⟨rfl, rfl⟩
set_option maxHeartbeats 400000 in
theorem rwords_at (b : Nat) (s : Option Addr) (l cap : Nat) (w : World) (h0 : w.cell? ⟨b, 0, none⟩ = some (.slice s l cap)) :
    Calls Try.prog 47 #[.pointer (some ⟨b, 0, none⟩)] w fun e w' => e = .returned (.slice s l cap) ∧ w' = w := by
  go_enter Try.func47, Try.ntmps47
  go_wp2
  go_ret
  exact ⟨rfl, rfl⟩

set_option maxHeartbeats 400000 in
theorem rslice_nil (x y : Int) (w : World) : Calls Try.prog 59 #[.pointer none, .int .u64 x, .int .u64 y] w fun e w' => e = .returned (.tuple #[.slice none 0 0, .int .i64 1]) ∧ w' = w := by
  go_enter Try.func59, Try.ntmps59
  go_wp2
  go_ret2
  exact ⟨rfl, rfl⟩
set_option maxHeartbeats 400000 in
theorem rslice_arg (b : Nat) (x y : Int) (w : World) (h : y < x) : Calls Try.prog 59 #[.pointer (some ⟨b, 0, none⟩), .int .u64 x, .int .u64 y] w fun e w' => e = .returned (.tuple #[.slice none 0 0, .int .i64 2]) ∧ w' = w := by
  go_enter Try.func59, Try.ntmps59
  go_wp2
  go_ret2
  exact ⟨rfl, rfl⟩
set_option maxHeartbeats 400000 in
theorem rslice_range (b : Nat) (s : Option Addr) (l cap : Nat) (x y : Int) (w : World) (h0 : w.cell? ⟨b, 0, none⟩ = some (.slice s l cap)) (hl : l ≤ 65536) (h : x ≤ y) (hy : (l : Int) < y) : Calls Try.prog 59 #[.pointer (some ⟨b, 0, none⟩), .int .u64 x, .int .u64 y] w fun e w' => e = .returned (.tuple #[.slice none 0 0, .int .i64 4]) ∧ w' = w := by
  go_enter Try.func59, Try.ntmps59
  go_wp2
  go_ret2
  exact ⟨rfl, rfl⟩
/-- A part of a block is handed back. -/
def PartOf (w : World) (c : Nat) (x y : Int) (e : Ending) (w' : World) : Prop := ∃ a d, e = .returned (.tuple #[.slice (some ⟨c, a, none⟩) (y.toNat - x.toNat) d, .int .i64 0]) ∧ (x < y → a = x.toNat) ∧ w' = w
set_option maxHeartbeats 400000 in
theorem rslice_in (b c : Nat) (l cap : Nat) (x y : Int) (w : World) (h0 : w.cell? ⟨b, 0, none⟩ = some (.slice (some ⟨c, 0, none⟩) l cap)) (hl : l ≤ 65536) (hc : l ≤ cap) (hx : 0 ≤ x) (h : x ≤ y) (hy : y ≤ (l : Int)) :
    Calls Try.prog 59 #[.pointer (some ⟨b, 0, none⟩), .int .u64 x, .int .u64 y] w (PartOf w c x y) := by
  have hyc : y ≤ (cap : Int) := by omega
  by_cases hcx : cap = x.toNat
  · have hn : ¬ x < y := by omega
    go_enter Try.func59, Try.ntmps59
    go_wp2
    all_goals go_ret2
    all_goals exact ⟨_, _, rfl, fun h => by omega, rfl⟩
  · go_enter Try.func59, Try.ntmps59
    go_wp2
    all_goals go_ret2
    all_goals exact ⟨_, _, rfl, fun _ => rfl, rfl⟩

end Go.Proofs.Ytmffkcbdgpaieaa
