
/-
  Walks of the program's Load, Store, Swap, Add on a row (cells.Row), and of New: what each returns, the row behind it, and that no other block has turned. No statement of the seat is proved here.
-/
import Derived.Test.YtlldffbohojppaaCRowB
namespace Go.Proofs.Ytlldffbohojppaa
open Go.RowKit

/-- The number of an access' error at a row of so many cells. -/
def errAt (l : Nat) (a : Int) : Int := if a < (l : Int) then 0 else 4
/-- One more access. -/
def more (n : Int) : Int := IntKind.u64.wrap (n + 1)
/-- The word of an address: 0, where there is no such cell. -/
def wordAt (ws : List Int) (a : Int) : Int := if a < (ws.length : Int) then ws[a.toNat]?.getD 0 else 0
/-- The words behind a store: as they were, where there is no such cell. -/
def putAt (ws : List Int) (a v : Int) : List Int := if a < (ws.length : Int) then ws.set a.toNat v else ws

theorem putAt_len (ws : List Int) (a v : Int) : (putAt ws a v).length = ws.length := by unfold putAt; split <;> simp

section
variable {w : World} {b c : Nat} {ws : List Int} {n : Int}
theorem keeps_count (v : Value) : Keeps (fun k => k = b ∨ k = c) w (w.setCell ⟨b, 1, none⟩ v) := (Keeps.refl _ w).setCell (p := ⟨b, 1, none⟩) (.inr (.inl rfl)) v
theorem keeps_both (i : Nat) (v u : Value) : Keeps (fun k => k = b ∨ k = c) w ((w.setCell ⟨b, 1, none⟩ v).setCell ⟨c, i, none⟩ u) := (keeps_count v).setCell (p := ⟨c, i, none⟩) (.inr (.inr rfl)) u
end

set_option maxHeartbeats 400000 in
theorem load_none (p : Option Addr) (a : Int) (w : World) (hp : p = none ∨ ∃ b, p = some ⟨b, 0, none⟩ ∧ w.cell? ⟨b, 0, none⟩ = some (.slice none 0 0)) :
    Calls Try.prog 29 #[.pointer p, .int .u64 a] w fun e w' => e = .returned (.tuple #[.int .u64 0, .int .i64 1]) ∧ w' = w := by
  rcases hp with rfl | ⟨b, rfl, h0⟩
  · go_enter Try.func29, Try.ntmps29
    go_wp2_with (go_at_call 36; refine (access_nil _ _).mono ?_; rintro e w' ⟨rfl, rfl⟩)
    go_ret2
    exact ⟨rfl, rfl⟩
  · go_enter Try.func29, Try.ntmps29
    go_wp2_with (go_at_call 36; refine (access_zero b _ _ h0).mono ?_; rintro e w' ⟨rfl, rfl⟩)
    go_ret2
    exact ⟨rfl, rfl⟩

set_option maxHeartbeats 400000 in
theorem load_at (b c : Nat) (ws : List Int) (n a : Int) (w : World) (h : RowAt w 68 22 b c ws n) (h0 : 0 ≤ a) :
    Calls Try.prog 29 #[.pointer (some ⟨b, 0, none⟩), .int .u64 a] w fun e w' => e = .returned (.tuple #[.int .u64 (wordAt ws a), .int .i64 (errAt ws.length a)]) ∧ RowAt w' 68 22 b c ws (more n) ∧ Keeps (fun k => k = b ∨ k = c) w w' := by
  by_cases ha : a < (ws.length : Int)
  · have k0 := (h.count (more n)).wcell a.toNat (by omega)
    have r := h.count (more n)
    rw [show errAt ws.length a = 0 from if_pos ha, show wordAt ws a = ws[a.toNat]?.getD 0 from if_pos ha]
    generalize ws[a.toNat]?.getD 0 = x at k0 ⊢
    unfold more at k0
    go_enter Try.func29, Try.ntmps29
    go_wp2_with fail
    refine (access_in b c ws n a _ h h0 ha).mono ?_
    rintro e w' ⟨rfl, rfl⟩
    go_wp2_with fail
    go_ret2
    exact ⟨rfl, r, keeps_count _⟩
  · have r := h.count (more n)
    rw [show errAt ws.length a = 4 from if_neg ha, show wordAt ws a = 0 from if_neg ha]
    go_enter Try.func29, Try.ntmps29
    go_wp2_with fail
    refine (access_out b c ws n a _ h (by omega)).mono ?_
    rintro e w' ⟨rfl, rfl⟩
    go_wp2_with fail
    go_ret2
    exact ⟨rfl, r, keeps_count _⟩

set_option maxHeartbeats 400000 in
theorem swap_none (p : Option Addr) (a o v : Int) (w : World) (hp : p = none ∨ ∃ b, p = some ⟨b, 0, none⟩ ∧ w.cell? ⟨b, 0, none⟩ = some (.slice none 0 0)) :
    Calls Try.prog 37 #[.pointer p, .int .u64 a, .int .u64 o, .int .u64 v] w fun e w' => e = .returned (.tuple #[.bool false, .int .i64 1]) ∧ w' = w := by
  rcases hp with rfl | ⟨b, rfl, h0⟩
  · go_enter Try.func37, Try.ntmps37
    go_wp2_with (go_at_call 36; refine (access_nil _ _).mono ?_; rintro e w' ⟨rfl, rfl⟩)
    go_ret2
    exact ⟨rfl, rfl⟩
  · go_enter Try.func37, Try.ntmps37
    go_wp2_with (go_at_call 36; refine (access_zero b _ _ h0).mono ?_; rintro e w' ⟨rfl, rfl⟩)
    go_ret2
    exact ⟨rfl, rfl⟩

/-- Whether a Swap is done. -/
def swaps (ws : List Int) (a o : Int) : Bool := decide (a < (ws.length : Int)) && (ws[a.toNat]?.getD 0 == o)

set_option maxHeartbeats 400000 in
theorem swap_at (b c : Nat) (ws : List Int) (n a o v : Int) (w : World) (h : RowAt w 68 22 b c ws n) (h0 : 0 ≤ a) :
    Calls Try.prog 37 #[.pointer (some ⟨b, 0, none⟩), .int .u64 a, .int .u64 o, .int .u64 v] w fun e w' => e = .returned (.tuple #[.bool (swaps ws a o), .int .i64 (errAt ws.length a)]) ∧ RowAt w' 68 22 b c (if swaps ws a o then putAt ws a v else ws) (more n) ∧ Keeps (fun k => k = b ∨ k = c) w w' := by
  by_cases ha : a < (ws.length : Int)
  · have r := (h.count (more n)).store a.toNat v
    have r' := h.count (more n)
    have k0 := (h.count (IntKind.u64.wrap (n + 1))).wcell a.toNat (by omega)
    have k1 := (h.count (IntKind.u64.wrap (n + 1))).wfrozen a.toNat
    rw [show errAt ws.length a = 0 from if_pos ha, show putAt ws a v = ws.set a.toNat v from if_pos ha]
    have hs : swaps ws a o = (ws[a.toNat]?.getD 0 == o) := by simp [swaps, ha]
    rw [hs]
    clear hs
    generalize ws[a.toNat]?.getD 0 = x at k0 ⊢
    cases hb : (x == o)
    · have hb' : (x != o) = true := by simp [bne, hb]
      go_enter Try.func37, Try.ntmps37
      go_wp2_with fail
      refine (access_in b c ws n a _ h h0 ha).mono ?_
      rintro e w' ⟨rfl, rfl⟩
      go_wp2_with fail
      go_ret2
      exact ⟨rfl, r', keeps_count _⟩
    · have hb' : (x != o) = false := by simp [bne, hb]
      go_enter Try.func37, Try.ntmps37
      go_wp2_with fail
      refine (access_in b c ws n a _ h h0 ha).mono ?_
      rintro e w' ⟨rfl, rfl⟩
      go_wp2_with fail
      go_ret2
      exact ⟨rfl, r, keeps_both _ _ _⟩
  · have r := h.count (more n)
    have hs : swaps ws a o = false := by simp [swaps, ha]
    rw [show errAt ws.length a = 4 from if_neg ha, hs]
    clear hs
    go_enter Try.func37, Try.ntmps37
    go_wp2_with fail
    refine (access_out b c ws n a _ h (by omega)).mono ?_
    rintro e w' ⟨rfl, rfl⟩
    go_wp2_with fail
    go_ret2
    exact ⟨rfl, r, keeps_count _⟩

end Go.Proofs.Ytlldffbohojppaa
