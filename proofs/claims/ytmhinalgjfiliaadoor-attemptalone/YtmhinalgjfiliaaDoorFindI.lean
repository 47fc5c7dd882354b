
/-
  Walks of the program's small methods on a table: Slots, made, Len, next, far, find, Asked. No statement of the seat is proved here.
-/
import Derived.Test.YtmhinalgjfiliaaDoorTab
import Derived.WalkMore
import Derived.ScopeJumps
namespace Go.Proofs.YtmhinalgjfiliaaDoor.I
open Go.RowKit

set_option maxHeartbeats 400000 in
theorem slots_nil (w : World) : Calls Tryd.prog 80 #[.pointer none] w fun e w' => e = .returned (.int .i64 0) ∧ w' = w := by
  go_enter Tryd.func80, Tryd.ntmps80
  go_wp2
  go_ret
  exact ⟨rfl, rfl⟩
set_option maxHeartbeats 400000 in
theorem slots_at (b : Nat) (s : Option Addr) (l cap : Nat) (w : World) (h0 : w.cell? ⟨b, 0, none⟩ = some (.slice s l cap)) :
    Calls Tryd.prog 80 #[.pointer (some ⟨b, 0, none⟩)] w fun e w' => e = .returned (.int .i64 l) ∧ w' = w := by
  go_enter Tryd.func80, Tryd.ntmps80
  go_wp2
  go_ret
  exact ⟨rfl, rfl⟩
set_option maxHeartbeats 400000 in
theorem made_nil (w : World) : Calls Tryd.prog 69 #[.pointer none] w fun e w' => e = .returned (.bool false) ∧ w' = w := by
  go_enter Tryd.func69, Tryd.ntmps69
  go_wp2_with (go_at_call 80; refine (slots_nil _).mono ?_; rintro e w' ⟨rfl, rfl⟩)
  go_ret
  exact ⟨rfl, rfl⟩
set_option maxHeartbeats 400000 in
theorem made_at (b : Nat) (s : Option Addr) (l cap : Nat) (w : World) (h0 : w.cell? ⟨b, 0, none⟩ = some (.slice s l cap)) :
    Calls Tryd.prog 69 #[.pointer (some ⟨b, 0, none⟩)] w fun e w' => e = .returned (.bool (decide (0 < l))) ∧ w' = w := by
  go_enter Tryd.func69, Tryd.ntmps69
  go_wp2_with (go_at_call 80; refine (slots_at b s l cap _ h0).mono ?_; rintro e w' ⟨rfl, rfl⟩)
  go_ret
  exact ⟨by simp, rfl⟩
theorem made_yes (b s l : Nat) (hl : 0 < l) (w : World) (h0 : w.cell? ⟨b, 0, none⟩ = some (.slice (some ⟨s, 0, none⟩) l l)) :
    Calls Tryd.prog 69 #[.pointer (some ⟨b, 0, none⟩)] w fun e w' => e = .returned (.bool true) ∧ w' = w :=
  (made_at b _ l l w h0).mono fun _ _ ⟨h1, h2⟩ => ⟨by rw [h1, decide_eq_true hl], h2⟩

set_option maxHeartbeats 400000 in
theorem next_at (b s n x p : Nat) (w : World) (hp : p < 48) (hn : Hid (n = 2 ^ p)) (hx : x < n) (h0 : w.cell? ⟨b, 0, none⟩ = some (.slice (some ⟨s, 0, none⟩) n n)) :
    Calls Tryd.prog 82 #[.pointer (some ⟨b, 0, none⟩), .int .i64 x] w fun e w' => e = .returned (.int .i64 (wrapN n (x + 1))) ∧ w' = w := by
  have hN : (n : Int) = 2 ^ p := by rw [hn.out, Int.natCast_pow]; rfl
  have hb := pow_le_big (p := p) (by omega)
  have hm : bits .and .i64 ((x : Int) + 1) ((n : Int) - 1) = wrapN n (x + 1) := by
    rw [hN, and_mask p (by omega), ← hN]
    unfold wrapN
    split
    · rw [Int.emod_eq_of_lt (by omega) (by omega)]; omega
    · obtain rfl : n = x + 1 := by omega
      simp
  rw [← hN] at hb
  have HN := hn
  clear hn
  have HN2 : Hid ((n : Int) = 2 ^ p) := hN
  clear hN
  go_enter Tryd.func82, Tryd.ntmps82
  go_wp2_with fail
  go_ret
  exact ⟨rfl, rfl⟩

/-- What holds at the label of find. -/
def FindJ (w : World) (b n a L : Nat) (k : Int) (a' : Act) (w' : World) : Prop := w' = w ∧ ∃ (d y : Nat) (u6 u7 u8 u9 u10 u11 u12 u13 u14 u15 u16 u17 u18 u19 u20 u21 u22 u23 u24 u25 u26 u27 u28 u29 u30 u31 u32 u33 u34 u35 u36 u37 : Value), d ≤ L ∧ Hid (y = wrapN n (a + d)) ∧
  a' = { tmps := #[.pointer (some ⟨b, 0, none⟩), .int .u64 k, undef, undef, .int .i64 y, .int .i64 d, u6, u7, u8, u9, u10, u11, u12, u13, u14, u15, u16, u17, u18, u19, u20, u21, u22, u23, u24, u25, u26, u27, u28, u29, u30, u31, u32, u33, u34, u35, u36, u37], defers := [] }

set_option maxHeartbeats 400000 in
theorem find_gen (b s p n a L x : Nat) (K : List (Option Int)) (bf : Int → Nat) (k : Int) (w : World) (hS : Seen w b s p K bf) (hw : Tz w) (hn : Hid (n = 2 ^ p)) (ha : Hid (a = homeP p k)) (hL : L < n)
    (hE : ends K k (wrapN n (a + L)) = true) (hB : ∀ j, j < L → ends K k (wrapN n (a + j)) = false) (hx : Hid (x = wrapN n (a + L))) :
    Calls Tryd.prog 70 #[.pointer (some ⟨b, 0, none⟩), .int .u64 k] w fun e w' => e = .returned (.tuple #[.int .i64 x, .int .i64 (L + 1 : Nat)]) ∧ w' = w := by
  have h0 := hS.c0
  have hKn : Hid (K.length = n) := by unfold Hid; rw [hS.len, hn.out]
  have han : a < n := by rw [ha.out, hn.out]; exact homeP_lt p (Nat.lt_trans hS.p63 (by decide)) k
  have hLb : L < 4611686018427387904 := by
    have : (2 : Nat) ^ p ≤ 2 ^ 62 := Nat.pow_le_pow_right (by decide) (by have := hS.p63; omega)
    have := hn.out
    omega
  have hhome := home_at k p K.length hS.p3 (Nat.lt_trans hS.p63 (by decide)) (by rw [hS.len, Int.natCast_pow]; rfl) w hw
  rw [← ha.out] at hhome
  go_enter Tryd.func70, Tryd.ntmps70
  go_wp2_with fail
  refine wp_scope_loop 0 (FindJ w b n a L k) (fun a' _ => L - (intOf (a'.tmps.getD 5 undef)).toNat) rfl ?_ ?_
  · go_wp2_with (go_at_call 81; refine hhome.mono ?_; rintro e w' ⟨rfl, rfl⟩)
    exact ⟨rfl, 0, a, _, _, _, _, _, _, _, _, _, _, _, _, _, _, _, _, _, _, _, _, _, _, _, _, _, _, _, _, _, _, _, _, Nat.zero_le _, (show wrapN n (a + 0) = a from if_pos han).symm, rfl⟩
  · rintro a' w' ⟨rfl, d, y, u6, u7, u8, u9, u10, u11, u12, u13, u14, u15, u16, u17, u18, u19, u20, u21, u22, u23, u24, u25, u26, u27, u28, u29, u30, u31, u32, u33, u34, u35, u36, u37, hd, hy, rfl⟩
    have hxl : y < K.length := by rw [hKn.out, hy.out]; exact wrap_lt (by omega)
    have hcx := hS.cs _ hxl
    rcases Nat.lt_or_ge d L with hlt | hge
    · have hne := hB d hlt
      rw [← hy.out] at hne
      cases hs : sl K y with
      | none => rw [ends_none hs] at hne; cases hne
      | some q =>
        rw [ends_some hs] at hne
        have hqk : (q != k) = true := by simpa using hne
        have hck := hS.ck _ _ hs
        rw [hs] at hcx
        simp only [slotVal] at hcx
        have hnext := next_at b s K.length y p w' hS.p63 hS.len hxl h0
        have HX : Hid (wrapN K.length (y + 1) = wrapN n (a + (d + 1))) := by
          unfold Hid
          rw [hKn.out, hy.out]
          unfold wrapN
          split <;> split <;> split <;> omega
        clear hB hE hs hne hS hhome
        go_wp2_with fail
        refine hnext.mono ?_
        rintro e w ⟨rfl, rfl⟩
        go_wp2_with fail
        go_step3
        refine ⟨rfl, ⟨rfl, d + 1, _, _, _, _, _, _, _, _, _, _, _, _, _, _, _, _, _, _, _, _, _, _, _, _, _, _, _, _, _, _, _, _, _, by omega, HX, rfl⟩, ?_⟩
        simp [intOf]
        omega
    · obtain rfl : d = L := by omega
      obtain rfl : x = y := by rw [hx.out, hy.out]
      rw [← hx.out] at hE
      cases hs : sl K x with
      | none =>
        rw [hs] at hcx
        simp only [slotVal] at hcx
        clear hB hE hs hS hhome
        go_wp2_with fail
        simp only [Exit.jump]
        go_ret2
        exact ⟨rfl, rfl⟩
      | some q =>
        rw [ends_some hs] at hE
        obtain rfl : q = k := of_decide_eq_true hE
        have hqk : (q != q) = false := by simp
        have hck := hS.ck _ _ hs
        rw [hs] at hcx
        simp only [slotVal] at hcx
        clear hB hE hs hS hhome
        go_wp2_with fail
        simp only [Exit.jump]
        go_ret2
        exact ⟨rfl, rfl⟩

theorem find_at (b s p : Nat) (K : List (Option Int)) (bf : Int → Nat) (k : Int) (w : World) (hS : Seen w b s p K bf) (hw : Tz w) (hz : ∃ z, z < 2 ^ p ∧ sl K z = none) :
    Calls Tryd.prog 70 #[.pointer (some ⟨b, 0, none⟩), .int .u64 k] w fun e w' =>
      e = .returned (.tuple #[.int .i64 (slotN (2 ^ p) K (homeP p k) k), .int .i64 (lookN (2 ^ p) K (homeP p k) k + 1 : Nat)]) ∧ w' = w := by
  obtain ⟨hL, hE, hB⟩ := look_spec (homeP_lt p (Nat.lt_trans hS.p63 (by decide)) k) k hz
  exact find_gen b s p (2 ^ p) (homeP p k) (lookN (2 ^ p) K (homeP p k) k) (slotN (2 ^ p) K (homeP p k) k) K bf k w hS hw rfl rfl hL hE hB rfl

end Go.Proofs.YtmhinalgjfiliaaDoor.I
