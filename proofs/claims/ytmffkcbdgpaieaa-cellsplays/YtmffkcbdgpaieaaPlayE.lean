/-
  Walks of the document's own Fill and Differ, and of the program's Differ and Same where the second row is not there. No statement of the seat is proved here.
-/
import Derived.Test.YtmffkcbdgpaieaaPlayD
namespace Go.Proofs.Ytmffkcbdgpaieaa
open Go.RowKit

set_option maxHeartbeats 400000 in
theorem rfill_nil (a : Int) (v : Value) (w : World) : Calls Try.prog 58 #[.pointer none, .int .u64 a, v] w fun e w' => e = .returned (.int .i64 1) ∧ w' = w := by
  go_enter Try.func58, Try.ntmps58
  go_wp2
  go_ret
  exact ⟨rfl, rfl⟩

set_option maxRecDepth 100000 in
set_option maxHeartbeats 1000000 in
theorem rfill_at (b c cap : Nat) (rest : List Value) (ws : List Int) (n a : Int) (sp : Option Addr) (l cp : Nat) (vs : List Int) (w : World) (h : RefAt w b c cap rest ws n) (ha : 0 ≤ a) (ha' : a ≤ 18446744073709551615) (hn : vs.length = l) (hr : Reads w sp vs) (hs : 0 < l → ∀ x, sp = some x → x.block ≠ b ∧ x.block ≠ c) (hl : l * 8 ≤ 140737488355328) :
    Calls Try.prog 58 #[.pointer (some ⟨b, 0, none⟩), .int .u64 a, .slice sp l cp] w fun e w' => e = .returned (.int .i64 (fillErr ws a vs)) ∧ RefAt w' b c cap rest (filled ws a vs) n ∧ Keeps (fun k => k = b ∨ k = c) w w' := by
  have c0 := h.cell0
  have hp := h.pos
  have hle := h.le
  by_cases h0 : l = 0
  · subst h0
    obtain rfl : vs = [] := List.eq_nil_of_length_eq_zero hn
    rw [filled_nil, show fillErr ws a [] = 0 from rfl]
    go_enter Try.func58, Try.ntmps58
    go_wp2_with fail
    go_ret
    exact ⟨rfl, h, Keeps.refl _ _⟩
  · have h0' : ((l : Int) == 0) = false := by simp; omega
    have hls : (l : Int) ≤ 17592186044416 := by omega
    by_cases hin : a < (ws.length : Int)
    · have hd2 : decide (a < (ws.length : Int)) = true := by simp; omega
      by_cases hfit : a.toNat + l ≤ ws.length
      · rw [show fillErr ws a vs = 0 from by unfold fillErr; rw [if_neg (by omega), if_pos (by omega)], show filled ws a vs = fillTo ws a.toNat vs l from by unfold filled; rw [if_pos (by omega), hn]]
        have hfit' : (l : Int) ≤ (ws.length : Int) - a := by omega
        have HN : Hid (vs.length = l) := hn
        clear hn
        go_enter Try.func58, Try.ntmps58
        go_wp2_with fail
        refine (rhas_at a b _ ws.length cap hle _ c0).mono ?_
        rintro e w' ⟨rfl, hw'⟩
        subst hw'
        go_wp2_with fail
        go_loopw [8] (fun i wr => ∃ k : Nat, k ≤ l ∧ i = .int .i64 k ∧ RefAt wr b c cap rest (fillTo ws a.toNat vs k) n ∧ Keeps (fun x => x = b ∨ x = c) w' wr) (fun i _ => l - (intOf i).toNat)
        case atStart => exact ⟨0, Nat.zero_le _, rfl, h, Keeps.refl _ _⟩
        case round =>
          obtain ⟨k, hk, rfl, rk, kk⟩ := hrel
          by_cases hlt : k < l
          · obtain ⟨b2, o2, rfl, g2⟩ := hr.at k (by rw [HN.out]; exact hlt)
            have hs1 : b2 ≠ b := (hs (by omega) _ rfl).1
            have hs2 : b2 ≠ c := (hs (by omega) _ rfl).2
            replace g2 := kk.cell (by omega) g2
            have z0 := rk.cell0
            have hlen := fillTo_len ws a.toNat vs k
            have z1 := rk.wcell (a.toNat + k) (by omega)
            have z2 := rk.wfrozen (a.toNat + k)
            have r2 := rk.store (a.toNat + k) (vs[k]?.getD 0) (by omega)
            have HS : Hid (fillTo ws a.toNat vs (k + 1) = (fillTo ws a.toNat vs k).set (a.toNat + k) (vs[k]?.getD 0)) := rfl
            generalize vs[k]?.getD 0 = y at g2 r2 HS
            rw [hlen] at z0
            generalize fillTo ws a.toNat vs k = X at rk z1 r2 HS
            generalize X[a.toNat + k]?.getD 0 = q at z1
            have kk1 := kk.setCell (p := ⟨c, a.toNat + k, none⟩) (.inr (.inr rfl)) (.int .u64 y)
            have e1 : IntKind.u64.wrap (a + (k : Int)) = a + (k : Int) := by rw [wrap_u64]; omega
            have e2 : (a + (k : Int)).toNat = a.toNat + k := by omega
            have e3 : a + (k : Int) < (ws.length : Int) := by omega
            have e4 : 0 ≤ a + (k : Int) := by omega
            clear hs hlen rk
            go_wp2
            go_region
            go_wp2
            go_roundw
            case rel => exact ⟨k + 1, by omega, by go_num, by rw [HS.out]; exact ⟨r2.row, r2.words, r2.ne, r2.pos, r2.le, r2.cap⟩, ⟨kk1.os, kk1.tape, kk1.output, kk1.size, kk1.block⟩⟩
            case measure => simp [intOf]; omega
          · obtain rfl : k = l := by omega
            go_wp2
            go_ret
            exact ⟨rfl, rk, kk⟩
      · rw [show fillErr ws a vs = 4 from by unfold fillErr; rw [if_neg (by omega), if_neg (by omega)], show filled ws a vs = ws from by unfold filled; rw [if_neg (by omega)]]
        have hfit' : (ws.length : Int) - a < (l : Int) := by omega
        go_enter Try.func58, Try.ntmps58
        go_wp2_with fail
        refine (rhas_at a b _ ws.length cap hle _ c0).mono ?_
        rintro e w' ⟨rfl, hw'⟩
        subst hw'
        go_wp2_with fail
        go_ret
        exact ⟨rfl, h, Keeps.refl _ _⟩
    · have hd2 : decide (a < (ws.length : Int)) = false := by simp; omega
      rw [show fillErr ws a vs = 4 from by unfold fillErr; rw [if_neg (by omega), if_neg (by omega)], show filled ws a vs = ws from by unfold filled; rw [if_neg (by omega)]]
      go_enter Try.func58, Try.ntmps58
      go_wp2_with fail
      refine (rhas_at a b _ ws.length cap hle _ c0).mono ?_
      rintro e w' ⟨rfl, hw'⟩
      subst hw'
      go_wp2_with fail
      go_ret
      exact ⟨rfl, h, Keeps.refl _ _⟩

end Go.Proofs.Ytmffkcbdgpaieaa
