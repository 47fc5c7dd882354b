
/- The walk of the law SeqTurns. -/
import Derived.Test.YtlldffbohojppaaSeqW
import Derived.LoopTactic
namespace Go.Proofs.Ytlldffbohojppaa
open Go.RowKit

theorem Keeps.cell {S : Nat → Prop} {w w' : World} (k : Keeps S w w') {a : Addr} {v : Value} (hs : ¬ S a.block) (h : w.cell? a = some v) : w'.cell? a = some v := by
  have hb := World.block_lt_of_cell? _ _ h
  unfold World.cell? at h ⊢
  rw [k.block _ hb hs]
  exact h

/-- Words that came in. -/
def WordsAt (w : World) (sp : Option Addr) (ws : List Int) : Prop := ∀ i, i < ws.length → ∃ g o, sp = some ⟨g, o, none⟩ ∧ w.cell? ⟨g, o + i, none⟩ = some (.int .u64 (ws[i]?.getD 0))
/-- Bools that came in. -/
def BoolsAt (w : World) (sp : Option Addr) (bs : List Bool) : Prop := ∀ i, i < bs.length → ∃ g o, sp = some ⟨g, o, none⟩ ∧ w.cell? ⟨g, o + i, none⟩ = some (.bool (bs[i]?.getD false))

theorem turns_odd (x : Int) (h : ¬ x % 2 = 0) : turns x x x = false := by simp [turns, h]
theorem turns_even (x : Int) (h : x % 2 = 0) : turns x x x = true := by simp [turns, h]
theorem turns_ahead (x : Int) (h0 : 0 ≤ x) (h1 : x < 18446744073709551616) (h : ¬ x % 2 = 0) : turns x (x - 1) (upw (x - 1) 1) = true := by
  rw [upw_val]
  simp [turns]
  omega
theorem turns_held (x t : Int) (h : x % 2 = 0) : turns (upw x 1) t t = false := by
  rw [upw_val]
  simp [turns]
  omega
theorem turns_other (x t : Int) (h0 : 0 ≤ x) (h1 : x < 18446744073709551616) (h : x % 2 = 0) (t0 : 0 ≤ t) (t1 : t < 18446744073709551616) (ht : t ≠ x) : turns (upw x 1) t (upw t 1) = false := by
  rw [upw_val, upw_val]
  simp [turns]
  omega
theorem turns_own (x : Int) (h : x % 2 = 0) : turns (upw x 1) x (upw x 1) = true := by simp [turns, h]
theorem turns_left (x : Int) : turns (upw x 2) x (upw x 1) = false := by
  rw [upw_val, upw_val]
  simp [turns]
  omega

theorem wrap_pred (x : Int) (h0 : 1 ≤ x) (h1 : x < 18446744073709551616) : IntKind.u64.wrap (x - 1) = x - 1 := by
  rw [Int.sub_eq_add_neg]
  exact (upw_val x (-1)).trans (by omega)
theorem half_up (x : Int) (h : x % 2 = 0) : (x / 2 + 1) % 9223372036854775808 = upw x 2 / 2 := by
  rw [upw_val]
  omega
theorem half_up' (x : Int) (h : ¬ x % 2 = 0) : (x / 2 + 1) % 9223372036854775808 = upw (x - 1) 2 / 2 := by
  rw [upw_val]
  omega

set_option maxRecDepth 20000 in
set_option maxHeartbeats 1600000 in
theorem turns_law (x0 : Int) (h0 : 0 ≤ x0) (h1 : x0 < 18446744073709551616) (sp bp : Option Addr) (l c bl bc : Nat) (ts : List Int) (bs : List Bool) (w : World) (hl : ts.length = l) (hbl : bs.length = bl) (ht : WordsAt w sp ts) (hb : BoolsAt w bp bs)
    (hwt : ∀ t ∈ ts, 0 ≤ t ∧ t < 18446744073709551616) (hl2 : l < 9223372036854775808) :
    Calls Try.prog 4 #[.int .u64 x0, .slice sp l c, .slice bp bl bc] w fun e w' => e = .returned (.bool true) ∧ Keeps (fun _ => False) w w' := by
  go_enter Try.func4, Try.ntmps4
  go_wp2_with fail
  refine (from_any x0 h0 h1 _).mono ?_
  rintro e w1 ⟨p, b, d, rfl, hC, hK, lp, lb, ld⟩
  go_wp2_with (go_at_call 14; refine (number_any x0 _).mono ?_; rintro e w' ⟨rfl, rfl⟩)
  go_loopw [8, 9] (fun n i wr => ∃ (k : Nat) (x st : Int), k ≤ l ∧ n = .int .u64 (x / 2) ∧ i = .int .i64 k ∧ ClkAt wr p b d x st ∧ Keeps (fun _ => False) w wr) (fun _ i _ => l - (intOf i).toNat)
  case atStart => exact ⟨0, x0, 0, by omega, rfl, rfl, hC, hK⟩
  case round =>
    clear hC hK
    obtain ⟨k, x, st, hk, rfl, rfl, hC, hK⟩ := hrel
    by_cases hlt : k < l
    · have hlt' : (k : Int) < (l : Int) := by omega
      obtain ⟨g, o, rfl, ht0⟩ := ht k (by omega)
      have htm := hwt (ts[k]?.getD 0) (by rw [List.getElem?_eq_getElem (by omega)]; exact List.getElem_mem (by omega))
      generalize ts[k]?.getD 0 = t at ht0 htm
      have hg := World.block_lt_of_cell? _ _ ht0
      go_wp2_with fail
      refine (cload_at p b d x st _ hC).mono ?_
      rintro e w2 ⟨rfl, hC2, hK2⟩
      replace hK2 := keeps_own hK hK2 lp lb ld
      have q1 : (x / 2 != x / 2) = false := by simp
      have q2 : (decide (x % 2 = 0) != (x % 2 == 0)) = false := by by_cases h : x % 2 = 0 <;> simp [h]
      have hx0 := hC.lo
      have hx1 := hC.hi
      clear hC hK
      by_cases hx : x % 2 = 0
      · have q3 : decide (x % 2 = 0) = true := by simp [hx]
        rw [q3] at q2
        have hop := open_any x hx0 hx1
        rw [q3] at hop
        go_wp2_with (first | (go_at_call 14; refine (number_any x _).mono ?_; rintro e w' ⟨rfl, rfl⟩) | (go_at_call 15; refine (hop _).mono ?_; rintro e w' ⟨rfl, rfl⟩))
        refine (take_at p b d x _ x _ hC2 hx0 hx1).mono ?_
        rw [turns_even x hx, if_pos rfl]
        rintro e w3 ⟨rfl, hC3, hK3⟩
        replace hK3 := keeps_own hK2 hK3 lp lb ld
        clear hC2 hK2
        have ht3 : w3.cell? ⟨g, o + k, none⟩ = some (.int .u64 t) := hK3.cell (fun f => f) ht0
        go_wp2_with (go_at_call 15; refine (hop _).mono ?_; rintro e w' ⟨rfl, rfl⟩)
        refine (take_at p b d _ _ t _ hC3 htm.1 htm.2).mono ?_
        rw [turns_held x t hx, if_neg (by decide)]
        rintro e w4 ⟨rfl, hC4, hK4⟩
        replace hK4 := keeps_own hK3 hK4 lp lb ld
        clear hC3 hK3 ht3
        have ht4 : w4.cell? ⟨g, o + k, none⟩ = some (.int .u64 t) := hK4.cell (fun f => f) ht0
        by_cases hbk : k < bl
        · have hbk' : (k : Int) < (bl : Int) := by omega
          obtain ⟨g2, o2, rfl, hb0⟩ := hb k (by omega)
          cases hv : bs[k]?.getD false
          · rw [hv] at hb0
            clear hv
            by_cases htx : t = x
            · have q4 : (t != x) = false := by simp [htx]
              have hb1 : w4.cell? ⟨g2, o2 + k, none⟩ = some (.bool false) := hK4.cell (fun f => f) hb0
              clear htx
              go_wp2_with fail
              refine (leave_at p b d _ _ _ _ hC4 hx0 hx1).mono ?_
              rw [turns_own x hx, if_pos rfl, if_pos rfl]
              rintro e w7 ⟨rfl, hC7, hK7⟩
              replace hK7 := keeps_own hK4 hK7 lp lb ld
              clear hC4 hK4
              go_wp2_with fail
              refine (leave_at p b d _ _ _ _ hC7 hx0 hx1).mono ?_
              rw [turns_left x, if_neg (by decide), if_neg (by decide)]
              rintro e w8 ⟨rfl, hC8, hK8⟩
              replace hK8 := keeps_own hK7 hK8 lp lb ld
              clear hC7 hK7
              go_wp2_with fail
              go_roundw
              case rel => exact ⟨k + 1, upw x 2, _, by omega, congrArg (Value.int IntKind.u64) (half_up x hx), by go_num, hC8, hK8⟩
              case measure => simp [intOf]; omega
            · have q4 : (t != x) = true := by simp [htx]
              have hno := turns_other x t hx0 hx1 hx htm.1 htm.2 htx
              go_wp2_with fail
              refine (leave_at p b d _ _ _ _ hC4 htm.1 htm.2).mono ?_
              rw [hno, if_neg (by decide), if_neg (by decide)]
              rintro e w5 ⟨rfl, hC5, hK5⟩
              replace hK5 := keeps_own hK4 hK5 lp lb ld
              clear hC4 hK4 ht4
              have ht5 : w5.cell? ⟨g, o + k, none⟩ = some (.int .u64 t) := hK5.cell (fun f => f) ht0
              go_wp2_with fail
              refine (back_at p b d _ _ _ _ hC5 htm.1 htm.2).mono ?_
              rw [hno, if_neg (by decide), if_neg (by decide)]
              rintro e w6 ⟨rfl, hC6, hK6⟩
              replace hK6 := keeps_own hK5 hK6 lp lb ld
              clear hC5 hK5 ht5 hno
              have hb1 : w6.cell? ⟨g2, o2 + k, none⟩ = some (.bool false) := hK6.cell (fun f => f) hb0
              clear htx q4
              go_wp2_with fail
              refine (leave_at p b d _ _ _ _ hC6 hx0 hx1).mono ?_
              rw [turns_own x hx, if_pos rfl, if_pos rfl]
              rintro e w7 ⟨rfl, hC7, hK7⟩
              replace hK7 := keeps_own hK6 hK7 lp lb ld
              clear hC6 hK6
              go_wp2_with fail
              refine (leave_at p b d _ _ _ _ hC7 hx0 hx1).mono ?_
              rw [turns_left x, if_neg (by decide), if_neg (by decide)]
              rintro e w8 ⟨rfl, hC8, hK8⟩
              replace hK8 := keeps_own hK7 hK8 lp lb ld
              clear hC7 hK7
              go_wp2_with fail
              go_roundw
              case rel => exact ⟨k + 1, upw x 2, _, by omega, congrArg (Value.int IntKind.u64) (half_up x hx), by go_num, hC8, hK8⟩
              case measure => simp [intOf]; omega
          · rw [hv] at hb0
            clear hv
            by_cases htx : t = x
            · have q4 : (t != x) = false := by simp [htx]
              have hb1 : w4.cell? ⟨g2, o2 + k, none⟩ = some (.bool true) := hK4.cell (fun f => f) hb0
              clear htx
              go_wp2_with fail
              refine (back_at p b d _ _ _ _ hC4 hx0 hx1).mono ?_
              rw [turns_own x hx, if_pos rfl, if_pos rfl]
              rintro e w7 ⟨rfl, hC7, hK7⟩
              replace hK7 := keeps_own hK4 hK7 lp lb ld
              clear hC4 hK4
              go_wp2_with fail
              go_roundw
              case rel => exact ⟨k + 1, x, _, by omega, rfl, by go_num, hC7, hK7⟩
              case measure => simp [intOf]; omega
            · have q4 : (t != x) = true := by simp [htx]
              have hno := turns_other x t hx0 hx1 hx htm.1 htm.2 htx
              go_wp2_with fail
              refine (leave_at p b d _ _ _ _ hC4 htm.1 htm.2).mono ?_
              rw [hno, if_neg (by decide), if_neg (by decide)]
              rintro e w5 ⟨rfl, hC5, hK5⟩
              replace hK5 := keeps_own hK4 hK5 lp lb ld
              clear hC4 hK4 ht4
              have ht5 : w5.cell? ⟨g, o + k, none⟩ = some (.int .u64 t) := hK5.cell (fun f => f) ht0
              go_wp2_with fail
              refine (back_at p b d _ _ _ _ hC5 htm.1 htm.2).mono ?_
              rw [hno, if_neg (by decide), if_neg (by decide)]
              rintro e w6 ⟨rfl, hC6, hK6⟩
              replace hK6 := keeps_own hK5 hK6 lp lb ld
              clear hC5 hK5 ht5 hno
              have hb1 : w6.cell? ⟨g2, o2 + k, none⟩ = some (.bool true) := hK6.cell (fun f => f) hb0
              clear htx q4
              go_wp2_with fail
              refine (back_at p b d _ _ _ _ hC6 hx0 hx1).mono ?_
              rw [turns_own x hx, if_pos rfl, if_pos rfl]
              rintro e w7 ⟨rfl, hC7, hK7⟩
              replace hK7 := keeps_own hK6 hK7 lp lb ld
              clear hC6 hK6
              go_wp2_with fail
              go_roundw
              case rel => exact ⟨k + 1, x, _, by omega, rfl, by go_num, hC7, hK7⟩
              case measure => simp [intOf]; omega
        · have hbk' : ¬ (k : Int) < (bl : Int) := by omega
          by_cases htx : t = x
          · have q4 : (t != x) = false := by simp [htx]
            clear htx
            go_wp2_with fail
            refine (leave_at p b d _ _ _ _ hC4 hx0 hx1).mono ?_
            rw [turns_own x hx, if_pos rfl, if_pos rfl]
            rintro e w7 ⟨rfl, hC7, hK7⟩
            replace hK7 := keeps_own hK4 hK7 lp lb ld
            clear hC4 hK4
            go_wp2_with fail
            refine (leave_at p b d _ _ _ _ hC7 hx0 hx1).mono ?_
            rw [turns_left x, if_neg (by decide), if_neg (by decide)]
            rintro e w8 ⟨rfl, hC8, hK8⟩
            replace hK8 := keeps_own hK7 hK8 lp lb ld
            clear hC7 hK7
            go_wp2_with fail
            go_roundw
            case rel => exact ⟨k + 1, upw x 2, _, by omega, congrArg (Value.int IntKind.u64) (half_up x hx), by go_num, hC8, hK8⟩
            case measure => simp [intOf]; omega
          · have q4 : (t != x) = true := by simp [htx]
            have hno := turns_other x t hx0 hx1 hx htm.1 htm.2 htx
            go_wp2_with fail
            refine (leave_at p b d _ _ _ _ hC4 htm.1 htm.2).mono ?_
            rw [hno, if_neg (by decide), if_neg (by decide)]
            rintro e w5 ⟨rfl, hC5, hK5⟩
            replace hK5 := keeps_own hK4 hK5 lp lb ld
            clear hC4 hK4 ht4
            have ht5 : w5.cell? ⟨g, o + k, none⟩ = some (.int .u64 t) := hK5.cell (fun f => f) ht0
            go_wp2_with fail
            refine (back_at p b d _ _ _ _ hC5 htm.1 htm.2).mono ?_
            rw [hno, if_neg (by decide), if_neg (by decide)]
            rintro e w6 ⟨rfl, hC6, hK6⟩
            replace hK6 := keeps_own hK5 hK6 lp lb ld
            clear hC5 hK5 ht5 hno
            clear htx q4
            go_wp2_with fail
            refine (leave_at p b d _ _ _ _ hC6 hx0 hx1).mono ?_
            rw [turns_own x hx, if_pos rfl, if_pos rfl]
            rintro e w7 ⟨rfl, hC7, hK7⟩
            replace hK7 := keeps_own hK6 hK7 lp lb ld
            clear hC6 hK6
            go_wp2_with fail
            refine (leave_at p b d _ _ _ _ hC7 hx0 hx1).mono ?_
            rw [turns_left x, if_neg (by decide), if_neg (by decide)]
            rintro e w8 ⟨rfl, hC8, hK8⟩
            replace hK8 := keeps_own hK7 hK8 lp lb ld
            clear hC7 hK7
            go_wp2_with fail
            go_roundw
            case rel => exact ⟨k + 1, upw x 2, _, by omega, congrArg (Value.int IntKind.u64) (half_up x hx), by go_num, hC8, hK8⟩
            case measure => simp [intOf]; omega
      · have q3 : decide (x % 2 = 0) = false := by simp [hx]
        rw [q3] at q2
        have hop := open_any x hx0 hx1
        rw [q3] at hop
        go_wp2_with (first | (go_at_call 14; refine (number_any x _).mono ?_; rintro e w' ⟨rfl, rfl⟩) | (go_at_call 15; refine (hop _).mono ?_; rintro e w' ⟨rfl, rfl⟩))
        refine (take_at p b d x _ x _ hC2 hx0 hx1).mono ?_
        rw [turns_odd x hx, if_neg (by decide)]
        rintro e w3 ⟨rfl, hC3, hK3⟩
        replace hK3 := keeps_own hK2 hK3 lp lb ld
        clear hC2 hK2
        have hsub := wrap_pred x (by omega) hx1
        go_wp2_with (go_at_call 15; refine (hop _).mono ?_; rintro e w' ⟨rfl, rfl⟩)
        refine (leave_at p b d _ _ _ _ hC3 (by omega) (by omega)).mono ?_
        rw [turns_ahead x hx0 hx1 hx, if_pos rfl, if_pos rfl]
        rintro e w4 ⟨rfl, hC4, hK4⟩
        replace hK4 := keeps_own hK3 hK4 lp lb ld
        clear hC3 hK3 hsub
        go_wp2_with fail
        go_roundw
        case rel => exact ⟨k + 1, upw (x - 1) 2, _, by omega, congrArg (Value.int IntKind.u64) (half_up' x hx), by go_num, hC4, hK4⟩
        case measure => simp [intOf]; omega
    · go_wp2_with fail
      refine (known_any _).mono ?_
      rintro e w2 ⟨rfl, k2⟩
      go_wp2_with fail
      go_ret
      exact ⟨rfl, hK.trans k2⟩

end Go.Proofs.Ytlldffbohojppaa
