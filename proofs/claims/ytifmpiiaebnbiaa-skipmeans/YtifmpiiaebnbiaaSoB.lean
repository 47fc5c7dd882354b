
/- The law's place and looks (layer 22). No statement of the seat is proved here. -/
import Derived.Test.YtifmpiiaebnbiaaSoA
namespace Go.Proofs.Ytifmpiiaebnbiaa
open Go.RowKit

set_option maxRecDepth 100000 in
set_option maxHeartbeats 4000000 in
theorem place_any (v : Value) (L : List Int) (x : Int) (hl : L.length ≤ 1000) (w : World) (h : Lies w v L) :
    Calls Try.prog 36 #[v, .int .u64 x] w fun e w' => e = .returned (.int .i64 (plc L x : Int)) ∧ w' = w := by
  obtain ⟨a, c, rfl, hc⟩ := h
  have HC := hid hc
  obtain ⟨p, hp⟩ : ∃ p, plc L x = p := ⟨_, rfl⟩
  have hple : p ≤ L.length := by rw [← hp]; exact plc_le x L
  have HP : Hid ((∀ j, j < p → oat L j < x) ∧ (p < L.length → x ≤ oat L p)) := hid ⟨fun j hj => plc_lt (K := L) (by rw [hp]; exact hj), fun hj => by have := plc_at (K := L) (x := x) (by rw [hp]; exact hj); rw [hp] at this; exact this⟩
  rw [hp]
  clear hc hp
  go_enter Try.func36, Try.ntmps36
  go_wp2_with fail
  go_loopw [5] (fun i wr => ∃ k : Nat, k ≤ p ∧ i = .int .i64 k ∧ wr = w) (fun i _ => p - (intOf i).toNat)
  case atStart => exact ⟨0, by omega, rfl, rfl⟩
  case round =>
    obtain ⟨k, hk, rfl, rfl⟩ := hrel
    by_cases hlen : k < L.length
    · have hlen' : (k : Int) < (L.length : Int) := by omega
      obtain ⟨g, off, rfl, hcell⟩ := HC.out k hlen
      by_cases hkp : k < p
      · have hlt : oat L k < x := HP.out.1 k hkp
        go_wp2_with fail
        go_roundw
        case rel => exact ⟨k + 1, by omega, by go_num, by trivial⟩
        case measure => simp [intOf]; omega
      · obtain rfl : k = p := by omega
        have hge : x ≤ oat L k := HP.out.2 hlen
        go_wp2_with fail
        go_ret
        exact ⟨rfl, rfl⟩
    · have hlen' : ¬ (k : Int) < (L.length : Int) := by omega
      obtain rfl : k = p := by omega
      go_wp2_with fail
      go_ret
      exact ⟨rfl, rfl⟩
set_option maxRecDepth 100000 in
set_option maxHeartbeats 4000000 in
theorem looks_any (b g c : Nat) (s : Wd) (hs : ∀ q ∈ s.L, q.p = false) (hl : s.L.length ≤ 1000000) (w : World) (h : WdAt 27 w b g c s) :
    Calls Try.prog 37 #[.pointer (some ⟨b, 0, none⟩)] w fun e w' => e = .returned (.bool true) ∧ w' = w := by
  obtain ⟨v, hv, hlog⟩ := h.log
  obtain ⟨a, ca, rfl, hcs⟩ := hlog.form
  obtain ⟨m, hm⟩ : ∃ m, s.L.length = m := ⟨_, rfl⟩
  have HC : Hid (∀ i, i < m → ∃ g, a = some ⟨g, 0, none⟩ ∧ w.cell? ⟨g, i * 3, none⟩ = some (.bool false)) := hid (fun i hi => by
    obtain ⟨g, e, d, _⟩ := hcs i (by omega)
    exact ⟨g, e, by rw [d, hs _ (List.getElem_mem _)]⟩)
  rw [hm] at hv hl
  clear hcs hlog h hm
  go_enter Try.func37, Try.ntmps37
  go_wp2_with fail
  go_loopw [3] (fun i wr => ∃ k : Nat, k ≤ m ∧ i = .int .i64 k ∧ wr = w) (fun i _ => m - (intOf i).toNat)
  case atStart => exact ⟨0, by omega, rfl, rfl⟩
  case round =>
    obtain ⟨k, hk, rfl, rfl⟩ := hrel
    by_cases hlen : k < m
    · have hlen' : (k : Int) < (m : Int) := by omega
      obtain ⟨g', rfl, hcell⟩ := HC.out k hlen
      go_wp2_with fail
      go_roundw
      case rel => exact ⟨k + 1, by omega, by go_num, by trivial⟩
      case measure => simp [intOf]; omega
    · have hlen' : ¬ (k : Int) < (m : Int) := by omega
      go_wp2_with fail
      go_ret
      exact ⟨rfl, rfl⟩
end Go.Proofs.Ytifmpiiaebnbiaa
