
/- Walks of digits (package code): a number in decimal digits. No statement of the seat is proved here. -/
import Derived.Test.YtijommlodgpphaaDoorCdB
import Derived.Lib.ItoaNum
import Derived.Laws.IdiomStrings
namespace Go.Proofs.YtijommlodgpphaaDoor
open Go.RowKit

def zeros20 : Array Value := #[.int .u8 0, .int .u8 0, .int .u8 0, .int .u8 0, .int .u8 0, .int .u8 0, .int .u8 0, .int .u8 0, .int .u8 0, .int .u8 0, .int .u8 0, .int .u8 0, .int .u8 0, .int .u8 0, .int .u8 0, .int .u8 0, .int .u8 0, .int .u8 0, .int .u8 0, .int .u8 0]

/-- Bytes of a block from place m on. -/
def Tail (c : Array Value) (m : Nat) (l : List UInt8) : Prop := c.size = 20 ∧ m + l.length = 20 ∧ ∀ j (hj : j < l.length), c[m + j]? = some (.int .u8 (l[j]).toNat)
theorem Tail.nil : Tail zeros20 20 [] := ⟨rfl, rfl, fun j hj => by simp at hj⟩
theorem Tail.cons {c : Array Value} {m : Nat} {l : List UInt8} (h : Tail c (m + 1) l) (x : UInt8) : Tail (c.setIfInBounds m (.int .u8 x.toNat)) m (x :: l) := by
  obtain ⟨h1, h2, h3⟩ := h
  refine ⟨by simpa using h1, by simp; omega, ?_⟩
  intro j hj
  cases j with
  | zero => simp [Array.getElem?_setIfInBounds, h1]; omega
  | succ j =>
    rw [Array.getElem?_setIfInBounds_ne (by omega)]
    have := h3 j (by simpa using hj)
    rw [show m + (j + 1) = m + 1 + j by omega, this]
    simp

theorem byte_of (d : Nat) (hd : d < 10) : (UInt8.ofNat (48 + d)).toNat = 48 + d := by
  simp; omega

set_option maxRecDepth 100000 in
set_option maxHeartbeats 2000000 in
theorem digits_any (n : Nat) (hn : n < 18446744073709551616) (w : World) : Calls Tryd.prog 28 #[.int .u64 n] w fun e w' => e = .returned (.string ⟨(Lib.decDigits n).toArray⟩) ∧ Keeps (fun _ => False) w w' := by
  go_enter Tryd.func28, Tryd.ntmps28
  go_wp2_with fail
  go_loopw [0, 4] (fun v u wr => ∃ (x m : Nat) (c : Array Value) (l : List UInt8), v = .int .u64 x ∧ u = .int .i64 m ∧ wr = w.alloc (.cells c 80) ∧ Hid (x < 10 ^ (m + 1) ∧ Tail c (m + 1) l ∧ Lib.decDigits n = Lib.decDigits x ++ l) ∧ x < 18446744073709551616) (fun v _ _ => (intOf v).toNat)
  case atStart => exact ⟨n, 19, zeros20, [], rfl, rfl, rfl, ⟨by omega, Tail.nil, by simp⟩, hn⟩
  case round =>
    obtain ⟨x, m, c, l, rfl, rfl, rfl, hh, hx⟩ := hrel
    have hs : c.size = 20 := hh.out.2.1.1
    have hm : m < 20 := by have := hh.out.2.1.2.1; omega
    have hcm : c[m]? = some (c[m]'(by omega)) := by simp
    generalize c[m]'(by omega) = cm at hcm
    have hmi : (m : Int) < 20 := by omega
    by_cases hgt : 9 < x
    · have hgi : (9 : Int) < x := by omega
      obtain ⟨m, rfl⟩ : ∃ q, m = q + 1 := by
        cases m with
        | zero => have := hh.out.1; simp at this; omega
        | succ q => exact ⟨q, rfl⟩
      go_wp2_with fail
      go_roundw
      · obtain ⟨h1, h2, h3⟩ := hh.out
        have hb := byte_of (x % 10) (by omega)
        refine ⟨x / 10, m, _, UInt8.ofNat (48 + x % 10) :: l, by simp, rfl, rfl, ⟨?_, ?_, ?_⟩, by omega⟩
        · have : (10 : Nat) ^ (m + 1 + 1) = 10 ^ (m + 1) * 10 := Nat.pow_succ ..
          omega
        · have := h2.cons (UInt8.ofNat (48 + x % 10))
          rw [hb] at this
          simpa using this
        · rw [h3, Lib.decDigits, dif_neg (by omega)]
          simp
      · simp [intOf]; omega
    · have hgi : ¬ (9 : Int) < x := by omega
      have hle : (m : Int) ≤ 20 := by omega
      have hcv : (convert 22 9 (.slice (some ⟨w.heap.size, m, none⟩) (20 - m) (20 - m))).run Tryd.prog (w.alloc (.cells (c.setIfInBounds m (.int .u8 (48 + x))) 80)) = .ok (.string ⟨(Lib.decDigits n).toArray⟩) (w.alloc (.cells (c.setIfInBounds m (.int .u8 (48 + x))) 80)) := by
        obtain ⟨h1, h2, h3⟩ := hh.out
        have hb := byte_of x (by omega)
        have h4 := h2.cons (UInt8.ofNat (48 + x))
        rw [hb] at h4
        have h5 : Lib.decDigits n = UInt8.ofNat (48 + x) :: l := by rw [h3, Lib.decDigits, dif_pos (by omega)]; rfl
        rw [← h5] at h4
        obtain ⟨-, h6, h7⟩ := h4
        have h := run_convert_bytes_back (P := Tryd.prog) (w.alloc (.cells (c.setIfInBounds m (.int .u8 (48 + x))) 80)) 22 9 5 ⟨w.heap.size, m, none⟩ (20 - m) (Lib.decDigits n) Tryd.underlying22 Tryd.underlying5 Tryd.underlying9 (fun j hj => by
          have := h7 j hj
          rw [show (Addr.add ⟨w.heap.size, m, none⟩ j) = ⟨w.heap.size, m + j, none⟩ by simp [Addr.add], cell_of_block (MapKept.heap_alloc _ _).1]
          simpa using this)
        rw [show (Lib.decDigits n).length = 20 - m by omega] at h
        exact h
      have hk := (Keeps.refl (fun _ => False) w).alloc (.cells (c.setIfInBounds m (.int .u8 (48 + x))) 80)
      clear hh
      go_wp2_with fail
      go_ret
      exact ⟨rfl, hk⟩
end Go.Proofs.YtijommlodgpphaaDoor
