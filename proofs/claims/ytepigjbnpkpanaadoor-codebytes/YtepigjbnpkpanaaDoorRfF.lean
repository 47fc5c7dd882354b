
/- Walks of strconv.FormatUint at base 10, and of the document's Text (package parleyref08). No statement of the seat is proved here. -/
import Derived.Test.YtepigjbnpkpanaaDoorRfE
import Derived.Lib.AppendIntMem
namespace Go.Proofs.YtepigjbnpkpanaaDoor
open Go.RowKit Go.Shelf Go.Sort

theorem itoa_small (i : Nat) (hi : i < 100) (w : World) : Calls Tryd.prog 43 #[.int .i64 i] w fun e w' => e = .returned (.string ⟨(Lib.decDigits i).toArray⟩) ∧ w' = w :=
  Any.strconv_Itoa_small { lays171 with } i hi w

theorem putRow_keeps {w : World} {b : Nat} (hb : w.heap.size ≤ b) {W : World} (k : Keeps (fun _ => False) w W) (off : Nat) (d : Array UInt8) : Keeps (fun _ => False) w (putRow (fun (b : UInt8) => Value.int .u8 (b.toNat : Int)) W b off d) := by
  refine ⟨k.os, k.tape, k.output, ?_, fun g hg hs => ?_⟩
  · simpa [putRow, mapBlock] using k.size
  · rw [← k.block g hg hs]
    simp [putRow, mapBlock, Array.getElem?_modify, show ¬ b = g by omega]

set_option maxRecDepth 100000 in
set_option maxHeartbeats 4000000 in
theorem ifmt_any (u : Nat) (hu : u < 18446744073709551616) (w : World) (htab : Lib.TabIs Tryd.prog w "internal/strconv.uint64pow10" .u64 Lib.pow10Tab) :
    Calls Tryd.prog 52 #[.int .u64 u, .int .i64 10] w fun e w' => e = .returned (.string ⟨(Lib.decDigits u).toArray⟩) ∧ Keeps (fun _ => False) w w' := by
  by_cases hs : u < 100
  · have hsi : (u : Int) < 100 := by omega
    have SM := Any.internal_strconv_small { lays171 with } u hs
    go_enter Tryd.func52, Tryd.ntmps52
    go_wp2_with (go_at_call 58; refine (SM _).mono ?_; rintro e w' ⟨rfl, rfl⟩)
    go_ret
    exact ⟨rfl, Keeps.refl _ _⟩
  · have hsi : ¬ (u : Int) < 100 := by omega
    have h20 := Lib.nDigits_le20 u hu
    have hH0 := Lib.holds_zero0 w 101 (Lib.nDigits u) (by omega)
    have ND := Any.internal_strconv_numDigits { lays171 with } u (by omega) hu _ (Lib.tabIs_alloc htab (.cells Lib.zeros24 101))
    have FM := Any.internal_strconv_formatBase10 { lays171 with } w.heap.size 0 24 u (Array.replicate (Lib.nDigits u) 0) (w.alloc (.cells Lib.zeros24 101)) hH0 (by rw [Array.size_replicate]; exact Lib.lt_pow_nDigits u) hu (by rw [Array.size_replicate]; omega)
    rw [Array.size_replicate] at FM
    have HH : Hid (Holds (fun (b : UInt8) => Value.int .u8 (b.toNat : Int)) (w.alloc (.cells Lib.zeros24 101)) w.heap.size 0 (Array.replicate (Lib.nDigits u) 0)) := hH0
    have hn24 : (Lib.nDigits u : Int) ≤ 24 := by omega
    clear hH0 htab
    go_enter Tryd.func52, Tryd.ntmps52
    go_wp2_with (go_at_call 59; refine ND.mono ?_; rintro e w' ⟨rfl, rfl⟩)
    refine FM.mono ?_
    rintro e w' ⟨rfl, k, v', dk, rfl, hF⟩
    have hcv : (convert 52 9 (.slice (some ⟨w.heap.size, 0, none⟩) (Lib.nDigits u) 24)).run Tryd.prog ((putRow (fun (b : UInt8) => Value.int .u8 (b.toNat : Int)) (w.alloc (.cells Lib.zeros24 101)) w.heap.size 0 dk).drewN k) = .ok (.string ⟨(Lib.decDigits u).toArray⟩) ((putRow (fun (b : UInt8) => Value.int .u8 (b.toNat : Int)) (w.alloc (.cells Lib.zeros24 101)) w.heap.size 0 dk).drewN k) := by
      have h := run_convert_bytes_back (P := Tryd.prog) ((putRow (fun (b : UInt8) => Value.int .u8 (b.toNat : Int)) (w.alloc (.cells Lib.zeros24 101)) w.heap.size 0 dk).drewN k) 52 9 5 ⟨w.heap.size, 0, none⟩ 24 (Lib.decDigits u) Tryd.underlying52 Tryd.underlying5 Tryd.underlying9 (fun j hj => by
        have hj' : j < dk.size := by rw [hF.size]; rw [Lib.decDigits_length] at hj; exact hj
        have c := cell?_putRow (fun (b : UInt8) => Value.int .u8 (b.toNat : Int)) _ w.heap.size 0 _ dk HH.out (by rw [hF.size, Array.size_replicate]) j hj'
        rw [Lib.row_is_numeral hF j hj, addr_add, World.cell?_drewN]
        exact c)
      rw [Lib.decDigits_length] at h
      exact h
    have kk := (putRow_keeps (Nat.le_refl w.heap.size) ((Keeps.refl (fun _ => False) w).alloc (.cells Lib.zeros24 101)) 0 dk).drewN k
    clear FM ND HH hF
    go_wp2_with fail
    trace_state
    go_ret
    exact ⟨rfl, kk⟩
end Go.Proofs.YtepigjbnpkpanaaDoor
