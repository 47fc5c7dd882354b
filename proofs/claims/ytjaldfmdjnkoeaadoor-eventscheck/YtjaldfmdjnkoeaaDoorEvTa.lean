
/- Walks of strconv.Itoa, strconv.FormatUint (base ten) and the document's digits. No statement of the seat is proved here. -/
import Derived.Test.YtjaldfmdjnkoeaaDoorEvN
import Derived.Lib.AppendIntMem
namespace Go.Proofs.YtjaldfmdjnkoeaaDoor
open Go.RowKit Go.Shelf

theorem keeps_of_grow {w w' : World} {k : Nat} {os : Array Obj} (h : w' = Go.Sort.grow (w.drewN k) os) : Keeps (fun _ => False) w w' := by
  rw [h]
  refine ⟨rfl, rfl, rfl, ?_, fun q hq _ => ?_⟩
  · simp [Go.Sort.grow, World.drewN]
  · simp only [Go.Sort.grow, World.drewN]
    exact Array.getElem?_append_left hq
theorem itoa_any (n : Nat) (hn : n ≤ 9223372036854775807) (w : World) (hg : Gv w) : Calls Tryd.prog 44 #[.int .i64 (n : Int)] w fun e w' => e = .returned (.string ⟨(Lib.decDigits n).toArray⟩) ∧ Keeps (fun _ => False) w w' := by
  refine (Any.strconv_Itoa lays171 (n : Int) (by omega) (by omega) w hg.pow).mono fun e w' ⟨h1, k, os, h2⟩ => ⟨?_, keeps_of_grow h2⟩
  have e1 : Lib.itoa (n : Int) = Lib.decDigits n := by simp [Lib.itoa]
  rw [h1, e1]
set_option maxRecDepth 100000 in
set_option maxHeartbeats 2000000 in
theorem ifmt_any (u : Nat) (hu64 : u < 18446744073709551616) (w : World) (hg : Gv w) : Calls Tryd.prog 75 #[.int .u64 (u : Int), .int .i64 10] w fun e w' => e = .returned (.string ⟨(Lib.decDigits u).toArray⟩) ∧ Keeps (fun _ => False) w w' := by
  have htab := hg.pow
  by_cases hs : u < 100
  · have SM : Calls Tryd.prog 79 #[.int .i64 (u : Int)] w fun e w' => e = .returned (.string ⟨(Lib.decDigits u).toArray⟩) ∧ w = w' := (Any.internal_strconv_small { lays171 with } u hs w).mono (fun e w' h => ⟨h.1, h.2.symm⟩)
    have hd : decide ((u : Int) < 100) = true := decide_eq_true (by omega)
    have hw : IntKind.i64.wrap (u : Int) = (u : Int) := by rw [IntKind.wrap_i64]; omega
    clear hg htab
    go_enter Tryd.func75, Tryd.ntmps75
    go_wp2_with fail
    refine SM.mono ?_
    rintro ex w1 ⟨rfl, rfl⟩
    go_wp2_with fail
    go_ret
    exact ⟨rfl, Keeps.refl _ _⟩
  · have hu1 : 1 ≤ u := by omega
    have hd : decide ((u : Int) < 100) = false := decide_eq_false (by omega)
    have hnd20 : Lib.nDigits u ≤ 20 := by have := Lib.numDigits_eq u hu1 hu64; split at this <;> omega
    have hal : Tryd.prog.arrayLen 132 = 24 := by kernel_rfl
    have hsl1 : ∀ W, (Instr.sliceAt 132 (.pointer (some ⟨w.heap.size, 0, none⟩)) none (some (.int .i64 (Lib.nDigits u : Int))) none).run Tryd.prog W = .ok (.slice (some ⟨w.heap.size, 0, none⟩) (Lib.nDigits u) 24) W := fun W => by
      rw [run_sliceAt_array_h W 132 ⟨w.heap.size, 0, none⟩ (by simp [Program.arrayLen, Program.elem, Tryd.underlying132]) .i64 (Lib.nDigits u : Int) (by omega) (by rw [hal]; omega)]
      rw [hal]
      rfl
    have hH0 := Lib.holds_zero0 w 132 (Lib.nDigits u) (by omega)
    have hfmt : Calls Tryd.prog 81 _ _ _ := Any.internal_strconv_formatBase10 { lays171 with } w.heap.size 0 24 u (Array.replicate (Lib.nDigits u) 0) (w.alloc (.cells Lib.zeros24 132)) hH0 (by rw [Array.size_replicate]; exact Lib.lt_pow_nDigits u) hu64 (by rw [Array.size_replicate]; omega)
    rw [Array.size_replicate] at hfmt
    have ND : Calls Tryd.prog 80 #[.int .u64 (u : Int)] (w.alloc (.cells Lib.zeros24 132)) fun e w' => e = .returned (.int .i64 (Lib.nDigits u)) ∧ w.alloc (.cells Lib.zeros24 132) = w' := (Any.internal_strconv_numDigits { lays171 with } u hu1 hu64 _ (Lib.tabIs_alloc htab _)).mono (fun e w' h => ⟨h.1, h.2.symm⟩)
    have HH0 : Hid _ := hH0
    clear hH0 hal hg htab
    go_enter Tryd.func75, Tryd.ntmps75
    go_wp2_with fail
    refine ND.mono ?_
    rintro ex w1 ⟨rfl, rfl⟩
    go_wp2_with fail
    refine hfmt.mono ?_
    rintro e w' ⟨rfl, k, v', dk, rfl, hF⟩
    have hcv : (convert 79 9 (.slice (some ⟨w.heap.size, 0, none⟩) (Lib.nDigits u) 24)).run Tryd.prog ((Go.Sort.putRow (fun (b : UInt8) => Value.int .u8 (b.toNat : Int)) (w.alloc (.cells Lib.zeros24 132)) w.heap.size 0 dk).drewN k) = .ok (.string ⟨(Lib.decDigits u).toArray⟩) ((Go.Sort.putRow (fun (b : UInt8) => Value.int .u8 (b.toNat : Int)) (w.alloc (.cells Lib.zeros24 132)) w.heap.size 0 dk).drewN k) := by
      have h := run_convert_bytes_back (P := Tryd.prog) ((Go.Sort.putRow (fun (b : UInt8) => Value.int .u8 (b.toNat : Int)) (w.alloc (.cells Lib.zeros24 132)) w.heap.size 0 dk).drewN k) 79 9 5 ⟨w.heap.size, 0, none⟩ 24 (Lib.decDigits u) Tryd.underlying79 Tryd.underlying5 Tryd.underlying9 (fun j hj => by
        rw [Lib.row_is_numeral hF j hj, Lib.add_plain, World.cell?_drewN]
        exact Go.Sort.cell?_putRow (fun (b : UInt8) => Value.int .u8 (b.toNat : Int)) _ w.heap.size 0 _ dk HH0.out (by rw [hF.size, Array.size_replicate]) j (by rw [hF.size]; rw [Lib.decDigits_length] at hj; exact hj))
      rw [Lib.decDigits_length] at h
      exact h
    obtain ⟨os, eo⟩ := Lib.fin_at w (.cells Lib.zeros24 132) dk k 0
    have KK := keeps_of_grow eo
    generalize (Go.Sort.putRow (fun (b : UInt8) => Value.int .u8 (b.toNat : Int)) (w.alloc (.cells Lib.zeros24 132)) w.heap.size 0 dk).drewN k = X at *
    clear hfmt ND HH0 eo
    go_wp2_with fail
    go_ret
    exact ⟨rfl, KK⟩
theorem fmt_any (u : Nat) (hu64 : u < 18446744073709551616) (w : World) (hg : Gv w) : Calls Tryd.prog 65 #[.int .u64 (u : Int), .int .i64 10] w fun e w' => e = .returned (.string ⟨(Lib.decDigits u).toArray⟩) ∧ Keeps (fun _ => False) w w' := by
  have I := ifmt_any u hu64 w hg
  clear hg
  go_enter Tryd.func65, Tryd.ntmps65
  go_wp2_with fail
  refine I.mono ?_
  rintro ex w1 ⟨rfl, k1⟩
  go_wp2_with fail
  go_ret
  exact ⟨rfl, k1⟩
theorem rdigits_any (u : Nat) (hu64 : u < 18446744073709551616) (w : World) (hg : Gv w) : Calls Tryd.prog 47 #[.int .u64 (u : Int)] w fun e w' => e = .returned (.string ⟨(Lib.decDigits u).toArray⟩) ∧ Keeps (fun _ => False) w w' := by
  have I := fmt_any u hu64 w hg
  clear hg
  go_enter Tryd.func47, Tryd.ntmps47
  go_wp2_with fail
  refine I.mono ?_
  rintro ex w1 ⟨rfl, k1⟩
  go_wp2_with fail
  go_ret
  exact ⟨rfl, k1⟩
end Go.Proofs.YtjaldfmdjnkoeaaDoor
