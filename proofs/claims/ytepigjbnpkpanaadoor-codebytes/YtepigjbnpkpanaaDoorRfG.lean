
/- Walks of the document's Text (package parleyref08). No statement of the seat is proved here. -/
import Derived.Test.YtepigjbnpkpanaaDoorRfF
namespace Go.Proofs.YtepigjbnpkpanaaDoor
open Go.RowKit Go.Shelf

theorem fmt_any (u : Nat) (hu : u < 18446744073709551616) (w : World) (htab : Lib.TabIs Tryd.prog w "internal/strconv.uint64pow10" .u64 Lib.pow10Tab) :
    Calls Tryd.prog 44 #[.int .u64 u, .int .i64 10] w fun e w' => e = .returned (.string ⟨(Lib.decDigits u).toArray⟩) ∧ Keeps (fun _ => False) w w' := by
  have F := ifmt_any u hu w htab
  go_enter Tryd.func44, Tryd.ntmps44
  go_wp2_with (go_at_call 52; refine F.mono ?_; rintro e w' ⟨rfl, k⟩)
  go_ret
  exact ⟨rfl, k⟩

theorem gPow : Tryd.prog.globalNamed "internal/strconv.uint64pow10" = some 1 := by kernel_rfl
theorem tab_keeps {w w' : World} (h : Lib.TabIs Tryd.prog w "internal/strconv.uint64pow10" .u64 Lib.pow10Tab) (k : Keeps (fun _ => False) w w') : Lib.TabIs Tryd.prog w' "internal/strconv.uint64pow10" .u64 Lib.pow10Tab := by
  have hc := h.cell gPow 0 (by rw [Lib.pow10Tab_length]; decide)
  have hb := k.block _ (World.block_lt_of_cell? _ _ hc) (fun f => f)
  unfold Lib.TabIs World.var? at *
  rw [gPow] at *
  simp only [Option.bind_some] at *
  simp only [hb]
  exact h

/-- The registers of an instruction that it has. -/
def regL (i : I5) : List Int := [i.a, i.b, i.c].take (regsN i.op)
theorem numL_eq {i : I5} (h : formedB i = true) : numL i = regL i ++ (if numB i.op then [i.n] else []) := by
  obtain ⟨⟨h0, h1⟩, -⟩ := formed_facts h
  obtain ⟨op, a, b, c, n⟩ := i
  dsimp only at h0 h1
  have hrn : (regsN op = 0 ∧ numB op = false) ∨ (regsN op = 0 ∧ numB op = true) ∨ (regsN op = 1 ∧ numB op = true) ∨ (regsN op = 2 ∧ numB op = false) ∨ (regsN op = 3 ∧ numB op = false) := by
    rcases op17 h0 h1 with rfl | rfl | rfl | rfl | rfl | rfl | rfl | rfl | rfl | rfl | rfl | rfl | rfl | rfl | rfl | rfl | rfl <;> decide
  unfold numL num3 regL partsN
  dsimp only
  rcases hrn with ⟨hr, hn⟩ | ⟨hr, hn⟩ | ⟨hr, hn⟩ | ⟨hr, hn⟩ | ⟨hr, hn⟩ <;> rw [hr, hn] <;> rfl

set_option maxRecDepth 100000 in
set_option maxHeartbeats 4000000 in
theorem rtext_any (i : I5) (hf : formedB i = true) (hn0 : 0 ≤ i.n) (hn : i.n < 18446744073709551616) (w : World) (htab : Lib.TabIs Tryd.prog w "internal/strconv.uint64pow10" .u64 Lib.pow10Tab) :
    Calls Tryd.prog 21 #[.agg i.cells] w fun e w' => e = .returned (.string ⟨(textL i).toArray⟩) ∧ Keeps (fun _ => False) w w' := by
  have HL := numL_eq hf
  obtain ⟨⟨h0, h1⟩, -, ⟨ha0, ha1⟩, ⟨hb0, hb1⟩, ⟨hc0, hc1⟩⟩ := formed_facts hf
  have IY := rinfo_yes i.op h0 h1
  have hm3 := (regsN_le h0 h1).1
  have hnm : ((nms[i.op.toNat]?).getD []).length ≤ 10 := by
    have : ∀ l ∈ nms, l.length ≤ 10 := by decide
    cases h : nms[i.op.toNat]? with
    | none => simp
    | some l => exact this l (List.mem_of_getElem? h)
  unfold textL
  rw [HL]
  unfold regL
  obtain ⟨op, a, b, c, n⟩ := i
  dsimp only at *
  obtain ⟨u, rfl⟩ : ∃ u : Nat, n = u := ⟨n.toNat, by omega⟩
  have RN := rname_yes op.toNat (by omega)
  rw [show ((op.toNat : Nat) : Int) = op by omega] at RN
  unfold nm at RN
  generalize (nms[op.toNat]?).getD [] = NM at *
  generalize regsN op = m at *
  generalize numB op = nb at *
  generalize tgtB op = tb at *
  generalize outB op = ob at *
  generalize insB op = ib at *
  clear HL hf h0 h1
  obtain ⟨a, rfl⟩ : ∃ x : Nat, a = x := ⟨a.toNat, by omega⟩
  obtain ⟨b, rfl⟩ : ∃ x : Nat, b = x := ⟨b.toNat, by omega⟩
  obtain ⟨c, rfl⟩ : ∃ x : Nat, c = x := ⟨c.toNat, by omega⟩
  obtain ⟨M, hM⟩ : ∃ M : Int, M = m := ⟨_, rfl⟩
  rw [← hM] at IY
  have HM : Hid (M = m) := hM
  clear hM
  have RR := rregs_any op a b c u
  have hk0 := (Keeps.refl (fun _ => False) w).alloc (.cells #[.int .i64 op, .int .i64 a, .int .i64 b, .int .i64 c, .int .u64 u] 38)
  change Calls Tryd.prog 21 #[.agg #[.int .i64 op, .int .i64 a, .int .i64 b, .int .i64 c, .int .u64 u]] w _
  go_enter Tryd.func21, Tryd.ntmps21
  go_wp2_with fail
  refine (IY _).mono ?_
  rintro e w1 ⟨rfl, k1⟩
  have hb : w1.heap[w.heap.size]? = some (.cells #[.int .i64 op, .int .i64 a, .int .i64 b, .int .i64 c, .int .u64 u] 38 (0, 0)) := (k1.block _ (by simp) (fun f => f)).trans (MapKept.heap_alloc _ _).1
  have k2 := (hk0.trans k1).alloc (.cells #[.int .i64 M, .bool nb, .bool tb, .bool ob, .bool ib] 24)
  have hb2 := ((MapKept.heap_alloc w1 (.cells #[.int .i64 M, .bool nb, .bool tb, .bool ob, .bool ib] 24)).2 _ (lt_of_block hb)).trans hb
  have hd2 := (MapKept.heap_alloc w1 (.cells #[.int .i64 M, .bool nb, .bool tb, .bool ob, .bool ib] 24)).1
  obtain ⟨c0, c1, c2, c3, c4⟩ := cells5 hb2
  clear IY k1 hk0 hb
  go_wp2_with fail
  refine (RR _).mono ?_
  rintro e w3 ⟨rfl, k3⟩
  have hb3 := (k3.block _ (lt_of_block hb2) (fun f => f)).trans hb2
  have hd3 := (k3.block _ (lt_of_block hd2) (fun f => f)).trans hd2
  have hb4 := ((MapKept.heap_alloc w3 (.cells #[.int .i64 a, .int .i64 b, .int .i64 c] 78)).2 _ (lt_of_block hb3)).trans hb3
  have hd4 := ((MapKept.heap_alloc w3 (.cells #[.int .i64 a, .int .i64 b, .int .i64 c] 78)).2 _ (lt_of_block hd3)).trans hd3
  have he4 := (MapKept.heap_alloc w3 (.cells #[.int .i64 a, .int .i64 b, .int .i64 c] 78)).1
  have k4 := (k2.trans k3).alloc (.cells #[.int .i64 a, .int .i64 b, .int .i64 c] 78)
  have kN := (Keeps.refl (fun _ => False) (w3.alloc (.cells #[.int .i64 a, .int .i64 b, .int .i64 c] 78))).alloc (.cells namesA 9)
  have hb5 := (kN.block _ (lt_of_block hb4) (fun f => f)).trans hb4
  have hd5 := (kN.block _ (lt_of_block hd4) (fun f => f)).trans hd4
  have he5 := (kN.block _ (lt_of_block he4) (fun f => f)).trans he4
  have k5 := k4.trans kN
  obtain ⟨x0, -, -, -, -⟩ := cells5 hb4
  obtain ⟨-, -, -, -, x4⟩ := cells5 hb5
  obtain ⟨y0, y1, -, -, -⟩ := cells5 hd5
  have z0 : (World.alloc (w3.alloc (.cells #[.int .i64 a, .int .i64 b, .int .i64 c] 78)) (.cells namesA 9)).cell? ⟨w3.heap.size, 0, none⟩ = some (.int .i64 a) := by rw [cell_of_block he5]; rfl
  have z1 : (World.alloc (w3.alloc (.cells #[.int .i64 a, .int .i64 b, .int .i64 c] 78)) (.cells namesA 9)).cell? ⟨w3.heap.size, 1, none⟩ = some (.int .i64 b) := by rw [cell_of_block he5]; rfl
  have z2 : (World.alloc (w3.alloc (.cells #[.int .i64 a, .int .i64 b, .int .i64 c] 78)) (.cells namesA 9)).cell? ⟨w3.heap.size, 2, none⟩ = some (.int .i64 c) := by rw [cell_of_block he5]; rfl
  have RN4 := RN (w3.alloc (.cells #[.int .i64 a, .int .i64 b, .int .i64 c] 78))
  obtain ⟨W, hW⟩ : ∃ W, W = (w3.alloc (.cells #[.int .i64 a, .int .i64 b, .int .i64 c] 78)).alloc (.cells namesA 9) := ⟨_, rfl⟩
  rw [← hW] at k5 x4 y0 y1 z0 z1 z2 RN4
  have FU := fmt_any u (by omega) W (tab_keeps htab k5)
  have IA := fun (x : Nat) (h : x < 100) => itoa_small x h W
  clear RR c0 c1 c2 c3 c4 hb2 hd2 hb3 hd3 hb4 hd4 he4 hb5 hd5 he5 k2 k3 k4 kN RN hW htab
  go_wp2_with fail
  refine RN4.mono ?_
  rintro e w' ⟨rfl, rfl⟩
  clear RN4
  go_wp2_with fail
  go_loopw [6, 7] (fun v v2 wr => ∃ (k : Nat) (X : List UInt8), v = .string ⟨X.toArray⟩ ∧ v2 = .int .i64 k ∧ k ≤ m ∧ wr = w' ∧ Hid (X = NM ++ blanked ([(a : Int), b, c].take k) ∧ X.length ≤ 10 + 30 * k)) (fun _ v _ => m - (intOf v).toNat)
  case atStart => exact ⟨0, NM, rfl, rfl, Nat.zero_le _, rfl, ⟨by simp [blanked], by omega⟩⟩
  case round =>
    obtain ⟨k, X, rfl, rfl, hkm, rfl, hh⟩ := hrel
    obtain ⟨hX, hXl⟩ := hh.out
    by_cases hlt : k < m
    · rcases (by omega : k = 0 ∨ k = 1 ∨ k = 2) with rfl | rfl | rfl
      · have f1 : 0 < M := by rw [HM.out]; omega
        have D := IA a (by omega)
        have hDl : (Lib.decDigits a).length ≤ 20 := by rw [Lib.decDigits_length]; exact Lib.nDigits_le20 a (by omega)
        clear hX
        go_wp2_with (go_at_call 43; refine D.mono ?_; rintro e w5 ⟨rfl, hw5⟩; replace hw5 := hw5.symm; subst hw5)
        go_roundw
        · obtain ⟨hX, _⟩ := hh.out
          refine ⟨0 + 1, X ++ (32 :: Lib.decDigits a), ?_, rfl, by omega, by first | rfl | trivial, ⟨?_, by simp; omega⟩⟩
          · rw [show ({ data := #[32] } : ByteArray) = ⟨[(32 : UInt8)].toArray⟩ from rfl, str_app, str_app]
            simp
          · rw [hX]; simp [blanked]
        · simp [intOf]; omega
      · have f1 : 1 < M := by rw [HM.out]; omega
        have D := IA b (by omega)
        have hDl : (Lib.decDigits b).length ≤ 20 := by rw [Lib.decDigits_length]; exact Lib.nDigits_le20 b (by omega)
        clear hX
        go_wp2_with (go_at_call 43; refine D.mono ?_; rintro e w5 ⟨rfl, hw5⟩; replace hw5 := hw5.symm; subst hw5)
        go_roundw
        · obtain ⟨hX, _⟩ := hh.out
          refine ⟨1 + 1, X ++ (32 :: Lib.decDigits b), ?_, rfl, by omega, by first | rfl | trivial, ⟨?_, by simp; omega⟩⟩
          · rw [show ({ data := #[32] } : ByteArray) = ⟨[(32 : UInt8)].toArray⟩ from rfl, str_app, str_app]
            simp
          · rw [hX]; simp [blanked]
        · simp [intOf]; omega
      · have f1 : 2 < M := by rw [HM.out]; omega
        have D := IA c (by omega)
        have hDl : (Lib.decDigits c).length ≤ 20 := by rw [Lib.decDigits_length]; exact Lib.nDigits_le20 c (by omega)
        clear hX
        go_wp2_with (go_at_call 43; refine D.mono ?_; rintro e w5 ⟨rfl, hw5⟩; replace hw5 := hw5.symm; subst hw5)
        go_roundw
        · obtain ⟨hX, _⟩ := hh.out
          refine ⟨2 + 1, X ++ (32 :: Lib.decDigits c), ?_, rfl, by omega, by first | rfl | trivial, ⟨?_, by simp; omega⟩⟩
          · rw [show ({ data := #[32] } : ByteArray) = ⟨[(32 : UInt8)].toArray⟩ from rfl, str_app, str_app]
            simp
          · rw [hX]; simp [blanked]
        · simp [intOf]; omega
    · obtain rfl : k = m := by omega
      have f1 : ¬ (k : Int) < M := by rw [HM.out]; omega
      cases nb
      · clear hh FU IA
        go_wp2_with fail
        go_ret
        exact ⟨by first | rfl | (rw [hX]; simp) | simp, k5⟩
      · have hDl : (Lib.decDigits u).length ≤ 20 := by rw [Lib.decDigits_length]; exact Lib.nDigits_le20 u (by omega)
        clear IA hX
        go_wp2_with (go_at_call 44; refine FU.mono ?_; rintro e w5 ⟨rfl, k6⟩)
        go_ret
        refine ⟨?_, k5.trans k6⟩
        obtain ⟨hX, _⟩ := hh.out
        show Ending.returned (.string (((⟨X.toArray⟩ : ByteArray) ++ ⟨[(32 : UInt8)].toArray⟩) ++ ⟨(Lib.decDigits u).toArray⟩)) = _
        rw [str_app, str_app, hX]
        simp [blanked]
end Go.Proofs.YtepigjbnpkpanaaDoor
