
/- Walks of numbers and Text (package code). No statement of the seat is proved here. -/
import Derived.Test.YtijommlodgpphaaDoorCdC
import Derived.Deep.RegionHeld3
import Derived.Lib.ItoaLen
import Derived.Shelf.RegionOpen
namespace Go.Proofs.YtijommlodgpphaaDoor
open Go.RowKit Go.Shelf

/-- The numbers behind a formed instruction's operation, and what stands behind them. -/
def num3 (i : I5) : List Int := if numB i.op then [i.a, i.b, i.c].set (regsN i.op) i.n else [i.a, i.b, i.c]
def numL (i : I5) : List Int := (num3 i).take (partsN i.op)

theorem formed_facts {i : I5} (h : formedB i = true) : (1 ≤ i.op ∧ i.op ≤ 17) ∧ (numB i.op = false → i.n = 0) ∧ (0 ≤ i.a ∧ i.a < 8) ∧ (0 ≤ i.b ∧ i.b < 8) ∧ (0 ≤ i.c ∧ i.c < 8) := by
  unfold formedB at h
  simp only [Bool.and_eq_true, decide_eq_true_eq, Bool.or_eq_true] at h
  obtain ⟨⟨⟨⟨h1, h2⟩, h3⟩, h4⟩, h5⟩ := h
  refine ⟨h1, fun hn => ?_, ?_, ?_, ?_⟩
  · rcases h2 with h2 | h2
    · rw [hn] at h2; cases h2
    · exact h2
  · rcases okR_yes h3 with h | h <;> omega
  · rcases okR_yes h4 with h | h <;> omega
  · rcases okR_yes h5 with h | h <;> omega

theorem heap_two (w : World) (o o' : Obj) : ((w.alloc o).alloc o').heap[w.heap.size + 1]? = some o' := by
  have := (MapKept.heap_alloc (w.alloc o) o').1
  simpa using this

set_option maxRecDepth 100000 in
set_option maxHeartbeats 2000000 in
theorem numbers_any (i : I5) (hf : formedB i = true) (w : World) : Calls Tryd.prog 13 #[.agg i.cells] w fun e w' => ∃ p, e = .returned (.slice (some ⟨p, 0, none⟩) (partsN i.op) 3) ∧ w.heap.size ≤ p ∧ w'.heap[p]? = some (.cells (u64s (num3 i)) 36 (0, 0)) ∧ Keeps (fun _ => False) w w' := by
  obtain ⟨⟨h0, h1⟩, -, ⟨ha0, ha1⟩, ⟨hb0, hb1⟩, ⟨hc0, hc1⟩⟩ := formed_facts hf
  obtain ⟨op, a, b, c, n⟩ := i
  dsimp only at *
  have R := regs_any op h0 h1
  have N := number_any op h0 h1
  have P := parts_any op h0 h1
  have hr := (regsN_le h0 h1).2
  have hp := partsN_le h0 h1
  unfold num3
  dsimp only
  clear hf h0 h1
  generalize regsN op = r at *
  generalize numB op = nb at *
  generalize tgtB op = tb at *
  generalize partsN op = q at *
  have hpi : (q : Int) ≤ 3 := by omega
  change Calls Tryd.prog 13 #[.agg #[.int .i64 op, .int .i64 a, .int .i64 b, .int .i64 c, .int .u64 n]] w _
  have ka := ((Keeps.refl (fun _ => False) w).alloc (.cells #[.int .i64 op, .int .i64 a, .int .i64 b, .int .i64 c, .int .u64 n] 38)).alloc (.cells #[.int .u64 a, .int .u64 b, .int .u64 c] 36)
  have hb1' := heap_two w (.cells #[.int .i64 op, .int .i64 a, .int .i64 b, .int .i64 c, .int .u64 n] 38) (.cells #[.int .u64 a, .int .u64 b, .int .u64 c] 36)
  cases nb
  · clear hr
    go_enter Tryd.func13, Tryd.ntmps13
    go_wp2_with (first | (go_at_call 20; refine (P _).mono ?_; rintro e w' ⟨rfl, rfl⟩) | (go_at_call 26; refine (N _).mono ?_; rintro e w' ⟨rfl, rfl⟩))
    go_ret
    exact ⟨_, rfl, by simp, hb1', ka⟩
  · obtain ⟨W, hW⟩ : ∃ W, W = (w.alloc (.cells #[.int .i64 op, .int .i64 a, .int .i64 b, .int .i64 c, .int .u64 n] 38)).alloc (.cells #[.int .u64 a, .int .u64 b, .int .u64 c] 36) := ⟨_, rfl⟩
    have hS0 : W.cell? ⟨w.heap.size, 0, none⟩ = some (.int .i64 op) ∧ W.cell? ⟨w.heap.size, 4, none⟩ = some (.int .u64 n) := by subst hW; simp [go_sem]
    have hr' := hr rfl
    clear hr
    rcases (by omega : r = 0 ∨ r = 1) with rfl | rfl
    · clear hr'
      go_enter Tryd.func13, Tryd.ntmps13
      go_wp2_with (first | (go_at_call 26; refine (N _).mono ?_; rintro e w' ⟨rfl, rfl⟩))
      rw [← hW] at hb1' ka ⊢
      go_region_held3 (fun W : World => W.cell? ⟨w.heap.size, 0, none⟩ = some (.int .i64 op) ∧ W.cell? ⟨w.heap.size, 4, none⟩ = some (.int .u64 n)) (first | assumption | (exact hS0) | go_keep)
        ((go_at_call 27; refine (R _).mono ?_; rintro e w1 ⟨rfl, rfl⟩))
      clear hW hS0 hb1' ka N R
      go_wp2_with (first | (go_at_call 20; refine (P _).mono ?_; rintro e w' ⟨rfl, rfl⟩))
      go_ret
      exact ⟨_, rfl, by simp, heap_two _ _ _, (((Keeps.refl (fun _ => False) w).alloc _).alloc _).drew⟩
    · clear hr'
      go_enter Tryd.func13, Tryd.ntmps13
      go_wp2_with (first | (go_at_call 26; refine (N _).mono ?_; rintro e w' ⟨rfl, rfl⟩))
      rw [← hW] at hb1' ka ⊢
      go_region_held3 (fun W : World => W.cell? ⟨w.heap.size, 0, none⟩ = some (.int .i64 op) ∧ W.cell? ⟨w.heap.size, 4, none⟩ = some (.int .u64 n)) (first | assumption | (exact hS0) | go_keep)
        ((go_at_call 27; refine (R _).mono ?_; rintro e w1 ⟨rfl, rfl⟩))
      clear hW hS0 hb1' ka N R
      go_wp2_with (first | (go_at_call 20; refine (P _).mono ?_; rintro e w' ⟨rfl, rfl⟩))
      go_ret
      exact ⟨_, rfl, by simp, heap_two _ _ _, (((Keeps.refl (fun _ => False) w).alloc _).alloc _).drew⟩

/-- A text: the name, then each number behind a blank. -/
def blanked (l : List Int) : List UInt8 := l.flatMap fun n => 32 :: Lib.decDigits n.toNat
def textL (i : I5) : List UInt8 := (nms[i.op.toNat]?).getD [] ++ blanked (numL i)

theorem num3_length (i : I5) : (num3 i).length = 3 := by unfold num3; split <;> simp
theorem num3_bound {i : I5} (h : formedB i = true) (hn0 : 0 ≤ i.n) (hn : i.n < 18446744073709551616) : ∀ x ∈ num3 i, 0 ≤ x ∧ x < 18446744073709551616 := by
  obtain ⟨-, -, ha, hb, hc⟩ := formed_facts h
  intro x hx
  unfold num3 at hx
  split at hx
  · rcases List.mem_or_eq_of_mem_set hx with h | h
    · simp at h; omega
    · omega
  · simp at hx; omega

theorem str_app (l m : List UInt8) : (⟨l.toArray⟩ : ByteArray) ++ ⟨m.toArray⟩ = ⟨(l ++ m).toArray⟩ := by
  apply ByteArray.ext
  simp

set_option maxRecDepth 100000 in
set_option maxHeartbeats 2000000 in
theorem text_no (i : I5) (hf : formedB i = false) (w : World) : Calls Tryd.prog 15 #[.agg i.cells] w fun e w' => e = .returned (.tuple #[.string ⟨#[]⟩, .int .i64 180]) ∧ Keeps (fun _ => False) w w' := by
  have F := formed_any i
  rw [hf] at F
  clear hf
  obtain ⟨op, a, b, c, n⟩ := i
  change Calls Tryd.prog 15 #[.agg #[.int .i64 op, .int .i64 a, .int .i64 b, .int .i64 c, .int .u64 n]] w _
  have k0 := (Keeps.refl (fun _ => False) w).alloc (.cells #[.int .i64 op, .int .i64 a, .int .i64 b, .int .i64 c, .int .u64 n] 38)
  go_enter Tryd.func15, Tryd.ntmps15
  go_wp2_with (go_at_call 12; refine (F _).mono ?_; rintro e w1 ⟨rfl, k1⟩)
  go_ret2
  exact ⟨rfl, k0.trans k1⟩

set_option maxRecDepth 100000 in
set_option maxHeartbeats 2000000 in
theorem text_yes (i : I5) (hf : formedB i = true) (hn0 : 0 ≤ i.n) (hn : i.n < 18446744073709551616) (w : World) (hw : Nms w) : Calls Tryd.prog 15 #[.agg i.cells] w fun e w' => e = .returned (.tuple #[.string ⟨(textL i).toArray⟩, .int .i64 0]) ∧ Keeps (fun _ => False) w w' := by
  have F := formed_any i
  rw [hf] at F
  have HB := num3_bound hf hn0 hn
  have HL := num3_length i
  have NB := numbers_any i hf
  obtain ⟨⟨h0, h1⟩, -, -, -, -⟩ := formed_facts hf
  have hp := partsN_le h0 h1
  have NM := name_yes i.op h0 h1
  unfold textL numL
  generalize num3 i = L at *
  generalize hq : partsN i.op = q at *
  clear hf hn0 hn h0 h1 hq
  obtain ⟨op, a, b, c, n⟩ := i
  change Calls Tryd.prog 15 #[.agg #[.int .i64 op, .int .i64 a, .int .i64 b, .int .i64 c, .int .u64 n]] w _
  have k0 := (Keeps.refl (fun _ => False) w).alloc (.cells #[.int .i64 op, .int .i64 a, .int .i64 b, .int .i64 c, .int .u64 n] 38)
  go_enter Tryd.func15, Tryd.ntmps15
  go_wp2_with fail
  refine (F _).mono ?_
  rintro e w1 ⟨rfl, k1⟩
  have hb : w1.heap[w.heap.size]? = some (.cells #[.int .i64 op, .int .i64 a, .int .i64 b, .int .i64 c, .int .u64 n] 38 (0, 0)) := (k1.block _ (by simp) (fun f => f)).trans (MapKept.heap_alloc _ _).1
  have c0 : w1.cell? ⟨w.heap.size, 0, none⟩ = some (.int .i64 op) := by rw [cell_of_block hb]; rfl
  have c1 : w1.cell? ⟨w.heap.size, 1, none⟩ = some (.int .i64 a) := by rw [cell_of_block hb]; rfl
  have c2 : w1.cell? ⟨w.heap.size, 2, none⟩ = some (.int .i64 b) := by rw [cell_of_block hb]; rfl
  have c3 : w1.cell? ⟨w.heap.size, 3, none⟩ = some (.int .i64 c) := by rw [cell_of_block hb]; rfl
  have c4 : w1.cell? ⟨w.heap.size, 4, none⟩ = some (.int .u64 n) := by rw [cell_of_block hb]; rfl
  have hw1 := hw.keeps (k0.trans k1) (fun f => f)
  clear hw hb
  go_wp2_with (go_at_call 18; refine (NM _ hw1).mono ?_; rintro e w' ⟨rfl, rfl⟩)
  refine (NB _).mono ?_
  rintro e w2 ⟨p, rfl, hp0, hp1, k2⟩
  have hpl := lt_of_block hp1
  have kk := k0.trans (k1.trans k2)
  clear F NM NB k0 k1 c0 c1 c2 c3 c4 hw1 k2 hp0
  go_wp2_with fail
  go_loopw [4, 16] (fun v u wr => ∃ (k : Nat) (X : List UInt8), v = .string ⟨X.toArray⟩ ∧ u = .int .i64 k ∧ k ≤ q ∧ Hid (X = (nms[op.toNat]?).getD [] ++ blanked (L.take k) ∧ X.length ≤ 10 + 30 * k ∧ Keeps (fun _ => False) w2 wr)) (fun _ u _ => q - (intOf u).toNat)
  case atStart =>
    refine ⟨0, (nms[op.toNat]?).getD [], rfl, rfl, Nat.zero_le _, ⟨by simp [blanked], ?_, Keeps.refl _ _⟩⟩
    have : ∀ l ∈ nms, l.length ≤ 10 := by decide
    cases h : nms[op.toNat]? with
    | none => simp
    | some l => exact this l (List.mem_of_getElem? h)
  case round =>
    obtain ⟨k, X, rfl, rfl, hkq, hh⟩ := hrel
    by_cases hlt : k < q
    · have hki : (k : Int) < q := by omega
      have hk3 : k < L.length := by omega
      obtain ⟨hx0, hx1⟩ := HB _ (List.getElem_mem hk3)
      obtain ⟨hX, hXl, kw⟩ := hh.out
      have hb := (kw.block p hpl (fun f => f)).trans hp1
      have cx : wr.cell? ⟨p, k, none⟩ = some (.int .u64 (L[k]'hk3)) := by rw [cell_of_block hb, u64s_get _ _ hk3]; simp [hk3]
      obtain ⟨x, hx⟩ : ∃ x : Nat, L[k]'hk3 = (x : Int) := ⟨(L[k]'hk3).toNat, by omega⟩
      rw [hx] at cx hx0 hx1
      have D := digits_any x (by omega)
      have hDl : (Lib.decDigits x).length ≤ 20 := by rw [Lib.decDigits_length]; exact Lib.nDigits_le20 x (by omega)
      clear hX kw hb hx0 hx1
      go_wp2_with (go_at_call 28; refine (D _).mono ?_; rintro e w3 ⟨rfl, k3⟩)
      go_roundw
      · obtain ⟨hX, hXl, kw⟩ := hh.out
        refine ⟨k + 1, X ++ (32 :: Lib.decDigits x), ?_, by simp, by omega, ⟨?_, by simp; omega, kw.trans k3⟩⟩
        · rw [show ({ data := #[32] } : ByteArray) = ⟨[(32 : UInt8)].toArray⟩ from rfl, str_app, str_app]
          rfl
        · rw [hX, List.take_succ_eq_append_getElem hk3, hx]
          simp [blanked]
      · simp [intOf]; omega
    · have hki : ¬ (k : Int) < q := by omega
      obtain rfl : k = q := by omega
      have hX := hh.out.1
      have kw := hh.out.2.2
      clear hh
      go_wp2_with fail
      go_ret2
      exact ⟨rfl, kk.trans kw⟩
end Go.Proofs.YtijommlodgpphaaDoor
