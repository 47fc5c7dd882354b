/-
  No statement of the seat is proved here. (Several texts in one: CdC, CdD, CdE.)
-/
import Derived.Test.YtppejcfghlpbjaaGreatDoorM00CMem
import Derived.Lib.ItoaNum
import Derived.Laws.IdiomStrings
import Derived.Deep.RegionHeld3
import Derived.Lib.ItoaLen
import Derived.Shelf.RegionOpen
import Derived.Deep.Upon
import Derived.Laws.AppendOwn
import Derived.OwnWalk

/- Walks of digits (package code): a number in decimal digits. No statement of the seat is proved here. -/
namespace Go.Proofs.YtppejcfghlpbjaaGreatDoor
open Go.RowKit

def zeros20 : Array Value := #[.int .u8 0, .int .u8 0, .int .u8 0, .int .u8 0, .int .u8 0, .int .u8 0, .int .u8 0, .int .u8 0, .int .u8 0, .int .u8 0, .int .u8 0, .int .u8 0, .int .u8 0, .int .u8 0, .int .u8 0, .int .u8 0, .int .u8 0, .int .u8 0, .int .u8 0, .int .u8 0]

/-- Bytes of a block from place m on. -/
def Tail (c : Array Value) (m : Nat) (l : List UInt8) : Prop := c.size = 20 ∧ m + l.length = 20 ∧ ∀ j (hj : j < l.length), c[m + j]? = some (.int .u8 (l[j]).toNat)
theorem Tail.nil : Tail zeros20 20 [] := ⟨rfl, rfl, fun j hj => by simp at hj⟩
theorem Tail.cons {c : Array Value} {m : Nat} {l : List UInt8} (h : Tail c (m + 1) l) (x : UInt8) : Tail (c.setIfInBounds m (.int .u8 x.toNat)) m (x :: l) := by
  obtain ⟨h1, h2, h3⟩ := h
  refine ⟨by simpa using h1, by simp; omega, ?_⟩
  intro j hj
  cases j with
  | zero => simp [Array.getElem?_setIfInBounds, h1]; omega
  | succ j =>
    rw [Array.getElem?_setIfInBounds_ne (by omega)]
    have := h3 j (by simpa using hj)
    rw [show m + (j + 1) = m + 1 + j by omega, this]
    simp

theorem byte_of (d : Nat) (hd : d < 10) : (UInt8.ofNat (48 + d)).toNat = 48 + d := by
  simp; omega

set_option maxRecDepth 100000 in
set_option maxHeartbeats 2000000 in
theorem digits_any (n : Nat) (hn : n < 18446744073709551616) (w : World) : Calls Tryz.prog 56 #[.int .u64 n] w fun e w' => e = .returned (.string ⟨(Lib.decDigits n).toArray⟩) ∧ Keeps (fun _ => False) w w' := by
  go_enter Tryz.func56, Tryz.ntmps56
  go_wp2_with fail
  go_loopw [0, 4] (fun v u wr => ∃ (x m : Nat) (c : Array Value) (l : List UInt8), v = .int .u64 x ∧ u = .int .i64 m ∧ wr = w.alloc (.cells c 140) ∧ Hid (x < 10 ^ (m + 1) ∧ Tail c (m + 1) l ∧ Lib.decDigits n = Lib.decDigits x ++ l) ∧ x < 18446744073709551616) (fun v _ _ => (intOf v).toNat)
  case atStart => exact ⟨n, 19, zeros20, [], rfl, rfl, rfl, ⟨by omega, Tail.nil, by simp⟩, hn⟩
  case round =>
    obtain ⟨x, m, c, l, rfl, rfl, rfl, hh, hx⟩ := hrel
    have hs : c.size = 20 := hh.out.2.1.1
    have hm : m < 20 := by have := hh.out.2.1.2.1; omega
    have hcm : c[m]? = some (c[m]'(by omega)) := by simp
    generalize c[m]'(by omega) = cm at hcm
    have hmi : (m : Int) < 20 := by omega
    by_cases hgt : 9 < x
    · have hgi : (9 : Int) < x := by omega
      obtain ⟨m, rfl⟩ : ∃ q, m = q + 1 := by
        cases m with
        | zero => have := hh.out.1; simp at this; omega
        | succ q => exact ⟨q, rfl⟩
      go_wp2_with fail
      go_roundw
      · obtain ⟨h1, h2, h3⟩ := hh.out
        have hb := byte_of (x % 10) (by omega)
        refine ⟨x / 10, m, _, UInt8.ofNat (48 + x % 10) :: l, by simp, rfl, rfl, ⟨?_, ?_, ?_⟩, by omega⟩
        · have : (10 : Nat) ^ (m + 1 + 1) = 10 ^ (m + 1) * 10 := Nat.pow_succ ..
          omega
        · have := h2.cons (UInt8.ofNat (48 + x % 10))
          rw [hb] at this
          simpa using this
        · rw [h3, Lib.decDigits, dif_neg (by omega)]
          simp
      · simp [intOf]; omega
    · have hgi : ¬ (9 : Int) < x := by omega
      have hle : (m : Int) ≤ 20 := by omega
      have hcv : (convert 52 9 (.slice (some ⟨w.heap.size, m, none⟩) (20 - m) (20 - m))).run Tryz.prog (w.alloc (.cells (c.setIfInBounds m (.int .u8 (48 + x))) 140)) = .ok (.string ⟨(Lib.decDigits n).toArray⟩) (w.alloc (.cells (c.setIfInBounds m (.int .u8 (48 + x))) 140)) := by
        obtain ⟨h1, h2, h3⟩ := hh.out
        have hb := byte_of x (by omega)
        have h4 := h2.cons (UInt8.ofNat (48 + x))
        rw [hb] at h4
        have h5 : Lib.decDigits n = UInt8.ofNat (48 + x) :: l := by rw [h3, Lib.decDigits, dif_pos (by omega)]; rfl
        rw [← h5] at h4
        obtain ⟨-, h6, h7⟩ := h4
        have h := run_convert_bytes_back (P := Tryz.prog) (w.alloc (.cells (c.setIfInBounds m (.int .u8 (48 + x))) 140)) 52 9 5 ⟨w.heap.size, m, none⟩ (20 - m) (Lib.decDigits n) Tryz.underlying52 Tryz.underlying5 Tryz.underlying9 (fun j hj => by
          have := h7 j hj
          rw [show (Addr.add ⟨w.heap.size, m, none⟩ j) = ⟨w.heap.size, m + j, none⟩ by simp [Addr.add], cell_of_block (MapKept.heap_alloc _ _).1]
          simpa using this)
        rw [show (Lib.decDigits n).length = 20 - m by omega] at h
        exact h
      have hk := (Keeps.refl (fun _ => False) w).alloc (.cells (c.setIfInBounds m (.int .u8 (48 + x))) 140)
      clear hh
      go_wp2_with fail
      go_ret
      exact ⟨rfl, hk⟩
end Go.Proofs.YtppejcfghlpbjaaGreatDoor


/- Walks of numbers and Text (package code). No statement of the seat is proved here. -/
namespace Go.Proofs.YtppejcfghlpbjaaGreatDoor
open Go.RowKit Go.Shelf

/-- The numbers behind a formed instruction's operation, and what stands behind them. -/
def num3 (i : I5) : List Int := if numB i.op then [i.a, i.b, i.c].set (regsN i.op) i.n else [i.a, i.b, i.c]
def numL (i : I5) : List Int := (num3 i).take (partsN i.op)

theorem formed_facts {i : I5} (h : formedB i = true) : (1 ≤ i.op ∧ i.op ≤ 17) ∧ (numB i.op = false → i.n = 0) ∧ (0 ≤ i.a ∧ i.a < 8) ∧ (0 ≤ i.b ∧ i.b < 8) ∧ (0 ≤ i.c ∧ i.c < 8) := by
  unfold formedB at h
  simp only [Bool.and_eq_true, decide_eq_true_eq, Bool.or_eq_true] at h
  obtain ⟨⟨⟨⟨h1, h2⟩, h3⟩, h4⟩, h5⟩ := h
  refine ⟨h1, fun hn => ?_, ?_, ?_, ?_⟩
  · rcases h2 with h2 | h2
    · rw [hn] at h2; cases h2
    · exact h2
  · rcases okR_yes h3 with h | h <;> omega
  · rcases okR_yes h4 with h | h <;> omega
  · rcases okR_yes h5 with h | h <;> omega

theorem heap_two (w : World) (o o' : Obj) : ((w.alloc o).alloc o').heap[w.heap.size + 1]? = some o' := by
  have := (MapKept.heap_alloc (w.alloc o) o').1
  simpa using this

set_option maxRecDepth 100000 in
set_option maxHeartbeats 2000000 in
theorem numbers_any (i : I5) (hf : formedB i = true) (w : World) : Calls Tryz.prog 55 #[.agg i.cells] w fun e w' => ∃ p, e = .returned (.slice (some ⟨p, 0, none⟩) (partsN i.op) 3) ∧ w.heap.size ≤ p ∧ w'.heap[p]? = some (.cells (u64s (num3 i)) 40 (0, 0)) ∧ Keeps (fun _ => False) w w' := by
  obtain ⟨⟨h0, h1⟩, -, ⟨ha0, ha1⟩, ⟨hb0, hb1⟩, ⟨hc0, hc1⟩⟩ := formed_facts hf
  obtain ⟨op, a, b, c, n⟩ := i
  dsimp only at *
  have R := regs_any op h0 h1
  have N := number_any op h0 h1
  have P := parts_any op h0 h1
  have hr := (regsN_le h0 h1).2
  have hp := partsN_le h0 h1
  unfold num3
  dsimp only
  clear hf h0 h1
  generalize regsN op = r at *
  generalize numB op = nb at *
  generalize tgtB op = tb at *
  generalize partsN op = q at *
  have hpi : (q : Int) ≤ 3 := by omega
  change Calls Tryz.prog 55 #[.agg #[.int .i64 op, .int .i64 a, .int .i64 b, .int .i64 c, .int .u64 n]] w _
  have ka := ((Keeps.refl (fun _ => False) w).alloc (.cells #[.int .i64 op, .int .i64 a, .int .i64 b, .int .i64 c, .int .u64 n] 45)).alloc (.cells #[.int .u64 a, .int .u64 b, .int .u64 c] 40)
  have hb1' := heap_two w (.cells #[.int .i64 op, .int .i64 a, .int .i64 b, .int .i64 c, .int .u64 n] 45) (.cells #[.int .u64 a, .int .u64 b, .int .u64 c] 40)
  cases nb
  · clear hr
    go_enter Tryz.func55, Tryz.ntmps55
    go_wp2_with (first | (go_at_call 78; refine (P _).mono ?_; rintro e w' ⟨rfl, rfl⟩) | (go_at_call 76; refine (N _).mono ?_; rintro e w' ⟨rfl, rfl⟩))
    go_ret
    exact ⟨_, rfl, by simp, hb1', ka⟩
  · obtain ⟨W, hW⟩ : ∃ W, W = (w.alloc (.cells #[.int .i64 op, .int .i64 a, .int .i64 b, .int .i64 c, .int .u64 n] 45)).alloc (.cells #[.int .u64 a, .int .u64 b, .int .u64 c] 40) := ⟨_, rfl⟩
    have hS0 : W.cell? ⟨w.heap.size, 0, none⟩ = some (.int .i64 op) ∧ W.cell? ⟨w.heap.size, 4, none⟩ = some (.int .u64 n) := by subst hW; simp [go_sem]
    have hr' := hr rfl
    clear hr
    rcases (by omega : r = 0 ∨ r = 1) with rfl | rfl
    · clear hr'
      go_enter Tryz.func55, Tryz.ntmps55
      go_wp2_with (first | (go_at_call 76; refine (N _).mono ?_; rintro e w' ⟨rfl, rfl⟩))
      rw [← hW] at hb1' ka ⊢
      go_region_held3 (fun W : World => W.cell? ⟨w.heap.size, 0, none⟩ = some (.int .i64 op) ∧ W.cell? ⟨w.heap.size, 4, none⟩ = some (.int .u64 n)) (first | assumption | (exact hS0) | go_keep)
        ((go_at_call 77; refine (R _).mono ?_; rintro e w1 ⟨rfl, rfl⟩))
      clear hW hS0 hb1' ka N R
      go_wp2_with (first | (go_at_call 78; refine (P _).mono ?_; rintro e w' ⟨rfl, rfl⟩))
      go_ret
      exact ⟨_, rfl, by simp, heap_two _ _ _, (((Keeps.refl (fun _ => False) w).alloc _).alloc _).drew⟩
    · clear hr'
      go_enter Tryz.func55, Tryz.ntmps55
      go_wp2_with (first | (go_at_call 76; refine (N _).mono ?_; rintro e w' ⟨rfl, rfl⟩))
      rw [← hW] at hb1' ka ⊢
      go_region_held3 (fun W : World => W.cell? ⟨w.heap.size, 0, none⟩ = some (.int .i64 op) ∧ W.cell? ⟨w.heap.size, 4, none⟩ = some (.int .u64 n)) (first | assumption | (exact hS0) | go_keep)
        ((go_at_call 77; refine (R _).mono ?_; rintro e w1 ⟨rfl, rfl⟩))
      clear hW hS0 hb1' ka N R
      go_wp2_with (first | (go_at_call 78; refine (P _).mono ?_; rintro e w' ⟨rfl, rfl⟩))
      go_ret
      exact ⟨_, rfl, by simp, heap_two _ _ _, (((Keeps.refl (fun _ => False) w).alloc _).alloc _).drew⟩

/-- A text: the name, then each number behind a blank. -/
def blanked (l : List Int) : List UInt8 := l.flatMap fun n => 32 :: Lib.decDigits n.toNat
def textL (i : I5) : List UInt8 := (nms[i.op.toNat]?).getD [] ++ blanked (numL i)

theorem num3_length (i : I5) : (num3 i).length = 3 := by unfold num3; split <;> simp
theorem num3_bound {i : I5} (h : formedB i = true) (hn0 : 0 ≤ i.n) (hn : i.n < 18446744073709551616) : ∀ x ∈ num3 i, 0 ≤ x ∧ x < 18446744073709551616 := by
  obtain ⟨-, -, ha, hb, hc⟩ := formed_facts h
  intro x hx
  unfold num3 at hx
  split at hx
  · rcases List.mem_or_eq_of_mem_set hx with h | h
    · simp at h; omega
    · omega
  · simp at hx; omega

theorem str_app (l m : List UInt8) : (⟨l.toArray⟩ : ByteArray) ++ ⟨m.toArray⟩ = ⟨(l ++ m).toArray⟩ := by
  apply ByteArray.ext
  simp

set_option maxRecDepth 100000 in
set_option maxHeartbeats 2000000 in
theorem text_no (i : I5) (hf : formedB i = false) (w : World) : Calls Tryz.prog 33 #[.agg i.cells] w fun e w' => e = .returned (.tuple #[.string ⟨#[]⟩, .int .i64 180]) ∧ Keeps (fun _ => False) w w' := by
  have F := formed_any i
  rw [hf] at F
  clear hf
  obtain ⟨op, a, b, c, n⟩ := i
  change Calls Tryz.prog 33 #[.agg #[.int .i64 op, .int .i64 a, .int .i64 b, .int .i64 c, .int .u64 n]] w _
  have k0 := (Keeps.refl (fun _ => False) w).alloc (.cells #[.int .i64 op, .int .i64 a, .int .i64 b, .int .i64 c, .int .u64 n] 45)
  go_enter Tryz.func33, Tryz.ntmps33
  go_wp2_with (go_at_call 53; refine (F _).mono ?_; rintro e w1 ⟨rfl, k1⟩)
  go_ret2
  exact ⟨rfl, k0.trans k1⟩

set_option maxRecDepth 100000 in
set_option maxHeartbeats 2000000 in
theorem text_yes (i : I5) (hf : formedB i = true) (hn0 : 0 ≤ i.n) (hn : i.n < 18446744073709551616) (w : World) (hw : Nms w) : Calls Tryz.prog 33 #[.agg i.cells] w fun e w' => e = .returned (.tuple #[.string ⟨(textL i).toArray⟩, .int .i64 0]) ∧ Keeps (fun _ => False) w w' := by
  have F := formed_any i
  rw [hf] at F
  have HB := num3_bound hf hn0 hn
  have HL := num3_length i
  have NB := numbers_any i hf
  obtain ⟨⟨h0, h1⟩, -, -, -, -⟩ := formed_facts hf
  have hp := partsN_le h0 h1
  have NM := name_yes i.op h0 h1
  unfold textL numL
  generalize num3 i = L at *
  generalize hq : partsN i.op = q at *
  clear hf hn0 hn h0 h1 hq
  obtain ⟨op, a, b, c, n⟩ := i
  change Calls Tryz.prog 33 #[.agg #[.int .i64 op, .int .i64 a, .int .i64 b, .int .i64 c, .int .u64 n]] w _
  have k0 := (Keeps.refl (fun _ => False) w).alloc (.cells #[.int .i64 op, .int .i64 a, .int .i64 b, .int .i64 c, .int .u64 n] 45)
  go_enter Tryz.func33, Tryz.ntmps33
  go_wp2_with fail
  refine (F _).mono ?_
  rintro e w1 ⟨rfl, k1⟩
  have hb : w1.heap[w.heap.size]? = some (.cells #[.int .i64 op, .int .i64 a, .int .i64 b, .int .i64 c, .int .u64 n] 45 (0, 0)) := (k1.block _ (by simp) (fun f => f)).trans (MapKept.heap_alloc _ _).1
  have c0 : w1.cell? ⟨w.heap.size, 0, none⟩ = some (.int .i64 op) := by rw [cell_of_block hb]; rfl
  have c1 : w1.cell? ⟨w.heap.size, 1, none⟩ = some (.int .i64 a) := by rw [cell_of_block hb]; rfl
  have c2 : w1.cell? ⟨w.heap.size, 2, none⟩ = some (.int .i64 b) := by rw [cell_of_block hb]; rfl
  have c3 : w1.cell? ⟨w.heap.size, 3, none⟩ = some (.int .i64 c) := by rw [cell_of_block hb]; rfl
  have c4 : w1.cell? ⟨w.heap.size, 4, none⟩ = some (.int .u64 n) := by rw [cell_of_block hb]; rfl
  have hw1 := hw.keeps (k0.trans k1) (fun f => f)
  clear hw hb
  go_wp2_with (go_at_call 54; refine (NM _ hw1).mono ?_; rintro e w' ⟨rfl, rfl⟩)
  refine (NB _).mono ?_
  rintro e w2 ⟨p, rfl, hp0, hp1, k2⟩
  have hpl := lt_of_block hp1
  have kk := k0.trans (k1.trans k2)
  clear F NM NB k0 k1 c0 c1 c2 c3 c4 hw1 k2 hp0
  go_wp2_with fail
  go_loopw [4, 16] (fun v u wr => ∃ (k : Nat) (X : List UInt8), v = .string ⟨X.toArray⟩ ∧ u = .int .i64 k ∧ k ≤ q ∧ Hid (X = (nms[op.toNat]?).getD [] ++ blanked (L.take k) ∧ X.length ≤ 10 + 30 * k ∧ Keeps (fun _ => False) w2 wr)) (fun _ u _ => q - (intOf u).toNat)
  case atStart =>
    refine ⟨0, (nms[op.toNat]?).getD [], rfl, rfl, Nat.zero_le _, ⟨by simp [blanked], ?_, Keeps.refl _ _⟩⟩
    have : ∀ l ∈ nms, l.length ≤ 10 := by decide
    cases h : nms[op.toNat]? with
    | none => simp
    | some l => exact this l (List.mem_of_getElem? h)
  case round =>
    obtain ⟨k, X, rfl, rfl, hkq, hh⟩ := hrel
    by_cases hlt : k < q
    · have hki : (k : Int) < q := by omega
      have hk3 : k < L.length := by omega
      obtain ⟨hx0, hx1⟩ := HB _ (List.getElem_mem hk3)
      obtain ⟨hX, hXl, kw⟩ := hh.out
      have hb := (kw.block p hpl (fun f => f)).trans hp1
      have cx : wr.cell? ⟨p, k, none⟩ = some (.int .u64 (L[k]'hk3)) := by rw [cell_of_block hb, u64s_get _ _ hk3]; simp [hk3]
      obtain ⟨x, hx⟩ : ∃ x : Nat, L[k]'hk3 = (x : Int) := ⟨(L[k]'hk3).toNat, by omega⟩
      rw [hx] at cx hx0 hx1
      have D := digits_any x (by omega)
      have hDl : (Lib.decDigits x).length ≤ 20 := by rw [Lib.decDigits_length]; exact Lib.nDigits_le20 x (by omega)
      clear hX kw hb hx0 hx1
      go_wp2_with (go_at_call 56; refine (D _).mono ?_; rintro e w3 ⟨rfl, k3⟩)
      go_roundw
      · obtain ⟨hX, hXl, kw⟩ := hh.out
        refine ⟨k + 1, X ++ (32 :: Lib.decDigits x), ?_, by simp, by omega, ⟨?_, by simp; omega, kw.trans k3⟩⟩
        · rw [show ({ data := #[32] } : ByteArray) = ⟨[(32 : UInt8)].toArray⟩ from rfl, str_app, str_app]
          rfl
        · rw [hX, List.take_succ_eq_append_getElem hk3, hx]
          simp [blanked]
      · simp [intOf]; omega
    · have hki : ¬ (k : Int) < q := by omega
      obtain rfl : k = q := by omega
      have hX := hh.out.1
      have kw := hh.out.2.2
      clear hh
      go_wp2_with fail
      go_ret2
      exact ⟨rfl, kk.trans kw⟩
end Go.Proofs.YtppejcfghlpbjaaGreatDoor


/- Rows of the call's own that grow, of elements of any size; walks of sevens (package code). No statement of the seat is proved here. -/
namespace Go.Proofs.YtppejcfghlpbjaaGreatDoor
open Go.RowKit Go.Shelf

/-- An append whose run is known, at its place in the walk. -/
theorem wpList_append_run {P : Program} {w : World} {ops : Array Oper} {rest : List Oper} {o : Oper} {a : Act} {Q : Exit → Act → World → Prop} (hgd : o.guard = none) (s x : Operand) (t : TypeId)
    (ho : o.op = .call { callee := .builtin .append, args := #[s, x], argTypes := #[t, t] }) {v y v' : Value} {w' : World} (hs : a.eval s = v) (hx : a.eval x = y)
    (hrun : (Builtin.append_ #[t, t] o.type #[v, y]).run P w = .ok v' w') (h : wpList P ops Q rest (a.put o.dst v') w') : wpList P ops Q (o :: rest) a w :=
  wpList_plain hgd fun K hK => by
    unfold Oper.wp execOp
    simp only [ho, resolve, invoke, builtin, Sem.run_bind, Sem.run_pure, Result.andThen_ok, List.map_toArray, List.map_cons, List.map_nil, hs, hx, hrun]
    exact hK _ _ h

theorem addr_add (b o i : Nat) : (⟨b, o, none⟩ : Addr).add i = ⟨b, o + i, none⟩ := by unfold Addr.add; split <;> simp_all

theorem own_block {w : World} {base size : Nat} {e : TypeId} {v : Value} {n : Nat} {xs : List Value} (h : w.ownsRow base e size v n xs) {g : Nat} (hg : v.ownBlock = some g) : g < w.heap.size ∧ base ≤ g := by
  rcases h.2 with ⟨rfl, rfl⟩ | ⟨g', cap, cur, rfl, h1, h2, _⟩
  · cases hg
  · cases hg; exact ⟨lt_of_block h2, h1⟩
theorem own_keep {w w' : World} {base size : Nat} {e : TypeId} {v : Value} {n : Nat} {xs : List Value} (h : w.ownsRow base e size v n xs) (hk : ∀ g, v.ownBlock = some g → w'.heap[g]? = w.heap[g]?) : w'.ownsRow base e size v n xs := by
  refine ⟨h.1, ?_⟩
  rcases h.2 with ⟨rfl, rfl⟩ | ⟨g', cap, cur, rfl, h1, h2, h3⟩
  · exact .inl ⟨rfl, rfl⟩
  · exact .inr ⟨g', cap, cur, rfl, h1, (hk g' rfl).trans h2, h3⟩
theorem own_keeps {w w' : World} {base size : Nat} {e : TypeId} {v : Value} {n : Nat} {xs : List Value} {S : Nat → Prop} (h : w.ownsRow base e size v n xs) (k : Keeps S w w') (hs : ∀ g, v.ownBlock = some g → ¬ S g) : w'.ownsRow base e size v n xs :=
  own_keep h fun g hg => k.block g (own_block h hg).1 (hs g hg)

/-- More behind a row of the call's own. -/
theorem own_push {P : Program} (w : World) (base : Nat) (t ty e : TypeId) (z : Value) (size bytes : Nat) (ht : P.underlying t = some (.slice e)) (hinfo : (P.info? e).map (fun i => (i.zero, i.size, i.bytes)) = some (some z, size, bytes)) (hzs : z.cells.size = size) (hsz : 0 < size)
    (v : Value) (n : Nat) (xs : List Value) (hown : w.ownsRow base e size v n xs) (ad : Addr) (m c : Nat) (us : List Value) (hl : us.length = m * size) (hu : ∀ (j : Nat) (u : Value), us[j]? = some u → w.cell? (ad.add j) = some u) (h1 : ∀ u ∈ us, u.oneCell' = true) (hbytes : (n + m) * bytes ≤ 140737488355328) (hb1 : 0 < bytes) (hbase : base ≤ w.heap.size) :
    ∃ v' w', (Builtin.append_ #[t, t] ty #[v, .slice (some ad) m c]).run P w = .ok v' w' ∧ w'.ownsRow base e size v' (n + m) (xs ++ us) ∧ w.grownBy w' v.ownBlock ∧ (v'.ownBlock = v.ownBlock ∨ ∀ g, v'.ownBlock = some g → w.heap.size ≤ g) := by
  obtain ⟨i, hi, hz0, hz1, hz2⟩ := info_parts hinfo
  have hnm : n + m ≤ 140737488355328 := Nat.le_trans (Nat.le_mul_of_pos_right _ hb1) hbytes
  have h63 : n + m ≤ maxLen := by simp only [maxLen]; omega
  obtain ⟨v', w', r1, r2, r3, _⟩ := run_append_own (P := P) w base t ty e i z size bytes ht hi hz0 hz1 hz2 hzs hsz v n xs hown ad m c us hl hu h1 h63 hbytes hbase
  refine ⟨v', w', r1, r2, r3, ?_⟩
  rcases hown.2 with ⟨rfl, rfl⟩ | ⟨g, cap, cur, rfl, q1, q2, q3, q4, q5, q6⟩
  · obtain ⟨v2, w2, s1, s2, _⟩ := run_append_own (P := P) w w.heap.size t ty e i z size bytes ht hi hz0 hz1 hz2 hzs hsz (.slice none 0 0) 0 xs ⟨hown.1, .inl ⟨rfl, rfl⟩⟩ ad m c us hl hu h1 h63 hbytes (Nat.le_refl _)
    rw [r1] at s1
    injection s1 with e1 e2
    subst e1; subst e2
    exact .inr fun g hg => (own_block s2 hg).2
  · by_cases hc : n + m ≤ cap
    · have s1 := run_append_room (P := P) w t ty e i ht hi g n cap cur q2 ad m c us (by rw [hz1]; exact hl) hu h1 hc (by rw [hz1, q5, hl, ← Nat.add_mul]; exact Nat.mul_le_mul_right _ hc)
      rw [r1] at s1
      injection s1 with e1 e2
      exact .inl (by rw [e1]; rfl)
    · have s1 := run_append_grow (P := P) w t ty e i z ht hi hz0 ⟨g, 0, none⟩ n cap xs (by rw [hz1]; exact hown.1) (fun j v0 hj => by
        rw [addr_add, Nat.zero_add, cell_of_block q2]
        have hlt : j < n * size := by
          have := (List.getElem?_eq_some_iff.1 hj).1
          rw [hown.1] at this; omega
        rw [← q6, List.getElem?_take_of_lt hlt] at hj
        simpa using hj) ad m c us (by rw [hz1]; exact hl) hu (by omega) (by simp only [maxLen] at h63; omega) (growslice_fits (by omega) (by rw [hz2]; exact hbytes))
      rw [r1] at s1
      injection s1 with e1 e2
      exact .inr fun g' hg => by rw [e1] at hg; cases hg; exact Nat.le_refl _

theorem info_u8 : (Tryz.prog.info? 5).map (fun i => (i.zero, i.size, i.bytes)) = some (some (.int .u8 0), 1, 1) := by kernel_rfl

/-- A row of bytes of the call's own. -/
structure Bts (w : World) (base : Nat) (v : Value) (l : List UInt8) : Prop where
  own : w.ownsRow base 5 1 v l.length (l.map fun b => Value.int .u8 b.toNat)
  base : base ≤ w.heap.size
theorem Bts.nil (w : World) : Bts w w.heap.size (.slice none 0 0) [] := ⟨⟨rfl, .inl ⟨rfl, rfl⟩⟩, Nat.le_refl _⟩
theorem Bts.keeps {w w' : World} {base : Nat} {v : Value} {l : List UInt8} {S : Nat → Prop} (h : Bts w base v l) (k : Keeps S w w') (hs : ∀ g, v.ownBlock = some g → ¬ S g) : Bts w' base v l :=
  ⟨own_keeps h.own k hs, Nat.le_trans h.base k.size⟩
/-- What changes where a row grows. -/
structure Grew (w w' : World) (v v' : Value) : Prop where
  keeps : Keeps (fun g => v.ownBlock = some g) w w'
  own : v'.ownBlock = v.ownBlock ∨ ∀ g, v'.ownBlock = some g → w.heap.size ≤ g
theorem Grew.refl (w : World) (v : Value) : Grew w w v v := ⟨Keeps.refl _ _, .inl rfl⟩
theorem Grew.trans {a b c : World} {u v x : Value} (h : Grew a b u v) (k : Grew b c v x) : Grew a c u x := by
  refine ⟨⟨k.keeps.os.trans h.keeps.os, k.keeps.tape.trans h.keeps.tape, k.keeps.output.trans h.keeps.output, Nat.le_trans h.keeps.size k.keeps.size, fun g hg hs => (k.keeps.block g (Nat.lt_of_lt_of_le hg h.keeps.size) fun e => ?_).trans (h.keeps.block g hg hs)⟩, ?_⟩
  · rcases h.own with ho | ho
    · exact hs (ho ▸ e)
    · have := ho g e; omega
  · rcases k.own with ko | ko
    · rcases h.own with ho | ho
      · exact .inl (ko.trans ho)
      · exact .inr fun g hg => ho g (ko ▸ hg)
    · exact .inr fun g hg => Nat.le_trans h.keeps.size (ko g hg)
theorem Grew.quiet {a b c : World} {u v : Value} (h : Grew a b u v) (k : Keeps (fun _ => False) b c) : Grew a c u v :=
  ⟨h.keeps.trans (k.mono fun _ _ f => f.elim), h.own⟩
theorem Grew.ahead {a b c : World} {u v : Value} (k : Keeps (fun _ => False) a b) (h : Grew b c u v) : Grew a c u v :=
  ⟨(k.mono fun _ _ f => f.elim).trans h.keeps, by rcases h.own with ho | ho; exact .inl ho; exact .inr fun g hg => Nat.le_trans k.size (ho g hg)⟩

theorem Bts.push {w : World} {base : Nat} {v : Value} {l : List UInt8} (h : Bts w base v l) (x : UInt8) (hb : l.length + 1 ≤ 140737488355328) :
    ∃ v' w', (Builtin.append_ #[52, 52] 52 #[v, .slice (some ⟨w.heap.size, 0, none⟩) 1 1]).run Tryz.prog (w.alloc (.cells #[.int .u8 x.toNat] 5)) = .ok v' w' ∧ Bts w' base v' (l ++ [x]) ∧ Grew w w' v v' := by
  have k0 := (Keeps.refl (fun _ => False) w).alloc (.cells #[.int .u8 x.toNat] 5)
  have h0 := h.keeps k0 (fun _ _ f => f)
  obtain ⟨v', w', h1, h2, h3, h4⟩ := own_push (P := Tryz.prog) (w.alloc (.cells #[.int .u8 x.toNat] 5)) base 52 52 5 (.int .u8 0) 1 1 Tryz.underlying52 info_u8 rfl (by decide) v l.length _ h0.own ⟨w.heap.size, 0, none⟩ 1 1 [.int .u8 x.toNat] rfl (fun j u hj => by
    match j with
    | 0 => simp at hj; subst hj; rw [addr_add, cell_of_block (MapKept.heap_alloc _ _).1]; rfl
    | j + 1 => simp at hj) (by simp [Value.oneCell']) (by omega) (by decide) h0.base
  refine ⟨v', w', h1, ⟨by simpa using h2, Nat.le_trans h0.base h3.size⟩, Grew.ahead k0 ⟨(Keeps.refl _ _).grown h3 fun k hk => .inr hk, h4⟩⟩

/-- A number, seven bits a byte. -/
def sevL (n : Nat) : List UInt8 := if h : 127 < n then UInt8.ofNat (n % 128 + 128) :: sevL (n / 128) else [UInt8.ofNat n]
termination_by n
decreasing_by omega
theorem sevL_more {n : Nat} (h : 127 < n) : sevL n = UInt8.ofNat (n % 128 + 128) :: sevL (n / 128) := by rw [sevL, dif_pos h]
theorem sevL_last {n : Nat} (h : ¬ 127 < n) : sevL n = [UInt8.ofNat n] := by rw [sevL, dif_neg h]
theorem sevL_pos (n : Nat) : 1 ≤ (sevL n).length := by
  by_cases h : 127 < n
  · rw [sevL_more h]; simp
  · rw [sevL_last h]; simp

theorem or128 (n : Nat) : bits .or .u8 ((n : Int) % 256) 128 = ((n % 128 + 128 : Nat) : Int) := by
  show IntKind.u8.wrap ((BitVec.ofInt 8 ((n : Int) % 256) ||| BitVec.ofInt 8 128).toNat : Nat) = _
  have key : (BitVec.ofInt 8 ((n : Int) % 256) ||| BitVec.ofInt 8 128).toNat = n % 128 + 128 := by
    have h256 : ∀ m : Fin 256, (BitVec.ofNat 8 m.val ||| BitVec.ofInt 8 128).toNat = m.val % 128 + 128 := by decide +kernel
    have h1 := h256 ⟨n % 256, by omega⟩
    rw [show BitVec.ofInt 8 ((n : Int) % 256) = BitVec.ofNat 8 (n % 256) from by
      apply BitVec.eq_of_toNat_eq
      rw [BitVec.toNat_ofInt, BitVec.toNat_ofNat]
      omega]
    rw [h1]
    show n % 256 % 128 + 128 = _
    omega
  rw [key]
  simp [IntKind.wrap, IntKind.signed, IntKind.bits]
  omega

theorem sevL_le : ∀ (k n : Nat), n < 128 ^ (k + 1) → (sevL n).length ≤ k + 1
  | k, n, h => by
    by_cases hg : 127 < n
    · rw [sevL_more hg, List.length_cons]
      cases k with
      | zero => simp at h; omega
      | succ k =>
        have : n / 128 < 128 ^ (k + 1) := by
          have : (128 : Nat) ^ (k + 1 + 1) = 128 ^ (k + 1) * 128 := Nat.pow_succ ..
          omega
        have := sevL_le k (n / 128) this
        omega
    · rw [sevL_last hg]; simp
theorem sevL_le10 {n : Nat} (h : n < 18446744073709551616) : (sevL n).length ≤ 10 := sevL_le 9 n (by omega)

/-- What grew is of the call's own: all that was there is kept. -/
theorem Grew.kept {w wr w' : World} {u u' : Value} {X : List UInt8} (h : Grew wr w' u u') (k : Keeps (fun _ => False) w wr) (hb : Bts wr w.heap.size u X) : Keeps (fun _ => False) w w' :=
  ⟨h.keeps.os.trans k.os, h.keeps.tape.trans k.tape, h.keeps.output.trans k.output, Nat.le_trans k.size h.keeps.size, fun g hg hs => (h.keeps.block g (Nat.lt_of_lt_of_le hg k.size) fun e => by
    have := (own_block hb.own e).2; omega).trans (k.block g hg hs)⟩
end Go.Proofs.YtppejcfghlpbjaaGreatDoor
