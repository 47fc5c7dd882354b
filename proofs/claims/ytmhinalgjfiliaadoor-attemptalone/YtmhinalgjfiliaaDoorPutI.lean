
/-
  Walks of the program's empty, New, come, leave, Get and of Put where no slots are added. No statement of the seat is proved here.
-/
import Derived.Test.YtmhinalgjfiliaaDoorFindI
import Derived.Test.YtmhinalgjfiliaaDoorTabB
import Derived.BigRegion
import Derived.BigQuiet
import Derived.Deep.QuietTactic
import Derived.Deep.RegionWith
namespace Go.Proofs.YtmhinalgjfiliaaDoor.I
open Go.RowKit

/-- The types of this table's blocks. -/
def kinds : Kinds := { tab := 129, slot := 126, ent := 131, zero := Value.int .i64 0 }

theorem info_ptr : (Tryd.prog.info? 126).map (fun i => (i.zero, i.size, i.bytes)) = some (some (.pointer none), 1, 8) := by kernel_rfl
theorem made_slots (n : Nat) : madeCells (Value.pointer none).cells n = slotCells (fun _ => 0) (List.replicate n none) := by
  apply Array.ext
  · simp [size_madeCells, slotCells]
  · intro i h1 h2
    simp [madeCells, slotCells, Value.cells, Nat.mod_one, slotVal]
theorem run_slots (n : Nat) (hn : n ≤ 35184372088832) (w : World) : (Instr.makeSlice 127 (.int .i64 n) (.int .i64 n)).run Tryd.prog w =
    .ok (.slice (some ⟨w.heap.size, 0, none⟩) n n) (w.alloc (.cells (slotCells (fun _ => 0) (List.replicate n none)) 126)) := by
  obtain ⟨i0, hi, hz0, hz1, hz2⟩ := info_parts info_ptr
  have h := run_make (P := Tryd.prog) w 127 126 i0 (.pointer none) Tryd.underlying127 hi hz0 .i64 .i64 n n (by omega) (Int.le_refl _) (by rw [hz2]; omega) (by omega)
  rw [h, hz1, Int.toNat_natCast, Nat.mul_one, made_slots]

set_option maxHeartbeats 400000 in
theorem empty_at (n : Nat) (hn : n ≤ 35184372088832) (vf : Int → Value) (w : World) :
    Calls Tryd.prog 79 #[.int .i64 n] w fun e w' => e = .returned (.pointer (some ⟨w.heap.size + 2, 0, none⟩)) ∧
      TabAt kinds w' (w.heap.size + 2) (w.heap.size + 1) w.heap.size (List.replicate n none) [] (fun _ => 0) vf ∧ Keeps (fun _ => False) w w' ∧ w'.heap.size = w.heap.size + 3 := by
  have hmk := run_slots n hn
  have hl : (List.replicate n (none : Option Int)).length = n := by simp
  generalize hcs : slotCells (fun _ => 0) (List.replicate n none) = cs at *
  have HC : Hid (slotCells (fun _ => 0) (List.replicate n none) = cs) := hcs
  clear hcs
  generalize hK : List.replicate n (none : Option Int) = K at *
  have HL : Hid (K.length = n) := hl
  clear hl hK
  go_enter Tryd.func79, Tryd.ntmps79
  go_wp2_with fail
  go_ret
  refine ⟨rfl, ⟨?_, ?_, ?_, fun i hi => absurd hi (by simp), by omega, by omega, by omega, fun k hk => absurd hk (by simp), fun k q hk => absurd hk (by simp), by simp⟩, (((Keeps.refl _ w).alloc _).alloc _).alloc _, by simp⟩
  · rw [HL.out]
    have := alloc_block ((w.alloc (.cells #[.int .u64 0, Value.int .i64 0, .pointer (some ⟨w.heap.size, 0, none⟩), .pointer (some ⟨w.heap.size, 0, none⟩)] 131)).alloc (.cells cs 126)) (.cells #[.slice (some ⟨w.heap.size + 1, 0, none⟩) n n, .int .i64 0, .pointer (some ⟨w.heap.size, 0, none⟩)] 129)
    simpa [kinds] using this
  · rw [HC.out]
    refine alloc_old ?_ _
    have := alloc_block (w.alloc (.cells #[.int .u64 0, Value.int .i64 0, .pointer (some ⟨w.heap.size, 0, none⟩), .pointer (some ⟨w.heap.size, 0, none⟩)] 131)) (.cells cs 126)
    simpa [kinds] using this
  · exact alloc_old (alloc_old (alloc_block w _) _) _

set_option maxHeartbeats 400000 in
theorem new_at (vf : Int → Value) (w : World) :
    Calls Tryd.prog 67 #[] w fun e w' => e = .returned (.pointer (some ⟨w.heap.size + 2, 0, none⟩)) ∧
      TabAt kinds w' (w.heap.size + 2) (w.heap.size + 1) w.heap.size (List.replicate 8 none) [] (fun _ => 0) vf ∧ Keeps (fun _ => False) w w' ∧ w'.heap.size = w.heap.size + 3 := by
  go_enter Tryd.func67, Tryd.ntmps67
  go_wp2_with fail
  refine (empty_at 8 (by omega) vf w).mono ?_
  rintro e w' ⟨rfl, h1, h2, h3⟩
  have H3 : Hid (w'.heap.size = w.heap.size + 3) := h3
  clear h3
  go_wp2_with fail
  go_ret
  exact ⟨rfl, h1, h2, H3.out⟩

set_option maxHeartbeats 400000 in
theorem come_at (b s e0 : Nat) (K : List (Option Int)) (O : List Int) (bf : Int → Nat) (vf : Int → Value) (k : Int) (v : Int) (w : World) (h : TabAt kinds w b s e0 K O bf vf) (hO : O.length < 35184372088832) :
    Calls Tryd.prog 72 #[.pointer (some ⟨b, 0, none⟩), .int .u64 k, .int .i64 v] w fun e w' => e = .returned (.pointer (some ⟨w.heap.size, 0, none⟩)) ∧
      Like w' (comeW kinds w b e0 (node bf e0 O O.length) k (.int .i64 v) (O.length + 1 : Nat)) := by
  have c1 := h.c1
  have c2 := h.c2
  have s2 : w.cell? ⟨e0, 2, none⟩ = some (.pointer (some ⟨node bf e0 O O.length, 0, none⟩)) := by rw [cell_of_block h.sent]; rfl
  have f1 := h.fb 1
  have fe := h.fe 2
  have hl : ∃ c : Array Value, w.heap[node bf e0 O O.length]? = some (.cells c kinds.ent (0, 0)) ∧ ∃ u, c[3]? = some u := by
    cases hO : O.length with
    | zero => exact ⟨_, h.sent, _, rfl⟩
    | succ j => exact ⟨_, by rw [node_pos bf e0 O (by omega)]; exact h.ent j (by omega), _, rfl⟩
  obtain ⟨cs, hcs, u, hu⟩ := hl
  have l3 : w.cell? ⟨node bf e0 O O.length, 3, none⟩ = some u := by rw [cell_of_block hcs]; exact hu
  have fl := frozen_of_block hcs 3
  clear hu h
  generalize node bf e0 O O.length = last at *
  have hlt := lt_of_block hcs
  have hlb := World.block_lt_of_cell? _ _ c1
  have hle := World.block_lt_of_cell? _ _ s2
  go_enter Tryd.func72, Tryd.ntmps72
  go_wp2_with fail
  go_region
  have hW := alloc_block w (.cells (entCells k (.int .i64 v) last e0) 131)
  have n2 : ((w.alloc (.cells (entCells k (.int .i64 v) last e0) 131)).drew).cell? ⟨w.heap.size, 2, none⟩ = some (.pointer (some ⟨last, 0, none⟩)) := cell_of_block (w := (w.alloc (.cells (entCells k (.int .i64 v) last e0) 131)).drew) hW 2
  have n3 : ((w.alloc (.cells (entCells k (.int .i64 v) last e0) 131)).drew).cell? ⟨w.heap.size, 3, none⟩ = some (.pointer (some ⟨e0, 0, none⟩)) := cell_of_block (w := (w.alloc (.cells (entCells k (.int .i64 v) last e0) 131)).drew) hW 3
  have hold : ∀ (x i : Nat), x < w.heap.size → ((w.alloc (.cells (entCells k (.int .i64 v) last e0) 131)).drew).cell? ⟨x, i, none⟩ = w.cell? ⟨x, i, none⟩ := fun x i hx => World.cell?_alloc_lt w _ ⟨x, i, none⟩ hx
  have hfold : ∀ (x i : Nat), x < w.heap.size → ((w.alloc (.cells (entCells k (.int .i64 v) last e0) 131)).drew).frozen? ⟨x, i, none⟩ = w.frozen? ⟨x, i, none⟩ := fun x i hx => by
    show (w.alloc (.cells (entCells k (.int .i64 v) last e0) 131)).frozen? ⟨x, i, none⟩ = _
    simp only [World.frozen?, Below.heap_alloc _ _ _ hx]
  have m1 := (hold b 1 hlb).trans c1
  have m2 := (hfold b 1 hlb).trans f1
  have m3 := (hold e0 2 hle).trans s2
  have m4 := (hfold e0 2 hle).trans fe
  have m5 := (hold last 3 hlt).trans l3
  have m6 := (hfold last 3 hlt).trans fl
  clear hold hfold c1 f1 s2 fe l3 fl c2 hW hcs
  simp only [entCells] at n2 n3 m1 m2 m3 m4 m5 m6
  generalize hW : (w.alloc (.cells #[.int .u64 k, .int .i64 v, .pointer (some ⟨last, 0, none⟩), .pointer (some ⟨e0, 0, none⟩)] 131)).drew = W at *
  have HW : Hid ((w.alloc (.cells #[.int .u64 k, .int .i64 v, .pointer (some ⟨last, 0, none⟩), .pointer (some ⟨e0, 0, none⟩)] 131)).drew = W) := hW
  clear hW
  generalize hM : w.heap.size = N at *
  have HM : Hid (w.heap.size = N) := hM
  clear hM
  go_wp2_with fail
  go_region
  go_wp2_with fail
  go_ret
  refine ⟨by rw [HM.out]; rfl, ?_⟩
  rw [← HM.out, ← HW.out]
  exact ⟨rfl, rfl, rfl, rfl⟩

set_option maxHeartbeats 400000 in
theorem put_nil (k : Int) (v : Int) (w : World) : Calls Tryd.prog 51 #[.pointer none, .int .u64 k, .int .i64 v] w fun e w' => e = .returned (.tuple #[Value.int .i64 0, .bool false, .int .i64 1]) ∧ w' = w := by
  go_enter Tryd.func51, Tryd.ntmps51
  go_wp2_with (go_at_call 69; refine (made_nil _).mono ?_; rintro e w' ⟨rfl, rfl⟩)
  go_ret3
  exact ⟨rfl, rfl⟩

/-- A table that is in order: its memory, what stays true of it, room. -/
structure Good (w : World) (b s e0 p : Nat) (K : List (Option Int)) (O : List Int) (bf : Int → Nat) (vf : Int → Value) : Prop where
  tab : TabAt kinds w b s e0 K O bf vf
  inv : Inv (2 ^ p) (homeP p) K O
  load : 4 * O.length ≤ 3 * 2 ^ p
  p3 : 3 ≤ p
  p40 : p ≤ 45
  many : O.length ≤ 17592186044416

section
variable {w w' : World} {b s e0 p : Nat} {K : List (Option Int)} {O : List Int} {bf : Int → Nat} {vf : Int → Value}
theorem Good.seen (h : Good w b s e0 p K O bf vf) : Seen w b s p K bf := h.tab.seen h.inv.len h.p3 (by have := h.p40; omega) (fun x k hx => (h.inv.mem k).2 ⟨x, hx⟩)
theorem Good.pow (h : Good w b s e0 p K O bf vf) : 2 ^ p ≤ 35184372088832 := Nat.pow_le_pow_right (n := 2) (by decide) h.p40
theorem Good.len (h : Good w b s e0 p K O bf vf) : O.length ≤ 17592186044416 := h.many
theorem Good.find (h : Good w b s e0 p K O bf vf) (hw : Tz w) (k : Int) :
    Calls Tryd.prog 70 #[.pointer (some ⟨b, 0, none⟩), .int .u64 k] w fun e w' =>
      e = .returned (.tuple #[.int .i64 (slotN (2 ^ p) K (homeP p k) k), .int .i64 (lookN (2 ^ p) K (homeP p k) k + 1 : Nat)]) ∧ w' = w := find_at b s p K bf k w h.seen hw h.inv.free
theorem Good.made (h : Good w b s e0 p K O bf vf) :
    Calls Tryd.prog 69 #[.pointer (some ⟨b, 0, none⟩)] w fun e w' => e = .returned (.bool true) ∧ w' = w := made_yes b s K.length (by rw [h.inv.len]; exact Nat.two_pow_pos p) w h.tab.c0
theorem Good.slotlt (h : Good w b s e0 p K O bf vf) (k : Int) : slotN (2 ^ p) K (homeP p k) k < K.length := by rw [h.inv.len]; exact slot_lt (h.inv.home k) k h.inv.free
end

set_option maxHeartbeats 400000 in
theorem put_in (b s e0 p : Nat) (K : List (Option Int)) (O : List Int) (bf : Int → Nat) (vf : Int → Value) (k : Int) (v : Int) (w : World) (h : Good w b s e0 p K O bf vf) (hw : Tz w) (hk : k ∈ O) :
    Calls Tryd.prog 51 #[.pointer (some ⟨b, 0, none⟩), .int .u64 k, .int .i64 v] w fun e w' => e = .returned (.tuple #[vf k, .bool true, .int .i64 0]) ∧
      Good w' b s e0 p K O bf (upd vf k (.int .i64 v)) ∧ Keeps (Own b s e0 O bf) w w' := by
  have hm := h.made
  have hf := h.find hw k
  have c0 := h.tab.c0
  have hsl := h.slotlt k
  have hcs := h.tab.cs _ hsl
  rw [h.inv.slot_in hk] at hcs
  obtain ⟨a, c, he⟩ := h.tab.key hk
  have hv : w.cell? ⟨bf k, 1, none⟩ = some (vf k) := by rw [cell_of_block he]; rfl
  have hfz := frozen_of_block he 1
  have hT : TabAt kinds (w.setCell ⟨bf k, 1, none⟩ (.int .i64 v)) b s e0 K O bf (upd vf k (.int .i64 v)) := h.tab.value hk _
  have hG : Good (w.setCell ⟨bf k, 1, none⟩ (.int .i64 v)) b s e0 p K O bf (upd vf k (.int .i64 v)) := ⟨hT, h.inv, h.load, h.p3, h.p40, h.many⟩
  have hK : Keeps (Own b s e0 O bf) w (w.setCell ⟨bf k, 1, none⟩ (.int .i64 v)) := (Keeps.refl _ w).setCell (p := ⟨bf k, 1, none⟩) (.inr (.inr (.inr (.inr ⟨k, hk, rfl⟩)))) _
  simp only [slotVal] at hcs
  generalize slotN (2 ^ p) K (homeP p k) k = x at *
  generalize lookN (2 ^ p) K (homeP p k) k + 1 = L at *
  generalize hB : bf k = B at *
  generalize hV : vf k = V at *
  clear he h hT hB hV
  go_enter Tryd.func51, Tryd.ntmps51
  go_wp2_with (first | (go_at_call 69; refine hm.mono ?_; rintro e w' ⟨rfl, rfl⟩) | (go_at_call 70; refine hf.mono ?_; rintro e w' ⟨rfl, rfl⟩))
  go_ret3
  exact ⟨rfl, hG, hK⟩

/-- A key comes, and is to be stored in its slot. -/
theorem come_put (b s e0 p : Nat) (K : List (Option Int)) (O : List Int) (bf : Int → Nat) (vf : Int → Value) (k : Int) (v : Int) (x : Nat) (w : World) (h : Good w b s e0 p K O bf vf) (hk : k ∉ O) (hx : x < K.length) (W : World) (hW : Like W w) :
    Calls Tryd.prog 72 #[.pointer (some ⟨b, 0, none⟩), .int .u64 k, .int .i64 v] W fun e w' => e = .returned (.pointer (some ⟨w.heap.size, 0, none⟩)) ∧
      w'.cell? ⟨b, 0, none⟩ = some (.slice (some ⟨s, 0, none⟩) K.length K.length) ∧ (∃ u, w'.cell? ⟨s, x, none⟩ = some u) ∧ w'.frozen? ⟨s, x, none⟩ = false ∧
      Hid (TabAt kinds w' b s e0 K (O ++ [k]) (upd bf k w.heap.size) (upd vf k (.int .i64 v)) ∧ Keeps (Own b s e0 O bf) w w') := by
  have hO := h.len
  refine (come_at b s e0 K O bf vf k v W (hW.tab h.tab) (by omega)).mono ?_
  rintro e w' ⟨rfl, hl⟩
  have hT := hl.tab ((hW.tab h.tab).come hk (fun y e => hk ((h.inv.mem k).2 ⟨y, e⟩)) (.int .i64 v))
  rw [hW.heap] at hT ⊢
  refine ⟨rfl, hT.c0, ⟨_, hT.cs x hx⟩, hT.fs x, hT, ?_⟩
  have hk := hl.keeps (comeW_keeps kinds W b s e0 O bf O.length k (.int .i64 v) (O.length + 1 : Nat))
  exact ⟨hk.os.trans hW.os, hk.tape.trans hW.tape, hk.output.trans hW.output, by rw [← hW.heap]; exact hk.size, fun i hi hs => by rw [← hW.heap] at hi ⊢; exact hk.block i hi hs⟩

theorem put_good {w w' : World} {b s e0 p : Nat} {K : List (Option Int)} {O : List Int} {bf : Int → Nat} {vf : Int → Value} {k : Int} {v : Value} {x : Nat} (h : Good w b s e0 p K O bf vf) (hk : k ∉ O) (hl : 4 * (O.length + 1) ≤ 3 * 2 ^ p) (hmo : O.length < 17592186044416) (hx : slotN (2 ^ p) K (homeP p k) k = x)
    (hT : TabAt kinds w' b s e0 K (O ++ [k]) (upd bf k w.heap.size) (upd vf k v) ∧ Keeps (Own b s e0 O bf) w w') (W : World) (hW : Like W (w'.setCell ⟨s, x, none⟩ (.pointer (some ⟨w.heap.size, 0, none⟩)))) :
    Good W b s e0 p (K.set (slotN (2 ^ p) K (homeP p k) k) (some k)) (O ++ [k]) (upd bf k w.heap.size) (upd vf k v) ∧ Keeps (Own b s e0 O bf) w W := by
  rw [hx]
  have hs := hT.1.store x (some k)
  rw [show slotVal (upd bf k w.heap.size) (some k) = .pointer (some ⟨w.heap.size, 0, none⟩) from by simp only [slotVal, upd_same]] at hs
  have h8 : 8 ≤ 2 ^ p := Nat.pow_le_pow_right (n := 2) (by decide) h.p3
  refine ⟨⟨hW.tab hs, ?_, by simp; omega, h.p3, h.p40, by simp; omega⟩, hW.keeps (hT.2.setCell (p := ⟨s, x, none⟩) (.inr (.inr (.inl rfl))) _)⟩
  rw [← hx]
  exact h.inv.put hk (by omega)

set_option maxHeartbeats 400000 in
theorem put_out (b s e0 p : Nat) (K : List (Option Int)) (O : List Int) (bf : Int → Nat) (vf : Int → Value) (k : Int) (v : Int) (w : World) (h : Good w b s e0 p K O bf vf) (hw : Tz w) (hk : k ∉ O) (hl : 4 * (O.length + 1) ≤ 3 * 2 ^ p) (hmo : O.length < 17592186044416) :
    Calls Tryd.prog 51 #[.pointer (some ⟨b, 0, none⟩), .int .u64 k, .int .i64 v] w fun e w' => e = .returned (.tuple #[Value.int .i64 0, .bool false, .int .i64 0]) ∧
      Good w' b s e0 p (K.set (slotN (2 ^ p) K (homeP p k) k) (some k)) (O ++ [k]) (upd bf k w.heap.size) (upd vf k (.int .i64 v)) ∧ Keeps (Own b s e0 O bf) w w' := by
  have hm := h.made
  have hf := h.find hw k
  have c0 := h.tab.c0
  have c1 := h.tab.c1
  have hsl := h.slotlt k
  have hcs := h.tab.cs _ hsl
  have hb := h.len
  have hp := h.pow
  rw [h.inv.slot_out hk] at hcs
  simp only [slotVal] at hcs
  have hKl : Hid (K.length = 2 ^ p) := h.inv.len
  have hload : ¬ (4 * ((O.length : Int) + 1) > 3 * (K.length : Int)) := by rw [hKl.out]; omega
  have hKb : K.length ≤ 35184372088832 := by rw [hKl.out]; exact hp
  have hend := fun x hx w' hT W hW => put_good (v := .int .i64 v) (x := x) (w' := w') h hk hl hmo hx hT W hW
  have hcome := come_put b s e0 p K O bf vf k v (slotN (2 ^ p) K (homeP p k) k) w h hk hsl
  generalize hx : slotN (2 ^ p) K (homeP p k) k = x at *
  have HE := hend x rfl
  clear hend
  generalize K.set x (some k) = K' at *
  generalize lookN (2 ^ p) K (homeP p k) k + 1 = L at *
  generalize upd bf k w.heap.size = bf' at *
  generalize upd vf k (.int .i64 v) = vf' at *
  generalize O ++ [k] = O' at *
  generalize hN : w.heap.size = N at *
  clear h hk hl hx hN
  go_enter Tryd.func51, Tryd.ntmps51
  go_wp2_with (first | (go_at_call 69; refine hm.mono ?_; rintro e w' ⟨rfl, rfl⟩) | (go_at_call 70; refine hf.mono ?_; rintro e w' ⟨rfl, rfl⟩))
  go_quiet (fail)
  go_wp2_with fail
  go_region_with (go_at_call 72; refine (hcome _ (by exact ⟨rfl, rfl, rfl, rfl⟩)).mono ?_; rintro e w2 ⟨rfl, d0, ⟨u, d1⟩, d2, hT⟩)
  all_goals go_wp2_with fail
  all_goals go_ret3
  all_goals exact ⟨rfl, HE _ hT _ ⟨rfl, rfl, rfl, rfl⟩⟩
end Go.Proofs.YtmhinalgjfiliaaDoor.I
