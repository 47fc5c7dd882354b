
/- Walks of aims, placeName, named, targets (package asm); a builder of strings. No statement of the seat is proved here. -/
import Derived.Test.YtkkmkfldldglgaaGreatDoorAsO
import Derived.Shelf.Strings.BuilderK
import Derived.Lib.LaidTab
import Derived.Lib.ItoaNum
namespace Go.Proofs.YtkkmkfldldglgaaGreatDoor
open Go.RowKit Go.Shelf

/-- A builder, and what was written into it. -/
def Bld (w : World) (B b : Nat) (l : List UInt8) : Prop := Lib.IsBuilderF 86 5 B b (Lib.byteCells l) w ∧ B ≤ w.heap.size
theorem Bld.new (w : World) : Bld (w.alloc (.cells #[.pointer none, .slice none 0 0] 86)) w.heap.size w.heap.size [] :=
  ⟨.inl ⟨Nat.le_refl _, _, alloc_block _ _, World.ownsRowF_nil _ _ _ _, by simp [Value.ownBlock]⟩, by simp⟩
theorem rowF_keeps {w w' : World} {S : Nat → Prop} (k : Keeps S w w') {base size : Nat} {e : TypeId} {v : Value} {n : Nat} {xs : List Value} (hs : ∀ g, v.ownBlock = some g → ¬ S g) (h : w.ownsRowF base e size v n xs) : w'.ownsRowF base e size v n xs := by
  refine ⟨h.1, ?_⟩
  rcases h.2 with q | ⟨g, cap, cur, fz, q1, q2, q3, q4⟩
  · exact .inl q
  · exact .inr ⟨g, cap, cur, fz, q1, q2, (k.block g (lt_of_block q3) (hs g (by rw [q1]; rfl))).trans q3, q4⟩
theorem Bld.keeps {w w' : World} {B b : Nat} {l : List UInt8} (h : Bld w B b l) (k : Keeps (fun _ => False) w w') : Bld w' B b l := by
  obtain ⟨h1, h2⟩ := h
  refine ⟨?_, Nat.le_trans h2 k.size⟩
  rcases h1 with ⟨q1, v, q2, q3, q4⟩ | ⟨q1, v, q2, q3, q4⟩
  · exact .inl ⟨q1, v, (k.block b (lt_of_block q2) (fun f => f)).trans q2, rowF_keeps k (fun _ _ f => f) q3, q4⟩
  · exact .inr ⟨q1, v, (k.block b (lt_of_block q2) (fun f => f)).trans q2, rowF_keeps k (fun _ _ f => f) q3, q4⟩
theorem write_any (x : List UInt8) (l : List UInt8) (B b : Nat) (w : World) (h : Bld w B b l) (hb : l.length + x.length ≤ 140737488355328) :
    Calls Tryz.prog 43 #[.pointer (some ⟨b, 0, none⟩), .string ⟨x.toArray⟩] w fun e w' => (∃ n, e = .returned (.tuple #[.int .i64 n, .nilIface])) ∧ Bld w' B b (l ++ x) ∧ Below B w w' ∧ Lib.OthersKept 5 (some b) w w' := by
  have C := Any.Builder_WriteString_k { lays156 with } bx156 B b (Lib.byteCells l) ⟨x.toArray⟩ w h.1 (by rw [Lib.byteCells_length, size_of]; exact hb) h.2
  refine C.mono fun e w' ⟨h1, h2, h3, h4⟩ => ⟨⟨_, h1⟩, ⟨.inr ?_, Nat.le_trans h.2 h3.size⟩, h3, h4⟩
  have e1 : Lib.byteCells l ++ Lib.strCells ⟨x.toArray⟩ = Lib.byteCells (l ++ x) := by simp [Lib.byteCells, Lib.strCells]
  rw [e1] at h2
  exact h2
theorem bstring_any (l : List UInt8) (B b : Nat) (w : World) (h : Bld w B b l) :
    Calls Tryz.prog 41 #[.pointer (some ⟨b, 0, none⟩)] w fun e w' => e = .returned (.string ⟨l.toArray⟩) ∧ Below B w w' :=
  (Any.Builder_String_any_k { lays156 with } bx156 B b l w h.1 h.2).mono fun _ _ ⟨h1, _, h3, _⟩ => ⟨h1, h3⟩

/-- Has an instruction a target, and that among so many places and one? -/
def aimB (i : I5) (n : Nat) : Bool := decide (1 ≤ i.op ∧ i.op ≤ 17) && tgtB i.op && decide (i.n ≤ n)
set_option maxRecDepth 100000 in
set_option maxHeartbeats 2000000 in
theorem aims_any (i : I5) (n : Nat) (hn : n ≤ 1152921504606846976) (w : World) : Calls Tryz.prog 45 #[.agg i.cells, .int .i64 (n : Int)] w fun e w' => e = .returned (.bool (aimB i n)) ∧ Keeps (fun _ => False) w w' := by
  obtain ⟨op, a, b, c, N⟩ := i
  have k0 := (Keeps.refl (fun _ => False) w).alloc (.cells #[.int .i64 op, .int .i64 a, .int .i64 b, .int .i64 c, .int .u64 N] 37)
  have bb := alloc_block w (.cells #[.int .i64 op, .int .i64 a, .int .i64 b, .int .i64 c, .int .u64 N] 37)
  by_cases ho : 1 ≤ op ∧ op ≤ 17
  · have I := info_yes op ho.1 ho.2
    have hA : aimB ⟨op, a, b, c, N⟩ n = (tgtB op && decide (N ≤ n)) := by simp [aimB, ho]
    rw [hA]
    clear hA ho
    generalize ((regsN op : Nat) : Int) = r at *
    generalize numB op = nb at *
    generalize tgtB op = tb at *
    generalize outB op = ob at *
    generalize insB op = ib at *
    go_enter Tryz.func45, Tryz.ntmps45
    go_wp2_with fail
    refine (I _).mono ?_
    rintro e w1 ⟨rfl, k1⟩
    have hb1 := (k1.block _ (lt_of_block bb) (fun f => f)).trans bb
    have hlt := lt_of_block hb1
    have c4 : (w1.alloc (.cells #[.int .i64 r, .bool nb, .bool tb, .bool ob, .bool ib] 63)).cell? ⟨w.heap.size, 4, none⟩ = some (.int .u64 N) := by rw [World.cell?_alloc_old _ _ _ (Nat.ne_of_lt hlt), cell_of_block hb1]; rfl
    have kk := (k0.trans k1).alloc (.cells #[.int .i64 r, .bool nb, .bool tb, .bool ob, .bool ib] 63)
    clear I k1 hb1 bb k0
    cases tb
    · go_wp2_with fail
      go_ret
      exact ⟨by simp, kk⟩
    · by_cases hN : N ≤ n
      · go_wp2_with fail
        go_ret
        exact ⟨by simp [hN], kk⟩
      · go_wp2_with fail
        go_ret
        exact ⟨by simp, kk⟩
  · have I := info_no op (by omega)
    have hA : aimB ⟨op, a, b, c, N⟩ n = false := by unfold aimB; rw [decide_eq_false ho]; rfl
    rw [hA]
    go_enter Tryz.func45, Tryz.ntmps45
    go_wp2_with fail
    refine (I _).mono ?_
    rintro e w1 ⟨rfl, k1⟩
    have kk := (k0.trans k1).alloc (.cells #[.int .i64 0, .bool false, .bool false, .bool false, .bool false] 63)
    clear I k1 bb k0
    go_wp2_with fail
    go_ret
    exact ⟨rfl, kk⟩

/-- What the calls read of the program's variables, the powers of ten among it. -/
structure Gp (w : World) : Prop where
  gl : Gl w
  tab : Lib.TabIs Tryz.prog w "internal/strconv.uint64pow10" .u64 Lib.pow10Tab
theorem gPow : Tryz.prog.globalNamed "internal/strconv.uint64pow10" = some 2 := by kernel_rfl
theorem tab_keeps {w w' : World} (h : Lib.TabIs Tryz.prog w "internal/strconv.uint64pow10" .u64 Lib.pow10Tab) (k : Keeps (fun _ => False) w w') : Lib.TabIs Tryz.prog w' "internal/strconv.uint64pow10" .u64 Lib.pow10Tab := by
  have hc := h.cell gPow 0 (by rw [Lib.pow10Tab_length]; decide)
  have hb := k.block _ (World.block_lt_of_cell? _ _ hc) (fun f => f)
  unfold Lib.TabIs World.var? at *
  rw [gPow] at *
  simp only [Option.bind_some] at *
  simp only [hb]
  exact h
theorem Gp.keeps {w w' : World} (h : Gp w) (k : Keeps (fun _ => False) w w') : Gp w' := ⟨h.gl.keeps k, tab_keeps h.tab k⟩
theorem itoa_any (n : Nat) (hn : n ≤ 9223372036854775807) (w : World) (hw : Gp w) : Calls Tryz.prog 71 #[.int .i64 (n : Int)] w fun e w' => e = .returned (.string ⟨(Lib.decDigits n).toArray⟩) ∧ Keeps (fun _ => False) w w' := by
  refine (Any.strconv_Itoa lays171 (n : Int) (by omega) (by omega) w hw.tab).mono fun e w' ⟨h1, k, os, h2⟩ => ⟨?_, ?_⟩
  · have e1 : Lib.itoa (n : Int) = Lib.decDigits n := by simp [Lib.itoa]
    rw [h1, e1]
  · rw [h2]
    refine ⟨rfl, rfl, rfl, ?_, fun q hq _ => ?_⟩
    · simp [Go.Sort.grow, World.drewN]
    · simp only [Go.Sort.grow, World.drewN]
      exact Array.getElem?_append_left hq
def placeL (k : Nat) : List UInt8 := 112 :: Lib.decDigits k
theorem placeName_any (n : Nat) (hn : n ≤ 9223372036854775807) (w : World) (hw : Gp w) : Calls Tryz.prog 44 #[.int .i64 (n : Int)] w fun e w' => e = .returned (.string ⟨(placeL n).toArray⟩) ∧ Keeps (fun _ => False) w w' := by
  have IT := itoa_any n hn w hw
  have h20 : (Lib.decDigits n).length ≤ 20 := by rw [Lib.decDigits_length]; exact Lib.nDigits_le20 _ (by omega)
  have hq : ¬ 9223372036854775807 < 1 + (Lib.decDigits n).length := by omega
  go_enter Tryz.func44, Tryz.ntmps44
  go_wp2_with fail
  refine IT.mono ?_
  rintro e w1 ⟨rfl, k1⟩
  go_wp2_with fail
  go_ret
  exact ⟨rfl, k1⟩

/-- Behind the last blank. -/
def cutAt (l : List UInt8) : Nat := (Lib.lastIndexByte ⟨l.toArray⟩ 32 + 1).toNat
theorem cutAt_spec (l : List UInt8) : Lib.lastIndexByte ⟨l.toArray⟩ 32 + 1 = (cutAt l : Int) ∧ cutAt l ≤ l.length := by
  unfold cutAt
  rcases Lib.lastIndexByte_spec ⟨l.toArray⟩ 32 with ⟨h, _⟩ | ⟨i, hi, h, _⟩
  · rw [h]; simp
  · rw [h]
    rw [size_of] at hi
    simp only [Int.toNat_natCast_add_one]
    omega
def namedL (l : List UInt8) : List UInt8 := l.take (cutAt l) ++ 112 :: l.drop (cutAt l)
set_option maxRecDepth 100000 in
theorem named_line (l : List UInt8) (hl : l.length ≤ 1048576) (w : World) : Calls Tryz.prog 46 #[.string ⟨l.toArray⟩] w fun e w' => e = .returned (.string ⟨(namedL l).toArray⟩) ∧ Keeps (fun _ => False) w w' := by
  have LI := Any.strings_LastIndexByte lays149 ⟨l.toArray⟩ 32 (by rw [size_of]; omega) w
  obtain ⟨h1, h2⟩ := cutAt_spec l
  have e1 := extract_take l (cutAt l)
  have e2 := extract_drop l (cutAt l)
  have hsz := size_of l
  have hn : namedL l = l.take (cutAt l) ++ [112] ++ l.drop (cutAt l) := by simp [namedL]
  rw [hn]
  generalize cutAt l = k at *
  have hL : Lib.lastIndexByte ⟨l.toArray⟩ 32 = (k : Int) - 1 := by omega
  rw [hL] at LI
  have hki : (k : Int) ≤ l.length := by omega
  have hk0 : (0 : Int) ≤ k := by omega
  have q1 : ¬ 9223372036854775807 < (l.take k).length + 1 := by rw [List.length_take]; omega
  have q2 : ¬ 9223372036854775807 < (l.take k ++ [112]).length + (l.drop k).length := by simp; omega
  have a1 := str_app (l.take k) [112]
  have a2 := str_app (l.take k ++ [112]) (l.drop k)
  clear h1 hn hL
  go_enter Tryz.func46, Tryz.ntmps46
  go_wp2_with fail
  refine LI.mono ?_
  rintro e w1 ⟨rfl, rfl⟩
  go_wp2_with fail
  go_quiet (fail)
  go_wp2_with fail
  go_ret
  exact ⟨by simp, (Keeps.refl _ _).drewN _⟩
end Go.Proofs.YtkkmkfldldglgaaGreatDoor
