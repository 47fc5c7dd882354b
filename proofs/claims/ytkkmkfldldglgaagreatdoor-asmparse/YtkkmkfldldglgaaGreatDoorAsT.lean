
/- Walk of List (package asm). No statement of the seat is proved here. -/
import Derived.Test.YtkkmkfldldglgaaGreatDoorAsS
namespace Go.Proofs.YtkkmkfldldglgaaGreatDoor
open Go.RowKit Go.Shelf

/-- An instruction's line in a list. -/
def pieceL (L : List I5) (k : Nat) (i : I5) : List UInt8 := (if markB L L.length k then placeL k ++ [58, 32] else []) ++ ((if aimB i L.length then namedL (textL i) else textL i) ++ [10])
def listK (L : List I5) : Nat → List UInt8
  | 0 => []
  | k + 1 => listK L k ++ pieceL L k ((L[k]?).getD ⟨0, 0, 0, 0, 0⟩)
def listL (L : List I5) : List UInt8 := listK L L.length ++ (if markB L L.length L.length then placeL L.length ++ [58, 10] else [])
theorem placeL_len (k : Nat) (hk : k < 18446744073709551616) : (placeL k).length ≤ 21 := by
  have : (Lib.decDigits k).length ≤ 20 := by rw [Lib.decDigits_length]; exact Lib.nDigits_le20 _ hk
  simp [placeL]; omega
theorem namedL_len (l : List UInt8) : (namedL l).length = l.length + 1 := by
  have := (cutAt_spec l).2
  simp [namedL]; omega
/-- The builder and the marks while a program is listed. -/
structure LsI (w : World) (b g bi : Nat) (M I : Array Value) (X : World) (l : List UInt8) : Prop where
  bld : Bld X w.heap.size b l
  mks : X.heap[g]? = some (.cells M 4 (0, 0))
  ins : X.heap[bi]? = some (.cells I 37 (0, 0))
  kw : Keeps (fun _ => False) w X
  gb : g ≠ b
  ib : bi ≠ b
theorem LsI.keeps {w : World} {b g bi : Nat} {M I : Array Value} {X X' : World} {l : List UInt8} (h : LsI w b g bi M I X l) (k : Keeps (fun _ => False) X X') : LsI w b g bi M I X' l :=
  ⟨h.bld.keeps k, (k.block _ (lt_of_block h.mks) (fun f => f)).trans h.mks, (k.block _ (lt_of_block h.ins) (fun f => f)).trans h.ins, h.kw.trans k, h.gb, h.ib⟩
theorem keeps_upon {w X X' : World} (k : Keeps (fun _ => False) w X) (h : Below w.heap.size X X') : Keeps (fun _ => False) w X' :=
  ⟨h.os.trans k.os, h.tape.trans k.tape, h.output.trans k.output, Nat.le_trans k.size h.size, fun q hq hs => (h.block q hq).trans (k.block q hq hs)⟩
theorem LsI.write {w : World} {b g bi : Nat} {M I : Array Value} {X : World} {l : List UInt8} (h : LsI w b g bi M I X l) (x : List UInt8) (hb : l.length + x.length ≤ 140737488355328) :
    Calls Tryz.prog 43 #[.pointer (some ⟨b, 0, none⟩), .string ⟨x.toArray⟩] X fun e X' => (∃ n, e = .returned (.tuple #[.int .i64 n, .nilIface])) ∧ LsI w b g bi M I X' (l ++ x) := by
  refine (write_any x l _ b X h.bld hb).mono fun e X' ⟨h1, h2, h3, h4⟩ => ⟨h1, h2, ?_, ?_, keeps_upon h.kw h3, h.gb, h.ib⟩
  · exact h4 g _ h.mks (fun e => h.gb (Option.some.inj e)) (fun c fz e => by cases e)
  · exact h4 bi _ h.ins (fun e => h.ib (Option.some.inj e)) (fun c fz e => by cases e)

/-- What List answers. -/
def LsPost (L : List I5) (e : Ending) : Prop := (L.all formedB = true → e = .returned (.tuple #[.string ⟨(listL L).toArray⟩, .int .i64 0])) ∧ (L.all formedB = false → e = .returned (.tuple #[.string ⟨#[]⟩, .int .i64 180]))

set_option maxRecDepth 100000 in
set_option maxHeartbeats 8000000 in
theorem list_any (v : Value) (L : List I5) (hL : L.length ≤ 65536) (w : World) (hw : Gp w) (h : InsAt w v L) : Calls Tryz.prog 17 #[v] w fun e w' => LsPost L e ∧ Keeps (fun _ => False) w w' := by
  have HI : Hid (∀ X, Keeps (fun _ => False) w X → InsAt X v L) := fun X k => h.keeps k
  have hLi : (L.length : Int) ≤ 65536 := by omega
  have k0 := (Keeps.refl (fun _ => False) w).alloc (.cells #[.pointer none, .slice none 0 0] 86)
  have TG := targets_any v L (by omega) _ (h.keeps k0)
  have B0 := Bld.new w
  obtain ⟨⟨a0, c0, rfl, _⟩, hwf, _⟩ := h
  have HW : Hid (∀ i ∈ L, i.wf) := hwf
  have PN := fun n hn X (hX : Keeps (fun _ => False) w X) => placeName_any n hn X (hw.keeps hX)
  have TXY := fun i hf h0 h1 X (hX : Keeps (fun _ => False) w X) => text_yes i hf h0 h1 X (hw.keeps hX).gl.nms
  have TXN := fun i hf (X : World) => text_no i hf X
  have AM := fun i => aims_any i L.length (by omega)
  obtain ⟨b, hb⟩ : ∃ b, b = w.heap.size := ⟨_, rfl⟩
  have HB : Hid (b = w.heap.size) := hb
  go_enter Tryz.func17, Tryz.ntmps17
  go_wp2_with fail
  refine TG.mono ?_
  rintro e w1 ⟨g, rfl, hg0, hg1, kg⟩
  rw [← hb]
  have hgb : g ≠ b := by rw [World.size_alloc] at hg0; omega
  have S0 : Hid (Bld w1 w.heap.size b [] ∧ w1.heap[g]? = some (.cells (boolsV (markB L L.length) (L.length + 1)) 4 (0, 0)) ∧ Keeps (fun _ => False) w w1) := ⟨by rw [hb]; exact B0.keeps kg, hg1, k0.trans kg⟩
  clear TG B0 k0 kg hg0 hg1 hwf hb
  go_wp2_with fail
  go_loopw [14] (fun u wr => ∃ k : Nat, u = .int .i64 k ∧ k ≤ L.length ∧ Hid ((L.take k).all formedB = true ∧ (listK L k).length ≤ 128 * k ∧ Bld wr w.heap.size b (listK L k) ∧ wr.heap[g]? = some (.cells (boolsV (markB L L.length) (L.length + 1)) 4 (0, 0)) ∧ Keeps (fun _ => False) w wr)) (fun u _ => L.length - (intOf u).toNat)
  case atStart => exact ⟨0, rfl, Nat.zero_le _, ⟨by simp, by simp [listK], S0.out⟩⟩
  case round =>
    obtain ⟨k, rfl, hk, hP⟩ := hrel
    clear S0
    by_cases hlt : k < L.length
    · obtain ⟨ga, off, cap, hv, x0, x1, x2, x3, x4⟩ := (HI.out wr hP.out.2.2.2.2).at k hlt
      simp only [Value.slice.injEq] at hv
      obtain ⟨rfl, -, rfl⟩ := hv
      have hki : (k : Int) < L.length := by omega
      have htk : L.take (k + 1) = L.take k ++ [L[k]] := List.take_succ_eq_append_getElem hlt
      have hw5 := HW.out (L[k]) (List.getElem_mem hlt)
      have hpc : Hid (listK L (k + 1) = listK L k ++ pieceL L k (L[k])) := by
        unfold Hid
        rw [listK, List.getElem?_eq_getElem hlt]; rfl
      have hmem : Hid (formedB (L[k]) = false → L.all formedB = false) := fun hf => by
        rw [List.all_eq_false]
        exact ⟨L[k], List.getElem_mem hlt, by rw [hf]; simp⟩
      have AK := AM (L[k])
      generalize L[k]'hlt = i at *
      have ka := (Keeps.refl (fun _ => False) wr).alloc (.cells i.cells 37)
      have hbi := alloc_block wr (.cells i.cells 37)
      obtain ⟨bi, hbie⟩ : ∃ bi, bi = wr.heap.size := ⟨_, rfl⟩
      have HBI : Hid (bi = wr.heap.size) := hbie
      have HS : Hid (LsI w b g bi (boolsV (markB L L.length) (L.length + 1)) i.cells (wr.alloc (.cells i.cells 37)) (listK L k)) :=
        ⟨hP.out.2.2.1.keeps ka, (ka.block _ (lt_of_block hP.out.2.2.2.1) (fun f => f)).trans hP.out.2.2.2.1, by rw [hbie]; exact hbi, hP.out.2.2.2.2.trans ka, hgb, by
          have : b < wr.heap.size := by
            rcases hP.out.2.2.1.1 with q | q
            · exact q.lt
            · exact q.lt
          omega⟩
      have hall : Hid (formedB i = true → (L.take (k + 1)).all formedB = true) := fun hf => by rw [htk, List.all_append, hP.out.1]; simp [hf]
      have hln := hP.out.2.1
      have hn0 := hw5.2.2.2.2.1
      have hn1 := hw5.2.2.2.2.2
      cases hform : formedB i
      · have hF := hmem.out hform
        have TX := TXN i hform
        have kk := hP.out.2.2.2.2.trans ka
        obtain ⟨op, a, bb, c, N⟩ := i
        dsimp only at x0 x1 x2 x3 x4
        clear hP HS hall hpc hmem hbi ka htk TXY TXN AM AK PN hbie
        go_wp2_with fail
        refine (TX _).mono ?_
        rintro e X ⟨rfl, kX⟩
        have kkX := kk.trans kX
        clear TX
        go_wp2_with fail
        go_ret2
        exact ⟨⟨fun hq => (by rw [hF] at hq; cases hq), fun _ => rfl⟩, kkX⟩
      · have hal := hall.out hform
        have htl := text_len hform hn0 hn1
        have TX := TXY i hform hn0 hn1 _ HS.out.kw
        have hmkc : ∀ X l, LsI w b g bi (boolsV (markB L L.length) (L.length + 1)) i.cells X l → X.cell? ⟨g, k, none⟩ = some (.bool (markB L L.length k)) := fun X l hX => (cell_of_block hX.mks k).trans (boolsV_get _ (by omega))
        have hpl := placeL_len k (by omega)
        have hnl := namedL_len (textL i)
        have hpiece : Hid (pieceL L k i = (if markB L L.length k then placeL k ++ [58, 32] else []) ++ ((if aimB i L.length then namedL (textL i) else textL i) ++ [10])) := rfl
        have NL := named_line (textL i) (by omega)
        have HWR : Hid (∀ (x : List UInt8) X l, LsI w b g bi (boolsV (markB L L.length) (L.length + 1)) i.cells X l → l.length + x.length ≤ 140737488355328 → Calls Tryz.prog 43 #[.pointer (some ⟨b, 0, none⟩), .string ⟨x.toArray⟩] X fun e X' => (∃ n, e = .returned (.tuple #[.int .i64 n, .nilIface])) ∧ LsI w b g bi (boolsV (markB L L.length) (L.length + 1)) i.cells X' (l ++ x)) := fun x X l hX hb => hX.write x hb
        have HMK : Hid (∀ X l, LsI w b g bi (boolsV (markB L L.length) (L.length + 1)) i.cells X l → X.cell? ⟨g, k, none⟩ = some (.bool (markB L L.length k))) := hmkc
        have HIN : Hid (∀ X l, LsI w b g bi (boolsV (markB L L.length) (L.length + 1)) i.cells X l → X.cell? ⟨bi, 0, none⟩ = some (.int .i64 i.op) ∧ X.cell? ⟨bi, 1, none⟩ = some (.int .i64 i.a) ∧ X.cell? ⟨bi, 2, none⟩ = some (.int .i64 i.b) ∧ X.cell? ⟨bi, 3, none⟩ = some (.int .i64 i.c) ∧ X.cell? ⟨bi, 4, none⟩ = some (.int .u64 i.n)) := fun X l hX => ⟨cell_of_block hX.ins 0, cell_of_block hX.ins 1, cell_of_block hX.ins 2, cell_of_block hX.ins 3, cell_of_block hX.ins 4⟩
        have HKP : Hid (∀ X l, LsI w b g bi (boolsV (markB L L.length) (L.length + 1)) i.cells X l → Bld X w.heap.size b l ∧ X.heap[g]? = some (.cells (boolsV (markB L L.length) (L.length + 1)) 4 (0, 0)) ∧ Keeps (fun _ => False) w X) := fun X l hX => ⟨hX.bld, hX.mks, hX.kw⟩
        have HKE : Hid (∀ X X' l, LsI w b g bi (boolsV (markB L L.length) (L.length + 1)) i.cells X l → Keeps (fun _ => False) X X' → LsI w b g bi (boolsV (markB L L.length) (L.length + 1)) i.cells X' l) := fun X X' l hX kX => hX.keeps kX
        have HPN := PN k (by omega)
        have tm1 : ¬ 9223372036854775807 < (placeL k).length + 2 := by omega
        have tm2 : ¬ 9223372036854775807 < (textL i).length + 1 := by omega
        have tm3 : ¬ 9223372036854775807 < (namedL (textL i)).length + 1 := by omega
        clear hmkc hP hall hmem hbi ka htk TXY TXN AM PN hbie
        generalize textL i = tx at *
        obtain ⟨op, a, bb, c, N⟩ := i
        dsimp only at x0 x1 x2 x3 x4
        have hLc : Hid (listK L (k + 1) = listK L k ++ pieceL L k ⟨op, a, bb, c, N⟩) := hpc
        clear hpc
        generalize listK L k = lk at *
        generalize placeL k = pk at *
        generalize namedL tx = nx at *
        have HWZ : Hid (∀ (x y : List UInt8) X l, LsI w b g bi (boolsV (markB L L.length) (L.length + 1)) #[.int .i64 op, .int .i64 a, .int .i64 bb, .int .i64 c, .int .u64 N] X l → l.length + (x ++ y).length ≤ 140737488355328 → Calls Tryz.prog 43 #[.pointer (some ⟨b, 0, none⟩), .string (⟨x.toArray⟩ ++ ⟨y.toArray⟩)] X fun e X' => (∃ n, e = .returned (.tuple #[.int .i64 n, .nilIface])) ∧ LsI w b g bi (boolsV (markB L L.length) (L.length + 1)) #[.int .i64 op, .int .i64 a, .int .i64 bb, .int .i64 c, .int .u64 N] X' (l ++ (x ++ y))) := fun x y X l hX hb => by
          rw [str_app]
          exact HWR.out (x ++ y) X l hX hb
        have HFI : Hid (∀ X l, LsI w b g bi (boolsV (markB L L.length) (L.length + 1)) #[.int .i64 op, .int .i64 a, .int .i64 bb, .int .i64 c, .int .u64 N] X l → l = listK L (k + 1) → l.length ≤ 128 * (k + 1) → Hid ((L.take (k + 1)).all formedB = true ∧ (listK L (k + 1)).length ≤ 128 * (k + 1) ∧ Bld X w.heap.size b (listK L (k + 1)) ∧ X.heap[g]? = some (.cells (boolsV (markB L L.length) (L.length + 1)) 4 (0, 0)) ∧ Keeps (fun _ => False) w X)) := fun X l hX he hl => by
          subst he
          exact ⟨hal, hl, HKP.out X _ hX⟩
        clear HWR HKP hal
        go_wp2_with fail
        refine TX.mono ?_
        rintro e X1 ⟨rfl, kX1⟩
        rw [← HBI.out]
        have I1 := HKE.out _ X1 _ HS.out kX1
        have m1 := HMK.out _ _ I1
        clear TX
        cases hmark : markB L L.length k
        · rw [hmark] at m1 hpiece
          obtain ⟨j0, j1, j2, j3, j4⟩ := HIN.out _ _ I1
          have HI1 : Hid (LsI w b g bi (boolsV (markB L L.length) (L.length + 1)) #[.int .i64 op, .int .i64 a, .int .i64 bb, .int .i64 c, .int .u64 N] X1 lk) := I1
          clear I1
          go_wp2_with fail
          refine (AK _).mono ?_
          rintro e X2 ⟨rfl, kX2⟩
          have I2 := HKE.out _ X2 _ HI1.out kX2
          clear AK HI1 j0 j1 j2 j3 j4 m1
          cases haim : aimB ⟨op, a, bb, c, N⟩ L.length
          · rw [haim] at hpiece
            go_wp2_with fail
            refine (HWZ.out tx [10] _ _ I2 ?_).mono ?_
            · simp only [List.length_append, List.length_cons, List.length_nil]; omega
            rintro e XF ⟨⟨n, rfl⟩, IF⟩
            have FI := HFI.out XF _ IF (by rw [hLc.out, hpiece.out]; simp) (by simp only [List.length_append, List.length_cons, List.length_nil]; omega)
            clear IF HWZ HFI
            go_wp2_with fail
            go_roundw
            · exact ⟨k + 1, by simp, by omega, FI⟩
            · simp [intOf]; omega
          · rw [haim] at hpiece
            go_wp2_with fail
            refine (NL _).mono ?_
            rintro e X3 ⟨rfl, kX3⟩
            have I3 := HKE.out _ X3 _ I2 kX3
            clear I2
            go_wp2_with fail
            refine (HWZ.out nx [10] _ _ I3 ?_).mono ?_
            · simp only [List.length_append, List.length_cons, List.length_nil]; omega
            rintro e XF ⟨⟨n, rfl⟩, IF⟩
            have FI := HFI.out XF _ IF (by rw [hLc.out, hpiece.out]; simp) (by simp only [List.length_append, List.length_cons, List.length_nil]; omega)
            clear IF HWZ HFI
            go_wp2_with fail
            go_roundw
            · exact ⟨k + 1, by simp, by omega, FI⟩
            · simp [intOf]; omega
        · rw [hmark] at m1 hpiece
          go_wp2_with fail
          refine (HPN _ ?_).mono ?_
          · exact I1.kw
          rintro e X1a ⟨rfl, kX1a⟩
          have I1a := HKE.out _ X1a _ I1 kX1a
          clear I1
          go_wp2_with fail
          refine (HWZ.out pk [58, 32] _ _ I1a ?_).mono ?_
          · simp only [List.length_append, List.length_cons, List.length_nil]; omega
          rintro e X1b ⟨⟨n1, rfl⟩, I1b⟩
          clear I1a
          obtain ⟨j0, j1, j2, j3, j4⟩ := HIN.out _ _ I1b
          have HI1 : Hid (LsI w b g bi (boolsV (markB L L.length) (L.length + 1)) #[.int .i64 op, .int .i64 a, .int .i64 bb, .int .i64 c, .int .u64 N] X1b (lk ++ (pk ++ [58, 32]))) := I1b
          clear I1b
          go_wp2_with fail
          refine (AK _).mono ?_
          rintro e X2 ⟨rfl, kX2⟩
          have I2 := HKE.out _ X2 _ HI1.out kX2
          clear AK HI1 j0 j1 j2 j3 j4 m1
          cases haim : aimB ⟨op, a, bb, c, N⟩ L.length
          · rw [haim] at hpiece
            go_wp2_with fail
            refine (HWZ.out tx [10] _ _ I2 ?_).mono ?_
            · simp only [List.length_append, List.length_cons, List.length_nil]; omega
            rintro e XF ⟨⟨n, rfl⟩, IF⟩
            have FI := HFI.out XF _ IF (by rw [hLc.out, hpiece.out]; simp) (by simp only [List.length_append, List.length_cons, List.length_nil]; omega)
            clear IF HWZ HFI
            go_wp2_with fail
            go_roundw
            · exact ⟨k + 1, by simp, by omega, FI⟩
            · simp [intOf]; omega
          · rw [haim] at hpiece
            go_wp2_with fail
            refine (NL _).mono ?_
            rintro e X3 ⟨rfl, kX3⟩
            have I3 := HKE.out _ X3 _ I2 kX3
            clear I2
            go_wp2_with fail
            refine (HWZ.out nx [10] _ _ I3 ?_).mono ?_
            · simp only [List.length_append, List.length_cons, List.length_nil]; omega
            rintro e XF ⟨⟨n, rfl⟩, IF⟩
            have FI := HFI.out XF _ IF (by rw [hLc.out, hpiece.out]; simp) (by simp only [List.length_append, List.length_cons, List.length_nil]; omega)
            clear IF HWZ HFI
            go_wp2_with fail
            go_roundw
            · exact ⟨k + 1, by simp, by omega, FI⟩
            · simp [intOf]; omega
    · obtain rfl : k = L.length := by omega
      have hP1 := hP.out.1
      rw [List.take_length] at hP1
      have hm := (cell_of_block hP.out.2.2.2.1 L.length).trans (boolsV_get (markB L L.length) (Nat.lt_succ_self _))
      have hpl := placeL_len L.length (by omega)
      have tm1 : ¬ 9223372036854775807 < (placeL L.length).length + 2 := by omega
      have hli : Hid (listL L = listK L L.length ++ (if markB L L.length L.length then placeL L.length ++ [58, 10] else [])) := rfl
      cases hmark : markB L L.length L.length
      · rw [hmark] at hm hli
        have BS := bstring_any _ _ _ _ hP.out.2.2.1
        have hkw := hP.out.2.2.2.2
        clear hP HI PN TXY TXN AM
        go_wp2_with fail
        refine BS.mono ?_
        rintro e X ⟨rfl, hX⟩
        have kk := keeps_upon hkw hX
        clear BS
        go_wp2_with fail
        go_ret2
        exact ⟨⟨fun _ => by rw [hli.out]; simp, fun hq => (by rw [hP1] at hq; cases hq)⟩, kk⟩
      · rw [hmark] at hm hli
        have hkw := hP.out.2.2.2.2
        have hbl := hP.out.2.2.1
        have hlen := hP.out.2.1
        have PK := PN L.length (by omega)
        have HWE : Hid (∀ X, Keeps (fun _ => False) wr X → Calls Tryz.prog 43 #[.pointer (some ⟨b, 0, none⟩), .string (⟨(placeL L.length).toArray⟩ ++ ⟨#[58, 10]⟩)] X fun e X' => (∃ n, e = .returned (.tuple #[.int .i64 n, .nilIface])) ∧ Bld X' w.heap.size b (listK L L.length ++ (placeL L.length ++ [58, 10])) ∧ Keeps (fun _ => False) w X') := fun X kX => by
          have := str_app (placeL L.length) [58, 10]
          rw [this]
          exact (write_any _ _ _ b X (hbl.keeps kX) (by simp only [List.length_append, List.length_cons, List.length_nil]; omega)).mono fun e X' ⟨h1, h2, h3, _⟩ => ⟨h1, h2, keeps_upon (hkw.trans kX) h3⟩
        clear hP HI PN TXY TXN AM
        go_wp2_with fail
        refine (PK _ ?_).mono ?_
        · exact hkw
        rintro e X ⟨rfl, hX⟩
        have WE := HWE.out X hX
        clear PK HWE
        go_wp2_with fail
        refine WE.mono ?_
        rintro e X' ⟨⟨n, rfl⟩, hb', kX'⟩
        have BS := bstring_any _ _ _ _ hb'
        clear WE
        go_wp2_with fail
        refine BS.mono ?_
        rintro e X'' ⟨rfl, hX''⟩
        have kk := keeps_upon kX' hX''
        clear BS
        go_wp2_with fail
        go_ret2
        exact ⟨⟨fun _ => by rw [hli.out]; simp, fun hq => (by rw [hP1] at hq; cases hq)⟩, kk⟩
end Go.Proofs.YtkkmkfldldglgaaGreatDoor
