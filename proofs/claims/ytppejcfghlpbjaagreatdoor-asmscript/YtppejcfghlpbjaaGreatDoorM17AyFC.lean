/-
  No statement of the seat is proved here. (Several texts in one: AyFC, AyFD, AyG.)
-/
import Derived.Test.YtppejcfghlpbjaaGreatDoorM16AyD

/- Walk of line (package asm, a script's lines), leaf by leaf. No statement of the seat is proved here. -/
namespace Go.Proofs.YtppejcfghlpbjaaGreatDoor
open Go.RowKit Go.Shelf

set_option maxRecDepth 100000 in
set_option maxHeartbeats 4000000 in
theorem li_picks1 (l s hd tl : List UInt8) (mo : Bool) (W : World) {B gx : Nat} {vf vp vk : Value} {ps : List Value} {x : Sc} (h : Sy W B gx 1 vf vp vk ps x) (CS : Calls Tryz.prog 43 #[.string ⟨l.toArray⟩, .string ⟨#[10]⟩] W fun e w' => e = .returned (.tuple #[.string ⟨s.toArray⟩, .bool true]) ∧ w' = W)
    (CU : Calls Tryz.prog 44 #[.string ⟨s.toArray⟩, .string ⟨#[32]⟩] W fun ex w' => ex = .returned (.tuple #[.string ⟨hd.toArray⟩, .string ⟨tl.toArray⟩, .bool mo]) ∧ Keeps (fun _ => False) W w') (h_thread : s ≠ [116, 104, 114, 101, 97, 100]) (h_first : hd ≠ [102, 105, 114, 115, 116]) (h_picks : hd = [112, 105, 99, 107, 115]) (ht : tl.length ≤ 200000) (HG : Hid (∀ X, Keeps (fun q => q = gx) W X → Gq X)) : Calls Tryz.prog 27 #[.pointer (some ⟨gx, 0, none⟩), .string ⟨l.toArray⟩] W fun e W' => PkPost tl B gx vf vp ps x e W' ∧ Keeps (SyOwn gx vp ps) W W' := by
  have d4 : W.cell? ⟨gx, 4, none⟩ = some (.int .i64 1) := by rw [cell_of_block h.box]; rfl
  have hs1 : Hid (∀ X, Keeps (fun _ => False) W X → Sy X B gx 1 vf vp vk ps x) := fun X k => h.keeps k
  have hbs66 : (ByteArray.toList ⟨s.toArray⟩ == [116, 104, 114, 101, 97, 100]) = false := by simpa using h_thread
  have hcs66 : (s == [116, 104, 114, 101, 97, 100]) = false := by simpa using h_thread
  have hbhd52 : (ByteArray.toList ⟨hd.toArray⟩ == [102, 105, 114, 115, 116]) = false := by simpa using h_first
  have hchd52 : (hd == [102, 105, 114, 115, 116]) = false := by simpa using h_first
  have hbhd52 : (ByteArray.toList ⟨hd.toArray⟩ == [112, 105, 99, 107, 115]) = true := by rw [h_picks]; simp
  have hchd52 : (hd == [112, 105, 99, 107, 115]) = true := by rw [h_picks]; simp
  clear h h_thread h_first h_picks
  go_enter Tryz.func27, Tryz.ntmps27
  go_wp2_with fail
  refine CS.mono ?_
  rintro e w' ⟨rfl, hw⟩
  replace hw := hw.symm
  subst hw
  clear CS
  go_wp2_with fail
  refine CU.mono ?_
  rintro e W1 ⟨rfl, k1⟩
  clear CU
  have b1 := (hs1.out W1 k1).box
  replace d4 : W1.cell? ⟨gx, 4, none⟩ = some (.int .i64 1) := by rw [cell_of_block b1]; rfl
  generalize hd.toArray = hdA at *
  generalize s.toArray = sA at *
  have hsx := (hs1.out W1 k1).setDue 4
  have f4 : W1.frozen? ⟨gx, 4, none⟩ = false := frozen_of_block b1 _
  have kd : Keeps (fun q => q = gx) W (W1.setCell ⟨gx, 4, none⟩ (.int .i64 4)) := Keeps.setCell (S := fun q => q = gx) (keeps_none k1) (.inr rfl) _
  have NS := nums32_any tl ht (W1.setCell ⟨gx, 4, none⟩ (.int .i64 4)) (HG.out _ kd)
  unfold NsPost32 at NS
  have HOK : Hid (∀ L W', allM m32 (pcs tl) = some L → (∃ vk', Sy W' B gx 4 vf vp vk' ps { x with picks := L }) → PkPost tl B gx vf vp ps x (.returned (.bool true)) W') := fun L W' q z => by unfold PkPost; rw [q]; exact ⟨rfl, z⟩
  have HNO : Hid (∀ W', allM m32 (pcs tl) = none → PkPost tl B gx vf vp ps x (.returned (.bool false)) W') := fun W' q => by unfold PkPost; rw [q]
  clear hs1 b1 HG k1
  replace hsx : Hid _ := hsx
  replace kd : Hid _ := kd
  go_wp2_with fail
  refine NS.mono ?_
  clear NS
  have SXD := hsx.out
  have KD := kd.out
  generalize W1.setCell ⟨gx, 4, none⟩ (.int .i64 4) = Y at *
  clear hsx kd d4 f4
  cases hn : allM m32 (pcs tl) with
  | none =>
    rintro e W2 ⟨rfl, k2⟩
    have b2 := (SXD.keeps k2).box
    have c3 : W2.cell? ⟨gx, 3, none⟩ = some vk := by rw [cell_of_block b2]; rfl
    have f3 : W2.frozen? ⟨gx, 3, none⟩ = false := frozen_of_block b2 _
    have KF : Hid (Keeps (SyOwn gx vp ps) W (W2.setCell ⟨gx, 3, none⟩ (.slice none 0 0))) := keeps_own (Keeps.setCell (S := fun q => q = gx) (KD.trans (keeps_none k2)) (.inr rfl) _)
    have HR : Hid (∀ W', _) := fun W' => HNO.out W' hn
    clear SXD KD k2 b2 hn HOK HNO
    go_wp2_with fail
    go_ret
    exact ⟨HR.out _, KF.out⟩
  | some L =>
    rintro e W2 ⟨⟨va, vc, rfl, hN⟩, k2⟩
    have b2 := (SXD.keeps k2).box
    have c3 : W2.cell? ⟨gx, 3, none⟩ = some vk := by rw [cell_of_block b2]; rfl
    have f3 : W2.frozen? ⟨gx, 3, none⟩ = false := frozen_of_block b2 _
    have FS : Hid (∃ vk', Sy (W2.setCell ⟨gx, 3, none⟩ (.slice va L.length vc)) B gx 4 vf vp vk' ps { x with picks := L }) := ⟨_, SXD.setPicks k2 hN⟩
    have KF : Hid (Keeps (SyOwn gx vp ps) W (W2.setCell ⟨gx, 3, none⟩ (.slice va L.length vc))) := keeps_own (Keeps.setCell (S := fun q => q = gx) (KD.trans (keeps_none k2)) (.inr rfl) _)
    have HR : Hid (PkPost tl B gx vf vp ps x (.returned (.bool true)) (W2.setCell ⟨gx, 3, none⟩ (.slice va L.length vc))) := HOK.out L _ hn FS.out
    clear SXD KD k2 b2 hN hn HOK HNO FS
    go_wp2_with fail
    go_ret
    exact ⟨HR.out, KF.out⟩
set_option maxRecDepth 100000 in
set_option maxHeartbeats 4000000 in
theorem li_picks2 (l s hd tl : List UInt8) (mo : Bool) (W : World) {B gx : Nat} {vf vp vk : Value} {ps : List Value} {x : Sc} (h : Sy W B gx 2 vf vp vk ps x) (CS : Calls Tryz.prog 43 #[.string ⟨l.toArray⟩, .string ⟨#[10]⟩] W fun e w' => e = .returned (.tuple #[.string ⟨s.toArray⟩, .bool true]) ∧ w' = W)
    (CU : Calls Tryz.prog 44 #[.string ⟨s.toArray⟩, .string ⟨#[32]⟩] W fun ex w' => ex = .returned (.tuple #[.string ⟨hd.toArray⟩, .string ⟨tl.toArray⟩, .bool mo]) ∧ Keeps (fun _ => False) W w') (h_thread : s ≠ [116, 104, 114, 101, 97, 100]) (h_first : hd ≠ [102, 105, 114, 115, 116]) (h_picks : hd = [112, 105, 99, 107, 115]) (ht : tl.length ≤ 200000) (HG : Hid (∀ X, Keeps (fun q => q = gx) W X → Gq X)) : Calls Tryz.prog 27 #[.pointer (some ⟨gx, 0, none⟩), .string ⟨l.toArray⟩] W fun e W' => PkPost tl B gx vf vp ps x e W' ∧ Keeps (SyOwn gx vp ps) W W' := by
  have d4 : W.cell? ⟨gx, 4, none⟩ = some (.int .i64 2) := by rw [cell_of_block h.box]; rfl
  have hs1 : Hid (∀ X, Keeps (fun _ => False) W X → Sy X B gx 2 vf vp vk ps x) := fun X k => h.keeps k
  have hbs66 : (ByteArray.toList ⟨s.toArray⟩ == [116, 104, 114, 101, 97, 100]) = false := by simpa using h_thread
  have hcs66 : (s == [116, 104, 114, 101, 97, 100]) = false := by simpa using h_thread
  have hbhd52 : (ByteArray.toList ⟨hd.toArray⟩ == [102, 105, 114, 115, 116]) = false := by simpa using h_first
  have hchd52 : (hd == [102, 105, 114, 115, 116]) = false := by simpa using h_first
  have hbhd52 : (ByteArray.toList ⟨hd.toArray⟩ == [112, 105, 99, 107, 115]) = true := by rw [h_picks]; simp
  have hchd52 : (hd == [112, 105, 99, 107, 115]) = true := by rw [h_picks]; simp
  clear h h_thread h_first h_picks
  go_enter Tryz.func27, Tryz.ntmps27
  go_wp2_with fail
  refine CS.mono ?_
  rintro e w' ⟨rfl, hw⟩
  replace hw := hw.symm
  subst hw
  clear CS
  go_wp2_with fail
  refine CU.mono ?_
  rintro e W1 ⟨rfl, k1⟩
  clear CU
  have b1 := (hs1.out W1 k1).box
  replace d4 : W1.cell? ⟨gx, 4, none⟩ = some (.int .i64 2) := by rw [cell_of_block b1]; rfl
  generalize hd.toArray = hdA at *
  generalize s.toArray = sA at *
  have hsx := (hs1.out W1 k1).setDue 4
  have f4 : W1.frozen? ⟨gx, 4, none⟩ = false := frozen_of_block b1 _
  have kd : Keeps (fun q => q = gx) W (W1.setCell ⟨gx, 4, none⟩ (.int .i64 4)) := Keeps.setCell (S := fun q => q = gx) (keeps_none k1) (.inr rfl) _
  have NS := nums32_any tl ht (W1.setCell ⟨gx, 4, none⟩ (.int .i64 4)) (HG.out _ kd)
  unfold NsPost32 at NS
  have HOK : Hid (∀ L W', allM m32 (pcs tl) = some L → (∃ vk', Sy W' B gx 4 vf vp vk' ps { x with picks := L }) → PkPost tl B gx vf vp ps x (.returned (.bool true)) W') := fun L W' q z => by unfold PkPost; rw [q]; exact ⟨rfl, z⟩
  have HNO : Hid (∀ W', allM m32 (pcs tl) = none → PkPost tl B gx vf vp ps x (.returned (.bool false)) W') := fun W' q => by unfold PkPost; rw [q]
  clear hs1 b1 HG k1
  replace hsx : Hid _ := hsx
  replace kd : Hid _ := kd
  go_wp2_with fail
  refine NS.mono ?_
  clear NS
  have SXD := hsx.out
  have KD := kd.out
  generalize W1.setCell ⟨gx, 4, none⟩ (.int .i64 4) = Y at *
  clear hsx kd d4 f4
  cases hn : allM m32 (pcs tl) with
  | none =>
    rintro e W2 ⟨rfl, k2⟩
    have b2 := (SXD.keeps k2).box
    have c3 : W2.cell? ⟨gx, 3, none⟩ = some vk := by rw [cell_of_block b2]; rfl
    have f3 : W2.frozen? ⟨gx, 3, none⟩ = false := frozen_of_block b2 _
    have KF : Hid (Keeps (SyOwn gx vp ps) W (W2.setCell ⟨gx, 3, none⟩ (.slice none 0 0))) := keeps_own (Keeps.setCell (S := fun q => q = gx) (KD.trans (keeps_none k2)) (.inr rfl) _)
    have HR : Hid (∀ W', _) := fun W' => HNO.out W' hn
    clear SXD KD k2 b2 hn HOK HNO
    go_wp2_with fail
    go_ret
    exact ⟨HR.out _, KF.out⟩
  | some L =>
    rintro e W2 ⟨⟨va, vc, rfl, hN⟩, k2⟩
    have b2 := (SXD.keeps k2).box
    have c3 : W2.cell? ⟨gx, 3, none⟩ = some vk := by rw [cell_of_block b2]; rfl
    have f3 : W2.frozen? ⟨gx, 3, none⟩ = false := frozen_of_block b2 _
    have FS : Hid (∃ vk', Sy (W2.setCell ⟨gx, 3, none⟩ (.slice va L.length vc)) B gx 4 vf vp vk' ps { x with picks := L }) := ⟨_, SXD.setPicks k2 hN⟩
    have KF : Hid (Keeps (SyOwn gx vp ps) W (W2.setCell ⟨gx, 3, none⟩ (.slice va L.length vc))) := keeps_own (Keeps.setCell (S := fun q => q = gx) (KD.trans (keeps_none k2)) (.inr rfl) _)
    have HR : Hid (PkPost tl B gx vf vp ps x (.returned (.bool true)) (W2.setCell ⟨gx, 3, none⟩ (.slice va L.length vc))) := HOK.out L _ hn FS.out
    clear SXD KD k2 b2 hN hn HOK HNO FS
    go_wp2_with fail
    go_ret
    exact ⟨HR.out, KF.out⟩
set_option maxRecDepth 100000 in
set_option maxHeartbeats 4000000 in
theorem li_picks3 (l s hd tl : List UInt8) (mo : Bool) (W : World) {B gx : Nat} {vf vp vk : Value} {ps : List Value} {x : Sc} (h : Sy W B gx 3 vf vp vk ps x) (CS : Calls Tryz.prog 43 #[.string ⟨l.toArray⟩, .string ⟨#[10]⟩] W fun e w' => e = .returned (.tuple #[.string ⟨s.toArray⟩, .bool true]) ∧ w' = W)
    (CU : Calls Tryz.prog 44 #[.string ⟨s.toArray⟩, .string ⟨#[32]⟩] W fun ex w' => ex = .returned (.tuple #[.string ⟨hd.toArray⟩, .string ⟨tl.toArray⟩, .bool mo]) ∧ Keeps (fun _ => False) W w') (h_thread : s ≠ [116, 104, 114, 101, 97, 100]) (h_first : hd ≠ [102, 105, 114, 115, 116]) (h_picks : hd = [112, 105, 99, 107, 115]) (ht : tl.length ≤ 200000) (HG : Hid (∀ X, Keeps (fun q => q = gx) W X → Gq X)) : Calls Tryz.prog 27 #[.pointer (some ⟨gx, 0, none⟩), .string ⟨l.toArray⟩] W fun e W' => PkPost tl B gx vf vp ps x e W' ∧ Keeps (SyOwn gx vp ps) W W' := by
  have d4 : W.cell? ⟨gx, 4, none⟩ = some (.int .i64 3) := by rw [cell_of_block h.box]; rfl
  have hs1 : Hid (∀ X, Keeps (fun _ => False) W X → Sy X B gx 3 vf vp vk ps x) := fun X k => h.keeps k
  have hbs66 : (ByteArray.toList ⟨s.toArray⟩ == [116, 104, 114, 101, 97, 100]) = false := by simpa using h_thread
  have hcs66 : (s == [116, 104, 114, 101, 97, 100]) = false := by simpa using h_thread
  have hbhd52 : (ByteArray.toList ⟨hd.toArray⟩ == [102, 105, 114, 115, 116]) = false := by simpa using h_first
  have hchd52 : (hd == [102, 105, 114, 115, 116]) = false := by simpa using h_first
  have hbhd52 : (ByteArray.toList ⟨hd.toArray⟩ == [112, 105, 99, 107, 115]) = true := by rw [h_picks]; simp
  have hchd52 : (hd == [112, 105, 99, 107, 115]) = true := by rw [h_picks]; simp
  clear h h_thread h_first h_picks
  go_enter Tryz.func27, Tryz.ntmps27
  go_wp2_with fail
  refine CS.mono ?_
  rintro e w' ⟨rfl, hw⟩
  replace hw := hw.symm
  subst hw
  clear CS
  go_wp2_with fail
  refine CU.mono ?_
  rintro e W1 ⟨rfl, k1⟩
  clear CU
  have b1 := (hs1.out W1 k1).box
  replace d4 : W1.cell? ⟨gx, 4, none⟩ = some (.int .i64 3) := by rw [cell_of_block b1]; rfl
  generalize hd.toArray = hdA at *
  generalize s.toArray = sA at *
  have hsx := (hs1.out W1 k1).setDue 4
  have f4 : W1.frozen? ⟨gx, 4, none⟩ = false := frozen_of_block b1 _
  have kd : Keeps (fun q => q = gx) W (W1.setCell ⟨gx, 4, none⟩ (.int .i64 4)) := Keeps.setCell (S := fun q => q = gx) (keeps_none k1) (.inr rfl) _
  have NS := nums32_any tl ht (W1.setCell ⟨gx, 4, none⟩ (.int .i64 4)) (HG.out _ kd)
  unfold NsPost32 at NS
  have HOK : Hid (∀ L W', allM m32 (pcs tl) = some L → (∃ vk', Sy W' B gx 4 vf vp vk' ps { x with picks := L }) → PkPost tl B gx vf vp ps x (.returned (.bool true)) W') := fun L W' q z => by unfold PkPost; rw [q]; exact ⟨rfl, z⟩
  have HNO : Hid (∀ W', allM m32 (pcs tl) = none → PkPost tl B gx vf vp ps x (.returned (.bool false)) W') := fun W' q => by unfold PkPost; rw [q]
  clear hs1 b1 HG k1
  replace hsx : Hid _ := hsx
  replace kd : Hid _ := kd
  go_wp2_with fail
  refine NS.mono ?_
  clear NS
  have SXD := hsx.out
  have KD := kd.out
  generalize W1.setCell ⟨gx, 4, none⟩ (.int .i64 4) = Y at *
  clear hsx kd d4 f4
  cases hn : allM m32 (pcs tl) with
  | none =>
    rintro e W2 ⟨rfl, k2⟩
    have b2 := (SXD.keeps k2).box
    have c3 : W2.cell? ⟨gx, 3, none⟩ = some vk := by rw [cell_of_block b2]; rfl
    have f3 : W2.frozen? ⟨gx, 3, none⟩ = false := frozen_of_block b2 _
    have KF : Hid (Keeps (SyOwn gx vp ps) W (W2.setCell ⟨gx, 3, none⟩ (.slice none 0 0))) := keeps_own (Keeps.setCell (S := fun q => q = gx) (KD.trans (keeps_none k2)) (.inr rfl) _)
    have HR : Hid (∀ W', _) := fun W' => HNO.out W' hn
    clear SXD KD k2 b2 hn HOK HNO
    go_wp2_with fail
    go_ret
    exact ⟨HR.out _, KF.out⟩
  | some L =>
    rintro e W2 ⟨⟨va, vc, rfl, hN⟩, k2⟩
    have b2 := (SXD.keeps k2).box
    have c3 : W2.cell? ⟨gx, 3, none⟩ = some vk := by rw [cell_of_block b2]; rfl
    have f3 : W2.frozen? ⟨gx, 3, none⟩ = false := frozen_of_block b2 _
    have FS : Hid (∃ vk', Sy (W2.setCell ⟨gx, 3, none⟩ (.slice va L.length vc)) B gx 4 vf vp vk' ps { x with picks := L }) := ⟨_, SXD.setPicks k2 hN⟩
    have KF : Hid (Keeps (SyOwn gx vp ps) W (W2.setCell ⟨gx, 3, none⟩ (.slice va L.length vc))) := keeps_own (Keeps.setCell (S := fun q => q = gx) (KD.trans (keeps_none k2)) (.inr rfl) _)
    have HR : Hid (PkPost tl B gx vf vp ps x (.returned (.bool true)) (W2.setCell ⟨gx, 3, none⟩ (.slice va L.length vc))) := HOK.out L _ hn FS.out
    clear SXD KD k2 b2 hN hn HOK HNO FS
    go_wp2_with fail
    go_ret
    exact ⟨HR.out, KF.out⟩
set_option maxRecDepth 100000 in
set_option maxHeartbeats 4000000 in
theorem li_first (l s hd tl : List UInt8) (mo : Bool) (W : World) {B gx : Nat} {vf vp vk : Value} {ps : List Value} {x : Sc} (h : Sy W B gx 1 vf vp vk ps x) (CS : Calls Tryz.prog 43 #[.string ⟨l.toArray⟩, .string ⟨#[10]⟩] W fun e w' => e = .returned (.tuple #[.string ⟨s.toArray⟩, .bool true]) ∧ w' = W)
    (CU : Calls Tryz.prog 44 #[.string ⟨s.toArray⟩, .string ⟨#[32]⟩] W fun ex w' => ex = .returned (.tuple #[.string ⟨hd.toArray⟩, .string ⟨tl.toArray⟩, .bool mo]) ∧ Keeps (fun _ => False) W w') (h_thread : s ≠ [116, 104, 114, 101, 97, 100]) (h_first : hd = [102, 105, 114, 115, 116]) (ht : tl.length ≤ 200000) (HG : Hid (∀ X, Keeps (fun q => q = gx) W X → Gq X)) : Calls Tryz.prog 27 #[.pointer (some ⟨gx, 0, none⟩), .string ⟨l.toArray⟩] W fun e W' => FiPost tl B gx vp vk ps x e W' ∧ Keeps (SyOwn gx vp ps) W W' := by
  have d4 : W.cell? ⟨gx, 4, none⟩ = some (.int .i64 1) := by rw [cell_of_block h.box]; rfl
  have hs1 : Hid (∀ X, Keeps (fun _ => False) W X → Sy X B gx 1 vf vp vk ps x) := fun X k => h.keeps k
  have hbs66 : (ByteArray.toList ⟨s.toArray⟩ == [116, 104, 114, 101, 97, 100]) = false := by simpa using h_thread
  have hcs66 : (s == [116, 104, 114, 101, 97, 100]) = false := by simpa using h_thread
  have hbhd52 : (ByteArray.toList ⟨hd.toArray⟩ == [102, 105, 114, 115, 116]) = true := by rw [h_first]; simp
  have hchd52 : (hd == [102, 105, 114, 115, 116]) = true := by rw [h_first]; simp
  clear h h_thread h_first
  go_enter Tryz.func27, Tryz.ntmps27
  go_wp2_with fail
  refine CS.mono ?_
  rintro e w' ⟨rfl, hw⟩
  replace hw := hw.symm
  subst hw
  clear CS
  go_wp2_with fail
  refine CU.mono ?_
  rintro e W1 ⟨rfl, k1⟩
  clear CU
  have b1 := (hs1.out W1 k1).box
  replace d4 : W1.cell? ⟨gx, 4, none⟩ = some (.int .i64 1) := by rw [cell_of_block b1]; rfl
  generalize hd.toArray = hdA at *
  generalize s.toArray = sA at *
  have hsx := (hs1.out W1 k1).setDue 2
  have f4 : W1.frozen? ⟨gx, 4, none⟩ = false := frozen_of_block b1 _
  have kd : Keeps (fun q => q = gx) W (W1.setCell ⟨gx, 4, none⟩ (.int .i64 2)) := Keeps.setCell (S := fun q => q = gx) (keeps_none k1) (.inr rfl) _
  have NS := nums64_any tl ht (W1.setCell ⟨gx, 4, none⟩ (.int .i64 2)) (HG.out _ kd)
  unfold NsPost64 at NS
  have HOK : Hid (∀ L W', allM m64 (pcs tl) = some L → (∃ vf', Sy W' B gx 2 vf' vp vk ps { x with first := L }) → FiPost tl B gx vp vk ps x (.returned (.bool true)) W') := fun L W' q z => by unfold FiPost; rw [q]; exact ⟨rfl, z⟩
  have HNO : Hid (∀ W', allM m64 (pcs tl) = none → FiPost tl B gx vp vk ps x (.returned (.bool false)) W') := fun W' q => by unfold FiPost; rw [q]
  clear hs1 b1 HG k1
  replace hsx : Hid _ := hsx
  replace kd : Hid _ := kd
  go_wp2_with fail
  refine NS.mono ?_
  clear NS
  have SXD := hsx.out
  have KD := kd.out
  generalize W1.setCell ⟨gx, 4, none⟩ (.int .i64 2) = Y at *
  clear hsx kd d4 f4
  cases hn : allM m64 (pcs tl) with
  | none =>
    rintro e W2 ⟨rfl, k2⟩
    have b2 := (SXD.keeps k2).box
    have c3 : W2.cell? ⟨gx, 1, none⟩ = some vf := by rw [cell_of_block b2]; rfl
    have f3 : W2.frozen? ⟨gx, 1, none⟩ = false := frozen_of_block b2 _
    have KF : Hid (Keeps (SyOwn gx vp ps) W (W2.setCell ⟨gx, 1, none⟩ (.slice none 0 0))) := keeps_own (Keeps.setCell (S := fun q => q = gx) (KD.trans (keeps_none k2)) (.inr rfl) _)
    have HR : Hid (∀ W', _) := fun W' => HNO.out W' hn
    clear SXD KD k2 b2 hn HOK HNO
    go_wp2_with fail
    go_ret
    exact ⟨HR.out _, KF.out⟩
  | some L =>
    rintro e W2 ⟨⟨va, vc, rfl, hN⟩, k2⟩
    have b2 := (SXD.keeps k2).box
    have c3 : W2.cell? ⟨gx, 1, none⟩ = some vf := by rw [cell_of_block b2]; rfl
    have f3 : W2.frozen? ⟨gx, 1, none⟩ = false := frozen_of_block b2 _
    have FS : Hid (∃ vf', Sy (W2.setCell ⟨gx, 1, none⟩ (.slice va L.length vc)) B gx 2 vf' vp vk ps { x with first := L }) := ⟨_, SXD.setFirst k2 hN⟩
    have KF : Hid (Keeps (SyOwn gx vp ps) W (W2.setCell ⟨gx, 1, none⟩ (.slice va L.length vc))) := keeps_own (Keeps.setCell (S := fun q => q = gx) (KD.trans (keeps_none k2)) (.inr rfl) _)
    have HR : Hid (FiPost tl B gx vp vk ps x (.returned (.bool true)) (W2.setCell ⟨gx, 1, none⟩ (.slice va L.length vc))) := HOK.out L _ hn FS.out
    clear SXD KD k2 b2 hN hn HOK HNO FS
    go_wp2_with fail
    go_ret
    exact ⟨HR.out, KF.out⟩
end Go.Proofs.YtppejcfghlpbjaaGreatDoor


/- Walk of line (package asm, a script's lines), leaf by leaf. No statement of the seat is proved here. -/
namespace Go.Proofs.YtppejcfghlpbjaaGreatDoor
open Go.RowKit Go.Shelf

set_option maxRecDepth 100000 in
set_option maxHeartbeats 4000000 in
theorem li_ins (l s hd tl : List UInt8) (mo : Bool) (W : World) {B gx : Nat} {vf vp vk : Value} {ps : List Value} {x : Sc} (h : Sy W B gx 3 vf vp vk ps x) (CS : Calls Tryz.prog 43 #[.string ⟨l.toArray⟩, .string ⟨#[10]⟩] W fun e w' => e = .returned (.tuple #[.string ⟨s.toArray⟩, .bool true]) ∧ w' = W)
    (CU : Calls Tryz.prog 44 #[.string ⟨s.toArray⟩, .string ⟨#[32]⟩] W fun ex w' => ex = .returned (.tuple #[.string ⟨hd.toArray⟩, .string ⟨tl.toArray⟩, .bool mo]) ∧ Keeps (fun _ => False) W w') (h_thread : s ≠ [116, 104, 114, 101, 97, 100]) (h_first : hd ≠ [102, 105, 114, 115, 116]) (h_picks : hd ≠ [112, 105, 99, 107, 115]) (HI : Hid (∀ X, Keeps (fun _ => False) W X → Calls Tryz.prog 48 #[.pointer (some ⟨gx, 0, none⟩), .string ⟨s.toArray⟩] X fun e W' => IlPost s B gx 3 vf vp vk x e W' ∧ Keeps (SyOwn gx vp ps) X W')) : Calls Tryz.prog 27 #[.pointer (some ⟨gx, 0, none⟩), .string ⟨l.toArray⟩] W fun e W' => IlPost s B gx 3 vf vp vk x e W' ∧ Keeps (SyOwn gx vp ps) W W' := by
  have d4 : W.cell? ⟨gx, 4, none⟩ = some (.int .i64 3) := by rw [cell_of_block h.box]; rfl
  have hs1 : Hid (∀ X, Keeps (fun _ => False) W X → Sy X B gx 3 vf vp vk ps x) := fun X k => h.keeps k
  have hbs66 : (ByteArray.toList ⟨s.toArray⟩ == [116, 104, 114, 101, 97, 100]) = false := by simpa using h_thread
  have hcs66 : (s == [116, 104, 114, 101, 97, 100]) = false := by simpa using h_thread
  have hbhd52 : (ByteArray.toList ⟨hd.toArray⟩ == [102, 105, 114, 115, 116]) = false := by simpa using h_first
  have hchd52 : (hd == [102, 105, 114, 115, 116]) = false := by simpa using h_first
  have hbhd52 : (ByteArray.toList ⟨hd.toArray⟩ == [112, 105, 99, 107, 115]) = false := by simpa using h_picks
  have hchd52 : (hd == [112, 105, 99, 107, 115]) = false := by simpa using h_picks
  clear h h_thread h_first h_picks
  go_enter Tryz.func27, Tryz.ntmps27
  go_wp2_with fail
  refine CS.mono ?_
  rintro e w' ⟨rfl, hw⟩
  replace hw := hw.symm
  subst hw
  clear CS
  go_wp2_with fail
  refine CU.mono ?_
  rintro e W1 ⟨rfl, k1⟩
  clear CU
  have b1 := (hs1.out W1 k1).box
  replace d4 : W1.cell? ⟨gx, 4, none⟩ = some (.int .i64 3) := by rw [cell_of_block b1]; rfl
  generalize hd.toArray = hdA at *
  have IN := HI.out W1 k1
  clear hs1 b1 HI
  go_wp2_with fail
  refine IN.mono ?_
  rintro e W2 ⟨hp, k2⟩
  have kf := (keeps_none (S := SyOwn gx vp ps) k1).trans k2
  have hb : ∃ b, e = .returned (.bool b) := by
    unfold IlPost at hp
    cases hn : parseL s with
    | none => rw [hn] at hp; exact ⟨_, hp⟩
    | some c => rw [hn] at hp; exact ⟨_, hp.1⟩
  obtain ⟨b, rfl⟩ := hb
  clear IN k1 k2
  go_wp2_with fail
  go_ret
  exact ⟨hp, kf⟩
set_option maxRecDepth 100000 in
set_option maxHeartbeats 4000000 in
theorem li_insf (l s hd tl : List UInt8) (mo : Bool) (W : World) {B gx : Nat} {vf vp vk : Value} {ps : List Value} {x : Sc} (h : Sy W B gx 3 vf vp vk ps x) (CS : Calls Tryz.prog 43 #[.string ⟨l.toArray⟩, .string ⟨#[10]⟩] W fun e w' => e = .returned (.tuple #[.string ⟨s.toArray⟩, .bool true]) ∧ w' = W)
    (CU : Calls Tryz.prog 44 #[.string ⟨s.toArray⟩, .string ⟨#[32]⟩] W fun ex w' => ex = .returned (.tuple #[.string ⟨hd.toArray⟩, .string ⟨tl.toArray⟩, .bool mo]) ∧ Keeps (fun _ => False) W w') (h_thread : s ≠ [116, 104, 114, 101, 97, 100]) (h_first : hd = [102, 105, 114, 115, 116]) (h_picks : hd ≠ [112, 105, 99, 107, 115]) (HI : Hid (∀ X, Keeps (fun _ => False) W X → Calls Tryz.prog 48 #[.pointer (some ⟨gx, 0, none⟩), .string ⟨s.toArray⟩] X fun e W' => IlPost s B gx 3 vf vp vk x e W' ∧ Keeps (SyOwn gx vp ps) X W')) : Calls Tryz.prog 27 #[.pointer (some ⟨gx, 0, none⟩), .string ⟨l.toArray⟩] W fun e W' => IlPost s B gx 3 vf vp vk x e W' ∧ Keeps (SyOwn gx vp ps) W W' := by
  have d4 : W.cell? ⟨gx, 4, none⟩ = some (.int .i64 3) := by rw [cell_of_block h.box]; rfl
  have hs1 : Hid (∀ X, Keeps (fun _ => False) W X → Sy X B gx 3 vf vp vk ps x) := fun X k => h.keeps k
  have hbs66 : (ByteArray.toList ⟨s.toArray⟩ == [116, 104, 114, 101, 97, 100]) = false := by simpa using h_thread
  have hcs66 : (s == [116, 104, 114, 101, 97, 100]) = false := by simpa using h_thread
  have hbhd52 : (ByteArray.toList ⟨hd.toArray⟩ == [102, 105, 114, 115, 116]) = true := by rw [h_first]; simp
  have hchd52 : (hd == [102, 105, 114, 115, 116]) = true := by rw [h_first]; simp
  have hbhd52 : (ByteArray.toList ⟨hd.toArray⟩ == [112, 105, 99, 107, 115]) = false := by simpa using h_picks
  have hchd52 : (hd == [112, 105, 99, 107, 115]) = false := by simpa using h_picks
  clear h h_thread h_first h_picks
  go_enter Tryz.func27, Tryz.ntmps27
  go_wp2_with fail
  refine CS.mono ?_
  rintro e w' ⟨rfl, hw⟩
  replace hw := hw.symm
  subst hw
  clear CS
  go_wp2_with fail
  refine CU.mono ?_
  rintro e W1 ⟨rfl, k1⟩
  clear CU
  have b1 := (hs1.out W1 k1).box
  replace d4 : W1.cell? ⟨gx, 4, none⟩ = some (.int .i64 3) := by rw [cell_of_block b1]; rfl
  generalize hd.toArray = hdA at *
  have IN := HI.out W1 k1
  clear hs1 b1 HI
  go_wp2_with fail
  refine IN.mono ?_
  rintro e W2 ⟨hp, k2⟩
  have kf := (keeps_none (S := SyOwn gx vp ps) k1).trans k2
  have hb : ∃ b, e = .returned (.bool b) := by
    unfold IlPost at hp
    cases hn : parseL s with
    | none => rw [hn] at hp; exact ⟨_, hp⟩
    | some c => rw [hn] at hp; exact ⟨_, hp.1⟩
  obtain ⟨b, rfl⟩ := hb
  clear IN k1 k2
  go_wp2_with fail
  go_ret
  exact ⟨hp, kf⟩
end Go.Proofs.YtppejcfghlpbjaaGreatDoor


/- Walk of line (package asm, a script's lines), whole. No statement of the seat is proved here. -/
namespace Go.Proofs.YtppejcfghlpbjaaGreatDoor
open Go.RowKit Go.Shelf

set_option maxRecDepth 100000 in
set_option maxHeartbeats 4000000 in
theorem li_bad (l s : List UInt8) (W : World) (gx : Nat) (CS : Calls Tryz.prog 43 #[.string ⟨l.toArray⟩, .string ⟨#[10]⟩] W fun e w' => e = .returned (.tuple #[.string ⟨s.toArray⟩, .bool false]) ∧ w' = W) :
    Calls Tryz.prog 27 #[.pointer (some ⟨gx, 0, none⟩), .string ⟨l.toArray⟩] W fun e W' => e = .returned (.bool false) ∧ Keeps (fun _ => False) W W' := by
  have k0 := Keeps.refl (fun _ => False) W
  go_enter Tryz.func27, Tryz.ntmps27
  go_wp2_with fail
  refine CS.mono ?_
  rintro e w' ⟨rfl, hw⟩
  replace hw := hw.symm
  subst hw
  clear CS
  go_wp2_with fail
  go_ret
  exact ⟨rfl, k0⟩
set_option maxRecDepth 100000 in
set_option maxHeartbeats 4000000 in
theorem li_over (l s : List UInt8) (W : World) {B gx : Nat} {vf vp vk : Value} {ps : List Value} {x : Sc} (h : Sy W B gx 4 vf vp vk ps x) (CS : Calls Tryz.prog 43 #[.string ⟨l.toArray⟩, .string ⟨#[10]⟩] W fun e w' => e = .returned (.tuple #[.string ⟨s.toArray⟩, .bool true]) ∧ w' = W) :
    Calls Tryz.prog 27 #[.pointer (some ⟨gx, 0, none⟩), .string ⟨l.toArray⟩] W fun e W' => e = .returned (.bool false) ∧ Keeps (fun _ => False) W W' := by
  have k0 := Keeps.refl (fun _ => False) W
  have d4 : W.cell? ⟨gx, 4, none⟩ = some (.int .i64 4) := by rw [cell_of_block h.box]; rfl
  clear h
  go_enter Tryz.func27, Tryz.ntmps27
  go_wp2_with fail
  refine CS.mono ?_
  rintro e w' ⟨rfl, hw⟩
  replace hw := hw.symm
  subst hw
  clear CS
  go_wp2_with fail
  go_ret
  exact ⟨rfl, k0⟩
/-- What line answers, and leaves. -/
def LiPost (st : Nat) (x : Sc) (l : List UInt8) (B gx : Nat) (e : Ending) (W' : World) : Prop :=
  match (if l.getLast? = some 10 then lineS st x l.dropLast else none) with
  | some (st', x') => e = .returned (.bool true) ∧ ∃ vf vp vk ps, Sy W' B gx st' vf vp vk ps x'
  | none => e = .returned (.bool false)
theorem lineS_any (l : List UInt8) (hl : l.length ≤ 200000) (W : World) (hg : Gq W) {B gx st : Nat} {vf vp vk : Value} {ps : List Value} {x : Sc} (h : Sy W B gx st vf vp vk ps x) (hB : B ≤ W.heap.size) (h9 : 9 ≤ gx) (hst : st ≤ 4) (h3 : st = 3 → x.progs ≠ []) (hpk : st ≤ 3 → x.picks = []) (hn : x.progs.length ≤ 200000) (hlen : ∀ p ∈ x.progs, p.length ≤ 200000) :
    Calls Tryz.prog 27 #[.pointer (some ⟨gx, 0, none⟩), .string ⟨l.toArray⟩] W fun e W' => LiPost st x l B gx e W' ∧ Keeps (SyOwn gx vp ps) W W' := by
  have CS := cutSuffix_any l 10 (by omega) W
  by_cases h10 : l.getLast? = some 10
  rotate_left
  · rw [decide_eq_false h10] at CS
    refine (li_bad l _ W gx CS).mono fun e W' ⟨h1, h2⟩ => ⟨?_, keeps_none h2⟩
    unfold LiPost
    rw [if_neg h10]
    exact h1
  obtain ⟨s, rfl⟩ := List.getLast?_eq_some_iff.1 h10
  have htr : trimC (s ++ [10]) 10 = s := by
    unfold trimC
    rw [if_pos h10, List.dropLast_concat]
  rw [decide_eq_true h10, htr] at CS
  have hsl : s.length ≤ 200000 := by simp at hl; omega
  have hlp : ∀ (e : Ending) (W' : World), LiPost st x (s ++ [10]) B gx e W' = (match lineS st x s with
      | some (st', x') => e = .returned (.bool true) ∧ ∃ vf vp vk ps, Sy W' B gx st' vf vp vk ps x'
      | none => e = .returned (.bool false)) := fun e W' => by
    unfold LiPost
    rw [if_pos h10, List.dropLast_concat]
  have CU := cut_any 32 s hsl W hg.gp.gl
  have hcl := cutA_len 32 s
  have HG : Hid (∀ X, Keeps (fun _ => False) W X → Gq X) := fun X k => hg.keeps k
  have HG2 : Hid (∀ X, Keeps (fun q => q = gx) W X → Gq X) := fun X k => hg.keepsB k 9 (Nat.le_refl _) (fun q e => by subst e; exact h9)
  simp only [hlp]
  rcases (by omega : st = 0 ∨ st = 4 ∨ (1 ≤ st ∧ st ≤ 3)) with rfl | rfl | ⟨hs1, hs3⟩
  · by_cases hc : (cutA 32 s).1 = cellsW
    · refine (li_cells _ s _ _ _ W h CS CU hc (by omega) HG).mono fun e W' ⟨q1, q2⟩ => ⟨?_, q2⟩
      rw [line_cells, if_pos hc]
      unfold CePost at q1
      cases hnm : numM m63 (cutA 32 s).2.1 with
      | none => rw [hnm] at q1; exact q1
      | some c => rw [hnm] at q1; exact ⟨q1.1, _, _, _, _, q1.2⟩
    · refine (li_cells_no _ s _ _ _ W h CS CU hc).mono fun e W' ⟨q1, q2⟩ => ⟨?_, q2⟩
      rw [line_cells, if_neg hc]
      exact q1
  · refine (li_over _ s W h CS).mono fun e W' ⟨q1, q2⟩ => ⟨?_, keeps_none q2⟩
    rw [line_over]
    exact q1
  by_cases hth : s = threadW
  · have hln := line_thread st x hs1 hs3
    rw [← hth] at hln
    rw [hln]
    rcases (by omega : st = 1 ∨ st = 2 ∨ st = 3) with rfl | rfl | rfl
    · exact (li_thread1 _ s _ _ _ W h CS CU hth hB (by omega)).mono fun e W' ⟨q1, ⟨vp', ps', q2⟩, q3⟩ => ⟨⟨q1, _, _, _, _, q2⟩, q3⟩
    · exact (li_thread2 _ s _ _ _ W h CS CU hth hB (by omega)).mono fun e W' ⟨q1, ⟨vp', ps', q2⟩, q3⟩ => ⟨⟨q1, _, _, _, _, q2⟩, q3⟩
    · exact (li_thread3 _ s _ _ _ W h CS CU hth hB (by omega)).mono fun e W' ⟨q1, ⟨vp', ps', q2⟩, q3⟩ => ⟨⟨q1, _, _, _, _, q2⟩, q3⟩
  by_cases hpi : (cutA 32 s).1 = picksW
  · have hnf : (cutA 32 s).1 ≠ firstW := by rw [hpi]; decide
    rw [line_picks st x s hs1 hs3 hth hpi, hpk hs3]
    have fin : ∀ (e : Ending) (W' : World), PkPost (cutA 32 s).2.1 B gx vf vp ps x e W' → (match (allM m32 (pcs (cutA 32 s).2.1)).map (fun L => (4, { x with picks := [] ++ L })) with
        | some (st', x') => e = .returned (.bool true) ∧ ∃ vf vp vk ps, Sy W' B gx st' vf vp vk ps x'
        | none => e = .returned (.bool false)) := fun e W' q => by
      unfold PkPost at q
      cases ha : allM m32 (pcs (cutA 32 s).2.1) with
      | none => rw [ha] at q; exact q
      | some L =>
        rw [ha] at q
        obtain ⟨q1, vk', q2⟩ := q
        exact ⟨q1, _, _, _, _, q2⟩
    rcases (by omega : st = 1 ∨ st = 2 ∨ st = 3) with rfl | rfl | rfl
    · exact (li_picks1 _ s _ _ _ W h CS CU hth hnf hpi (by omega) HG2).mono fun e W' ⟨q1, q2⟩ => ⟨fin e W' q1, q2⟩
    · exact (li_picks2 _ s _ _ _ W h CS CU hth hnf hpi (by omega) HG2).mono fun e W' ⟨q1, q2⟩ => ⟨fin e W' q1, q2⟩
    · exact (li_picks3 _ s _ _ _ W h CS CU hth hnf hpi (by omega) HG2).mono fun e W' ⟨q1, q2⟩ => ⟨fin e W' q1, q2⟩
  by_cases hfi : (cutA 32 s).1 = firstW
  · rcases (by omega : st = 1 ∨ st = 2 ∨ st = 3) with rfl | rfl | rfl
    · rw [line_first x s hth hfi]
      refine (li_first _ s _ _ _ W h CS CU hth hfi (by omega) HG2).mono fun e W' ⟨q1, q2⟩ => ⟨?_, q2⟩
      unfold FiPost at q1
      cases ha : allM m64 (pcs (cutA 32 s).2.1) with
      | none => rw [ha] at q1; exact q1
      | some L =>
        rw [ha] at q1
        obtain ⟨q1, vf', q2⟩ := q1
        exact ⟨q1, _, _, _, _, q2⟩
    · rw [line_else 2 x s (by omega) (by omega) hth (by omega) hpi, if_neg (by omega)]
      exact li_none2f _ s _ _ _ W h CS CU hth hfi hpi
    · rw [line_else 3 x s (by omega) (by omega) hth (by omega) hpi, if_pos rfl]
      obtain ⟨m, hm⟩ : ∃ m, x.progs.length = m + 1 := ⟨x.progs.length - 1, by have := List.length_pos_iff.2 (h3 rfl); omega⟩
      refine (li_insf _ s _ _ _ W h CS CU hth hfi hpi (fun X k => ins_any s hsl X (HG.out X k) (h.keeps k) (Nat.le_trans hB k.size) m hm (by omega) hlen)).mono fun e W' ⟨q1, q2⟩ => ⟨?_, q2⟩
      unfold IlPost at q1
      cases hp : parseL s with
      | none => rw [hp] at q1; exact q1
      | some i =>
        rw [hp] at q1
        obtain ⟨q1, ps', q2⟩ := q1
        exact ⟨q1, _, _, _, _, q2⟩
  · rcases (by omega : st = 1 ∨ st = 2 ∨ st = 3) with rfl | rfl | rfl
    · rw [line_else 1 x s (by omega) (by omega) hth (fun q => hfi q.2) hpi, if_neg (by omega)]
      exact li_none1 _ s _ _ _ W h CS CU hth hfi hpi
    · rw [line_else 2 x s (by omega) (by omega) hth (by omega) hpi, if_neg (by omega)]
      exact li_none2 _ s _ _ _ W h CS CU hth hfi hpi
    · rw [line_else 3 x s (by omega) (by omega) hth (by omega) hpi, if_pos rfl]
      obtain ⟨m, hm⟩ : ∃ m, x.progs.length = m + 1 := ⟨x.progs.length - 1, by have := List.length_pos_iff.2 (h3 rfl); omega⟩
      refine (li_ins _ s _ _ _ W h CS CU hth hfi hpi (fun X k => ins_any s hsl X (HG.out X k) (h.keeps k) (Nat.le_trans hB k.size) m hm (by omega) hlen)).mono fun e W' ⟨q1, q2⟩ => ⟨?_, q2⟩
      unfold IlPost at q1
      cases hp : parseL s with
      | none => rw [hp] at q1; exact q1
      | some i =>
        rw [hp] at q1
        obtain ⟨q1, ps', q2⟩ := q1
        exact ⟨q1, _, _, _, _, q2⟩
end Go.Proofs.YtppejcfghlpbjaaGreatDoor
