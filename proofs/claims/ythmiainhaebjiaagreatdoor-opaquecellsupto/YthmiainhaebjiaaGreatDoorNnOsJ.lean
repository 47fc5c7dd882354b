import Derived.Test.YthmiainhaebjiaaGreatDoorNlOsG
import Derived.Test.YthmiainhaebjiaaGreatDoorM30OpW
import Derived.Test.YthmiainhaebjiaaGreatDoorNmOqH

/- The law OpaqueCells (layer 16), walked. No statement of the seat is proved here. -/
namespace Go.Proofs.YthmiainhaebjiaaGreatDoor
open Go.RowKit Go.Shelf

set_option maxRecDepth 100000 in
set_option maxHeartbeats 8000000 in
@[go_sem] theorem eq_odd (a b c d : Int) (w : World) : (Op.equalIn 10000 31 (.agg #[.int .i64 a, .int .i64 b]) (.agg #[.int .i64 c, .int .i64 d])).run Tryz.prog w = .ok (a == c && b == d) w := by
  have u3 := Tryz.underlying3
  have a3 := Tryz.isAgg3
  have z3 := Tryz.sizeOf3
  have u4 := Tryz.underlying29
  have a4 := Tryz.isAgg29
  have z4 := Tryz.sizeOf29
  have hS : Tryz.prog.underlying 31 = some (.struct (Tryz.prog.fieldsOf 31)) := by kernel_rfl
  rw [show (10000 : Nat) = 9999 + 1 from rfl, run_equalIn_agg w 9999 31 _ _ hS (by kernel_rfl)]
  simp only [Program.fieldsOf, Tryz.underlying31]
  go_simp
  by_cases h1 : a = c <;> by_cases h2 : b = d <;> simp [h1, h2]
set_option maxRecDepth 100000 in
set_option maxHeartbeats 8000000 in
theorem cells_walk (vF v vs : Value) (m : Int) (F : List Int) (L : List Ev) (ws : List (Int × Int)) (hFl : F.length ≤ 1050000) (hl : L.length ≤ 1050000) (hwl : ws.length ≤ 1050000) (w : World) (hv : EvsAt w v L) (hF : WsAt w vF F) (hs : ElsAt clC 2 w vs ws) (hg : Gv w) (h8 : 2 ≤ w.heap.size)
    {a1 e1 a2 e2 a3 e3 : Int} {Z1 Z2 : List Int} {Z3 : List (Int × Int)} (C : CeA F L m ws a1 e1 Z1 a2 e2 Z2 a3 e3 Z3) :
    Calls Tryz.prog 3 #[vF, v, .int .i64 m, vs] w fun ex w' => ex = .returned (.bool true) ∧ Keeps (fun _ => False) w w' := by
  have LN := lentO_any v L w hv
  have hbig := hv.big
  have HWF : Hid (∀ e ∈ L, e.wf) := hv.wf
  obtain ⟨fa, fc, rfl, hfc⟩ := hF.shape
  obtain ⟨ha, hc, rfl, hcap⟩ := hv.els.shape
  obtain ⟨sa, sc, rfl, hsc⟩ := hs.shape
  have HFK : ∀ X, Keeps (fun _ => False) w X → WsAt X (.slice fa F.length fc) F := fun X k => hF.keeps wC_ne k
  have HHK : ∀ X, Keeps (fun _ => False) w X → EvsAt X (.slice ha L.length hc) L := fun X k => hv.keeps k
  have HSK : ∀ X, Keeps (fun _ => False) w X → ElsAt clC 2 X (.slice sa ws.length sc) ws := fun X k => hs.keeps cl_ne k
  have H : Hid (∀ X, Keeps (fun _ => False) w X → (Gv X) ∧ (2 ≤ X.heap.size) ∧ (WsAt X (.slice fa F.length fc) F) ∧ (EvsAt X (.slice ha L.length hc) L) ∧ (ElsAt clC 2 X (.slice sa ws.length sc) ws) ∧ (Keeps (fun _ => False) w X)) := fun X k => ⟨hg.keeps k, Nat.le_trans h8 k.size, HFK X k, HHK X k, HSK X k, k⟩
  have HC : Hid (CeA F L m ws a1 e1 Z1 a2 e2 Z2 a3 e3 Z3) := C
  clear hF hv hs hg HFK HHK HSK C
  go_enter Tryz.func3, Tryz.ntmps3
  go_wp2_with fail
  refine LN.mono ?_
  rintro ex w1 ⟨mb, mc, rfl, hmc, hM, k1⟩
  clear LN
  replace H : Hid (∀ X, Keeps (fun _ => False) w1 X → (Gv X) ∧ (2 ≤ X.heap.size) ∧ (WsAt X (.slice fa F.length fc) F) ∧ (EvsAt X (.slice ha L.length hc) L) ∧ (ElsAt clC 2 X (.slice sa ws.length sc) ws) ∧ (Keeps (fun _ => False) w X) ∧ (ElsAt Ev.cl 6 X (.slice mb (L.length + 1) mc) (L ++ [mrkO])) ∧ (EvsAt X (.slice mb L.length mc) L)) := fun X k => by
    have h5 := (hM.els ev_len).keeps ev_ne k
    have h6 := h5.take L.length (by simp)
    rw [List.take_left' rfl] at h6
    obtain ⟨g, z, f, h, s, kk⟩ := H.out X (k1.trans k)
    exact ⟨g, z, f, h, s, kk, h5, h6, HWF.out, hbig⟩
  obtain ⟨vw, w2, r1, o2, gr2⟩ := (OwnR.nil wC 1 26 w1).app wC_len wC_one (by decide) Tryz.underlying22 info_wC rfl (by decide) (ty := 22) _ F (H.out w1 (Keeps.refl _ _)).2.2.1 (by simp; omega)
  have k2 := OwnR.kept gr2 (Keeps.refl _ w1) (OwnR.nil wC 1 26 w1)
  simp only [List.nil_append] at o2
  obtain ⟨xa, xc, rfl⟩ := o2.form
  replace H : Hid (∀ X, Keeps (fun _ => False) w2 X → (Gv X) ∧ (2 ≤ X.heap.size) ∧ (WsAt X (.slice fa F.length fc) F) ∧ (EvsAt X (.slice ha L.length hc) L) ∧ (ElsAt clC 2 X (.slice sa ws.length sc) ws) ∧ (Keeps (fun _ => False) w X) ∧ (ElsAt Ev.cl 6 X (.slice mb (L.length + 1) mc) (L ++ [mrkO])) ∧ (EvsAt X (.slice mb L.length mc) L) ∧ (WsAt X (.slice xa F.length xc) F)) := fun X k => by
    obtain ⟨g, z, f, h, s, kk, mm, mh⟩ := H.out X (k2.trans k)
    exact ⟨g, z, f, h, s, kk, mm, mh, (o2.els wC_len).keeps wC_ne k⟩
  obtain ⟨v2, w3, r2, o3, gr3⟩ := (OwnR.nil clC 2 28 w2).app cl_len cl_one (by decide) Tryz.underlying24 info_cl rfl (by decide) (ty := 24) _ ws (H.out w2 (Keeps.refl _ _)).2.2.2.2.1 (by simp; omega)
  have k3 := OwnR.kept gr3 (Keeps.refl _ w2) (OwnR.nil clC 2 28 w2)
  simp only [List.nil_append] at o3
  obtain ⟨v3, w4, r3, o4, gr4⟩ := o3.push cl_len cl_one (by decide) Tryz.underlying24 info_cl rfl (by decide) (ty := 24) (991, 0) (cs := #[.int .u64 991, .int .u64 0]) rfl (by omega)
  have k4 := OwnR.kept gr4 k3 o3
  obtain ⟨za, zc, rfl⟩ := o3.form
  obtain ⟨yb, yc, cy, hy, -, -, -⟩ := o4.at (by simp)
  obtain ⟨ya', yc', hy1, hyc⟩ := (o4.els cl_len).shape
  rw [List.length_append, List.length_singleton] at hy
  subst hy
  rw [List.length_append, List.length_singleton] at hy1 hyc
  simp only [Value.slice.injEq] at hy1
  obtain ⟨-, -, rfl⟩ := hy1
  have hyi : (ws.length : Int) ≤ (yc : Int) := by omega
  replace H : Hid (∀ X, Keeps (fun _ => False) w4 X → (Gv X) ∧ (2 ≤ X.heap.size) ∧ (WsAt X (.slice fa F.length fc) F) ∧ (EvsAt X (.slice ha L.length hc) L) ∧ (ElsAt clC 2 X (.slice sa ws.length sc) ws) ∧ (Keeps (fun _ => False) w X) ∧ (ElsAt Ev.cl 6 X (.slice mb (L.length + 1) mc) (L ++ [mrkO])) ∧ (EvsAt X (.slice mb L.length mc) L) ∧ (WsAt X (.slice xa F.length xc) F) ∧ (ElsAt clC 2 X (.slice (some ⟨yb, 0, none⟩) (ws.length + 1) yc) (ws ++ [(991, 0)])) ∧ (ElsAt clC 2 X (.slice (some ⟨yb, 0, none⟩) ws.length yc) ws)) := fun X kx => by
    have h5 := (o4.els cl_len).keeps cl_ne kx
    have h6 := h5.take ws.length (by simp)
    rw [List.take_left' rfl] at h6
    obtain ⟨g, z, f, h, s, k, mm, mh, cf⟩ := H.out X (k4.trans kx)
    exact ⟨g, z, f, h, s, k, mm, mh, cf, h5, h6⟩
  have HA1 : Hid (_ = _) := r1
  have HA2 : Hid (_ = _) := r2
  have HA3 : Hid (_ = _) := r3
  clear r1 r2 r3 o2 o3 o4 gr2 gr3 gr4 hM k1 k2 k3 k4 cy
  have K4 := Keeps.refl (fun _ => False) w4
  obtain ⟨g, z, f, h, s, k, mm, mh, cf, mi, mt⟩ := H.out w4 K4
  have S1 := HC.out.pb w4 (.slice xa F.length xc) (.slice mb L.length mc) cf mh g z
  clear g z f h s k mm mh cf mi mt
  unfold AnO odV at S1
  go_wp2_with (at_builtin; first | refine wpList_append_run rfl _ _ 22 rfl rfl rfl HA1.out ?_ | refine wpList_append_run rfl _ _ 24 rfl rfl rfl HA2.out ?_ | refine wpList_append_run rfl _ _ 24 rfl rfl rfl HA3.out ?_)
  clear HA1 HA2 HA3
  refine S1.mono ?_
  rintro ex w5 ⟨u5, rfl, hU, kU⟩
  clear S1
  have kO := (Keeps.refl (fun _ => False) w5).alloc (.cells #[.int .i64 a1, .int .i64 e1] 31)
  have bO := (MapKept.heap_alloc w5 (.cells #[.int .i64 a1, .int .i64 e1] 31)).1
  obtain ⟨A5, hA⟩ : ∃ A, A = w5.alloc (.cells #[.int .i64 a1, .int .i64 e1] 31) := ⟨_, rfl⟩
  obtain ⟨p5, hp⟩ : ∃ p, p = w5.heap.size := ⟨_, rfl⟩
  rw [← hA] at kO bO
  rw [← hp] at bO
  have kk := kU.trans kO
  obtain ⟨ua5, uc5, rfl⟩ := hU.form
  have R5 : Hid (∀ g, (Value.slice ua5 Z1.length uc5).ownBlock = some g → w4.heap.size ≤ g ∧ g < p5) := fun g hg => ⟨(own_block hU.own hg).2, by rw [hp]; exact (own_block hU.own hg).1⟩
  have hU2 := hU.keeps kO (fun _ _ f => f)
  have Q5 : p5 < A5.heap.size := lt_of_block bO
  have T5 : w4.heap.size ≤ p5 := by rw [hp]; exact kU.size
  have J : Hid (∀ X, Keeps (fun _ => False) A5 X → (X.cell? ⟨p5, 0, none⟩ = some (.int .i64 a1) ∧ X.cell? ⟨p5, 1, none⟩ = some (.int .i64 e1)) ∧ (OwnR wC 1 26 X w4.heap.size (.slice ua5 Z1.length uc5) Z1)) := fun X k => by
    have b := (k.block _ (lt_of_block bO) (fun f => f)).trans bO
    exact ⟨⟨by rw [cell_of_block b]; rfl, by rw [cell_of_block b]; rfl⟩, hU2.keeps k (fun _ _ f => f)⟩
  replace K4 := K4.trans kk
  clear hU hU2 kU kO kk bO
  obtain ⟨g, z, f, h, s, k, mm, mh, cf, mi, mt⟩ := H.out A5 K4
  have S1 := HC.out.db A5 (.slice fa F.length fc) (.slice ha L.length hc) f h
  clear g z f h s k mm mh cf mi mt
  unfold AnO odV at S1
  go_wp2_with fail
  rw [← hA]
  try rw [← hp]
  clear hA hp
  refine S1.mono ?_
  rintro ex w6 ⟨u6, rfl, hU, kU⟩
  clear S1
  have kO := (Keeps.refl (fun _ => False) w6).alloc (.cells #[.int .i64 a1, .int .i64 e1] 31)
  have bO := (MapKept.heap_alloc w6 (.cells #[.int .i64 a1, .int .i64 e1] 31)).1
  obtain ⟨A6, hA⟩ : ∃ A, A = w6.alloc (.cells #[.int .i64 a1, .int .i64 e1] 31) := ⟨_, rfl⟩
  obtain ⟨p6, hp⟩ : ∃ p, p = w6.heap.size := ⟨_, rfl⟩
  rw [← hA] at kO bO
  rw [← hp] at bO
  have kk := kU.trans kO
  obtain ⟨ua6, uc6, rfl⟩ := hU.form
  have R6 : Hid (∀ g, (Value.slice ua6 Z1.length uc6).ownBlock = some g → A5.heap.size ≤ g ∧ g < p6) := fun g hg => ⟨(own_block hU.own hg).2, by rw [hp]; exact (own_block hU.own hg).1⟩
  have hU2 := hU.keeps kO (fun _ _ f => f)
  have Q6 : p6 < A6.heap.size := lt_of_block bO
  have T6 : A5.heap.size ≤ p6 := by rw [hp]; exact kU.size
  replace J : Hid (∀ X, Keeps (fun _ => False) A6 X → (X.cell? ⟨p5, 0, none⟩ = some (.int .i64 a1) ∧ X.cell? ⟨p5, 1, none⟩ = some (.int .i64 e1)) ∧ (OwnR wC 1 26 X w4.heap.size (.slice ua5 Z1.length uc5) Z1) ∧ (X.cell? ⟨p6, 0, none⟩ = some (.int .i64 a1) ∧ X.cell? ⟨p6, 1, none⟩ = some (.int .i64 e1)) ∧ (OwnR wC 1 26 X A5.heap.size (.slice ua6 Z1.length uc6) Z1)) := fun X k => by
    have b := (k.block _ (lt_of_block bO) (fun f => f)).trans bO
    obtain ⟨o5, r5⟩ := J.out X (kk.trans k)
    exact ⟨o5, r5, ⟨by rw [cell_of_block b]; rfl, by rw [cell_of_block b]; rfl⟩, hU2.keeps k (fun _ _ f => f)⟩
  replace K4 := K4.trans kk
  clear hU hU2 kU kO kk bO
  obtain ⟨g, z, f, h, s, k, mm, mh, cf, mi, mt⟩ := H.out A6 K4
  have S1 := HC.out.pt A6 (.slice xa F.length xc) (.slice mb L.length mc) (.slice (some ⟨yb, 0, none⟩) ws.length yc) cf mh mt g z
  clear g z f h s k mm mh cf mi mt
  unfold AnO odV at S1
  go_wp2_with fail
  rw [← hA]
  try rw [← hp]
  clear hA hp
  refine S1.mono ?_
  rintro ex w7 ⟨u7, rfl, hU, kU⟩
  clear S1
  have kO := (Keeps.refl (fun _ => False) w7).alloc (.cells #[.int .i64 a2, .int .i64 e2] 31)
  have bO := (MapKept.heap_alloc w7 (.cells #[.int .i64 a2, .int .i64 e2] 31)).1
  obtain ⟨A7, hA⟩ : ∃ A, A = w7.alloc (.cells #[.int .i64 a2, .int .i64 e2] 31) := ⟨_, rfl⟩
  obtain ⟨p7, hp⟩ : ∃ p, p = w7.heap.size := ⟨_, rfl⟩
  rw [← hA] at kO bO
  rw [← hp] at bO
  have kk := kU.trans kO
  obtain ⟨ua7, uc7, rfl⟩ := hU.form
  have R7 : Hid (∀ g, (Value.slice ua7 Z2.length uc7).ownBlock = some g → A6.heap.size ≤ g ∧ g < p7) := fun g hg => ⟨(own_block hU.own hg).2, by rw [hp]; exact (own_block hU.own hg).1⟩
  have hU2 := hU.keeps kO (fun _ _ f => f)
  have Q7 : p7 < A7.heap.size := lt_of_block bO
  have T7 : A6.heap.size ≤ p7 := by rw [hp]; exact kU.size
  replace J : Hid (∀ X, Keeps (fun _ => False) A7 X → (X.cell? ⟨p5, 0, none⟩ = some (.int .i64 a1) ∧ X.cell? ⟨p5, 1, none⟩ = some (.int .i64 e1)) ∧ (OwnR wC 1 26 X w4.heap.size (.slice ua5 Z1.length uc5) Z1) ∧ (X.cell? ⟨p6, 0, none⟩ = some (.int .i64 a1) ∧ X.cell? ⟨p6, 1, none⟩ = some (.int .i64 e1)) ∧ (OwnR wC 1 26 X A5.heap.size (.slice ua6 Z1.length uc6) Z1) ∧ (X.cell? ⟨p7, 0, none⟩ = some (.int .i64 a2) ∧ X.cell? ⟨p7, 1, none⟩ = some (.int .i64 e2)) ∧ (OwnR nC 1 3 X A6.heap.size (.slice ua7 Z2.length uc7) Z2)) := fun X k => by
    have b := (k.block _ (lt_of_block bO) (fun f => f)).trans bO
    obtain ⟨o5, r5, o6, r6⟩ := J.out X (kk.trans k)
    exact ⟨o5, r5, o6, r6, ⟨by rw [cell_of_block b]; rfl, by rw [cell_of_block b]; rfl⟩, hU2.keeps k (fun _ _ f => f)⟩
  replace K4 := K4.trans kk
  clear hU hU2 kU kO kk bO
  obtain ⟨g, z, f, h, s, k, mm, mh, cf, mi, mt⟩ := H.out A7 K4
  have S1 := HC.out.dt A7 (.slice fa F.length fc) (.slice ha L.length hc) (.slice sa ws.length sc) f h s
  clear g z f h s k mm mh cf mi mt
  unfold AnE odV at S1
  go_wp2_with fail
  rw [← hA]
  try rw [← hp]
  clear hA hp
  refine S1.mono ?_
  rintro ex w8 ⟨u8, rfl, hU, kU⟩
  clear S1
  have kO := (Keeps.refl (fun _ => False) w8).alloc (.cells #[.int .i64 a2, .int .i64 e2] 31)
  have bO := (MapKept.heap_alloc w8 (.cells #[.int .i64 a2, .int .i64 e2] 31)).1
  obtain ⟨A8, hA⟩ : ∃ A, A = w8.alloc (.cells #[.int .i64 a2, .int .i64 e2] 31) := ⟨_, rfl⟩
  obtain ⟨p8, hp⟩ : ∃ p, p = w8.heap.size := ⟨_, rfl⟩
  rw [← hA] at kO bO
  rw [← hp] at bO
  have kk := kU.trans kO
  obtain ⟨ua8, uc8, rfl, -⟩ := hU.shape
  have hU2 := hU.keeps nC_ne kO
  have Q8 : p8 < A8.heap.size := lt_of_block bO
  have T8 : A7.heap.size ≤ p8 := by rw [hp]; exact kU.size
  replace J : Hid (∀ X, Keeps (fun _ => False) A8 X → (X.cell? ⟨p5, 0, none⟩ = some (.int .i64 a1) ∧ X.cell? ⟨p5, 1, none⟩ = some (.int .i64 e1)) ∧ (OwnR wC 1 26 X w4.heap.size (.slice ua5 Z1.length uc5) Z1) ∧ (X.cell? ⟨p6, 0, none⟩ = some (.int .i64 a1) ∧ X.cell? ⟨p6, 1, none⟩ = some (.int .i64 e1)) ∧ (OwnR wC 1 26 X A5.heap.size (.slice ua6 Z1.length uc6) Z1) ∧ (X.cell? ⟨p7, 0, none⟩ = some (.int .i64 a2) ∧ X.cell? ⟨p7, 1, none⟩ = some (.int .i64 e2)) ∧ (OwnR nC 1 3 X A6.heap.size (.slice ua7 Z2.length uc7) Z2) ∧ (X.cell? ⟨p8, 0, none⟩ = some (.int .i64 a2) ∧ X.cell? ⟨p8, 1, none⟩ = some (.int .i64 e2)) ∧ (ElsAt nC 1 X (.slice ua8 Z2.length uc8) Z2)) := fun X k => by
    have b := (k.block _ (lt_of_block bO) (fun f => f)).trans bO
    obtain ⟨o5, r5, o6, r6, o7, r7⟩ := J.out X (kk.trans k)
    exact ⟨o5, r5, o6, r6, o7, r7, ⟨by rw [cell_of_block b]; rfl, by rw [cell_of_block b]; rfl⟩, hU2.keeps nC_ne k⟩
  replace K4 := K4.trans kk
  clear hU hU2 kU kO kk bO
  obtain ⟨g, z, f, h, s, k, mm, mh, cf, mi, mt⟩ := H.out A8 K4
  have S1 := HC.out.pn A8 (.slice xa F.length xc) (.slice mb L.length mc) cf mh g z
  clear g z f h s k mm mh cf mi mt
  unfold AnO odV at S1
  go_wp2_with fail
  rw [← hA]
  try rw [← hp]
  clear hA hp
  refine S1.mono ?_
  rintro ex w9 ⟨u9, rfl, hU, kU⟩
  clear S1
  have kO := (Keeps.refl (fun _ => False) w9).alloc (.cells #[.int .i64 a3, .int .i64 e3] 31)
  have bO := (MapKept.heap_alloc w9 (.cells #[.int .i64 a3, .int .i64 e3] 31)).1
  obtain ⟨A9, hA⟩ : ∃ A, A = w9.alloc (.cells #[.int .i64 a3, .int .i64 e3] 31) := ⟨_, rfl⟩
  obtain ⟨p9, hp⟩ : ∃ p, p = w9.heap.size := ⟨_, rfl⟩
  rw [← hA] at kO bO
  rw [← hp] at bO
  have kk := kU.trans kO
  obtain ⟨ua9, uc9, rfl⟩ := hU.form
  have R9 : Hid (∀ g, (Value.slice ua9 Z3.length uc9).ownBlock = some g → A8.heap.size ≤ g ∧ g < p9) := fun g hg => ⟨(own_block hU.own hg).2, by rw [hp]; exact (own_block hU.own hg).1⟩
  have hU2 := hU.keeps kO (fun _ _ f => f)
  have Q9 : p9 < A9.heap.size := lt_of_block bO
  have T9 : A8.heap.size ≤ p9 := by rw [hp]; exact kU.size
  replace J : Hid (∀ X, Keeps (fun _ => False) A9 X → (X.cell? ⟨p5, 0, none⟩ = some (.int .i64 a1) ∧ X.cell? ⟨p5, 1, none⟩ = some (.int .i64 e1)) ∧ (OwnR wC 1 26 X w4.heap.size (.slice ua5 Z1.length uc5) Z1) ∧ (X.cell? ⟨p6, 0, none⟩ = some (.int .i64 a1) ∧ X.cell? ⟨p6, 1, none⟩ = some (.int .i64 e1)) ∧ (OwnR wC 1 26 X A5.heap.size (.slice ua6 Z1.length uc6) Z1) ∧ (X.cell? ⟨p7, 0, none⟩ = some (.int .i64 a2) ∧ X.cell? ⟨p7, 1, none⟩ = some (.int .i64 e2)) ∧ (OwnR nC 1 3 X A6.heap.size (.slice ua7 Z2.length uc7) Z2) ∧ (X.cell? ⟨p8, 0, none⟩ = some (.int .i64 a2) ∧ X.cell? ⟨p8, 1, none⟩ = some (.int .i64 e2)) ∧ (ElsAt nC 1 X (.slice ua8 Z2.length uc8) Z2) ∧ (X.cell? ⟨p9, 0, none⟩ = some (.int .i64 a3) ∧ X.cell? ⟨p9, 1, none⟩ = some (.int .i64 e3)) ∧ (OwnR clC 2 28 X A8.heap.size (.slice ua9 Z3.length uc9) Z3)) := fun X k => by
    have b := (k.block _ (lt_of_block bO) (fun f => f)).trans bO
    obtain ⟨o5, r5, o6, r6, o7, r7, o8, r8⟩ := J.out X (kk.trans k)
    exact ⟨o5, r5, o6, r6, o7, r7, o8, r8, ⟨by rw [cell_of_block b]; rfl, by rw [cell_of_block b]; rfl⟩, hU2.keeps k (fun _ _ f => f)⟩
  replace K4 := K4.trans kk
  clear hU hU2 kU kO kk bO
  obtain ⟨g, z, f, h, s, k, mm, mh, cf, mi, mt⟩ := H.out A9 K4
  have S1 := HC.out.dn A9 (.slice fa F.length fc) (.slice ha L.length hc) f h
  clear g z f h s k mm mh cf mi mt
  unfold AnE odV at S1
  go_wp2_with fail
  rw [← hA]
  try rw [← hp]
  clear hA hp
  refine S1.mono ?_
  rintro ex w10 ⟨u10, rfl, hU, kU⟩
  clear S1
  have kO := (Keeps.refl (fun _ => False) w10).alloc (.cells #[.int .i64 a3, .int .i64 e3] 31)
  have bO := (MapKept.heap_alloc w10 (.cells #[.int .i64 a3, .int .i64 e3] 31)).1
  obtain ⟨A10, hA⟩ : ∃ A, A = w10.alloc (.cells #[.int .i64 a3, .int .i64 e3] 31) := ⟨_, rfl⟩
  obtain ⟨p10, hp⟩ : ∃ p, p = w10.heap.size := ⟨_, rfl⟩
  rw [← hA] at kO bO
  rw [← hp] at bO
  have kk := kU.trans kO
  obtain ⟨ua10, uc10, rfl, -⟩ := hU.shape
  have hU2 := hU.keeps cl_ne kO
  have Q10 : p10 < A10.heap.size := lt_of_block bO
  have T10 : A9.heap.size ≤ p10 := by rw [hp]; exact kU.size
  replace J : Hid (∀ X, Keeps (fun _ => False) A10 X → (X.cell? ⟨p5, 0, none⟩ = some (.int .i64 a1) ∧ X.cell? ⟨p5, 1, none⟩ = some (.int .i64 e1)) ∧ (OwnR wC 1 26 X w4.heap.size (.slice ua5 Z1.length uc5) Z1) ∧ (X.cell? ⟨p6, 0, none⟩ = some (.int .i64 a1) ∧ X.cell? ⟨p6, 1, none⟩ = some (.int .i64 e1)) ∧ (OwnR wC 1 26 X A5.heap.size (.slice ua6 Z1.length uc6) Z1) ∧ (X.cell? ⟨p7, 0, none⟩ = some (.int .i64 a2) ∧ X.cell? ⟨p7, 1, none⟩ = some (.int .i64 e2)) ∧ (OwnR nC 1 3 X A6.heap.size (.slice ua7 Z2.length uc7) Z2) ∧ (X.cell? ⟨p8, 0, none⟩ = some (.int .i64 a2) ∧ X.cell? ⟨p8, 1, none⟩ = some (.int .i64 e2)) ∧ (ElsAt nC 1 X (.slice ua8 Z2.length uc8) Z2) ∧ (X.cell? ⟨p9, 0, none⟩ = some (.int .i64 a3) ∧ X.cell? ⟨p9, 1, none⟩ = some (.int .i64 e3)) ∧ (OwnR clC 2 28 X A8.heap.size (.slice ua9 Z3.length uc9) Z3) ∧ (X.cell? ⟨p10, 0, none⟩ = some (.int .i64 a3) ∧ X.cell? ⟨p10, 1, none⟩ = some (.int .i64 e3)) ∧ (ElsAt clC 2 X (.slice ua10 Z3.length uc10) Z3)) := fun X k => by
    have b := (k.block _ (lt_of_block bO) (fun f => f)).trans bO
    obtain ⟨o5, r5, o6, r6, o7, r7, o8, r8, o9, r9⟩ := J.out X (kk.trans k)
    exact ⟨o5, r5, o6, r6, o7, r7, o8, r8, o9, r9, ⟨by rw [cell_of_block b]; rfl, by rw [cell_of_block b]; rfl⟩, hU2.keeps cl_ne k⟩
  replace K4 := K4.trans kk
  clear hU hU2 kU kO kk bO
  obtain ⟨g, z, f, h, s, k, mm, mh, cf, mi, mt⟩ := H.out A10 K4
  obtain ⟨o5, r5, o6, r6, o7, r7, o8, r8, o9, r9, o10, r10⟩ := J.out A10 (Keeps.refl _ _)
  have hZ1 := HC.out.l1
  have hZ2 := HC.out.l2
  have hZ3 := HC.out.l3
  have SM1 := fun X (k : Keeps (fun _ => False) A10 X) => rsamew_any (.slice ua5 Z1.length uc5) (.slice ua6 Z1.length uc6) Z1 hZ1 X ((r5.els wC_len).keeps wC_ne k) ((r6.els wC_len).keeps wC_ne k)
  have SM2 := fun X (k : Keeps (fun _ => False) A10 X) => rsamei_any (.slice ua7 Z2.length uc7) (.slice ua8 Z2.length uc8) Z2 hZ2 X ((r7.els nC_len).keeps nC_ne k) (r8.keeps nC_ne k)
  have SM3 := fun X (k : Keeps (fun _ => False) A10 X) => rsamec_any (.slice ua9 Z3.length uc9) (.slice ua10 Z3.length uc10) Z3 hZ3 X ((r9.els cl_len).keeps cl_ne k) (r10.keeps cl_ne k)
  have SM4 := fun X (k : Keeps (fun _ => False) A10 X) => rsamec_any (.slice (some ⟨yb, 0, none⟩) ws.length yc) (.slice sa ws.length sc) ws (by omega) X (mt.keeps cl_ne k) (s.keeps cl_ne k)
  have HS1 : Hid (∀ X, _ → _) := SM1
  have HS2 : Hid (∀ X, _ → _) := SM2
  have HS3 : Hid (∀ X, _ → _) := SM3
  have HS4 : Hid (∀ X, _ → _) := SM4
  have H99 : Hid (∀ X, Keeps (fun _ => False) A10 X → X.cell? ⟨yb, ws.length * 2, none⟩ = some (.int .u64 991)) := fun X k => by
    obtain ⟨g', o', q1, q2⟩ := (mi.keeps cl_ne k).at ws.length (by simp)
    simp only [Option.some.injEq, Addr.mk.injEq, and_true] at q1
    obtain ⟨rfl, rfl⟩ := q1
    have := q2 0 (.int .u64 991) (by simp)
    simpa using this
  rw [hA] at o5 o6 o7 o8 o9 o10
  rw [hp] at o10
  obtain ⟨x50, x51⟩ := o5
  obtain ⟨x60, x61⟩ := o6
  obtain ⟨x70, x71⟩ := o7
  obtain ⟨x80, x81⟩ := o8
  obtain ⟨x90, x91⟩ := o9
  obtain ⟨x00, x01⟩ := o10
  have he1 : (a1 == a1 && e1 == e1) = true := by simp
  have he2 : (a2 == a2 && e2 == e2) = true := by simp
  have he3 : (a3 == a3 && e3 == e3) = true := by simp
  have S1 := HS1.out A10 (Keeps.refl _ _)
  clear SM1 SM2 SM3 SM4 g z f h s k mm mh cf mi mt r5 r6 r7 r8 r9 r10 HS1
  go_wp2_with fail
  rw [← hA]
  try rw [← hp]
  clear x50 x51 x60 x61 x70 x71 x80 x81 x90 x91 x00 x01 hA hp
  refine S1.mono ?_
  rintro ex v1 ⟨rfl, y1⟩
  clear S1
  have S1 := HS2.out v1 y1
  go_wp2_with fail
  refine S1.mono ?_
  rintro ex v2 ⟨rfl, y2⟩
  clear S1 HS2
  replace y2 := y1.trans y2
  have S1 := HS3.out v2 y2
  go_wp2_with fail
  refine S1.mono ?_
  rintro ex v3 ⟨rfl, y3⟩
  clear S1 HS3 y1
  replace y3 := y2.trans y3
  have S1 := HS4.out v3 y3
  have x99 := H99.out v3 y3
  have hyl : (ws.length : Int) < ((ws.length + 1 : Nat) : Int) := by omega
  have hyl2 : (ws.length : Int) < (ws.length : Int) + 1 := by omega
  have hy0 : (0 : Int) ≤ (ws.length : Int) := by omega
  go_wp2_with fail
  refine S1.mono ?_
  rintro ex v4 ⟨rfl, y4⟩
  clear S1 HS4 H99 x99 y2
  replace y4 := y3.trans y4
  clear y3
  obtain ⟨o5, r5, o6, r6, o7, r7, o8, r8, o9, r9, o10, r10⟩ := J.out v4 y4
  have HZ : Hid (∀ X, Keeps (fun q => (Value.slice ua5 Z1.length uc5).ownBlock = some q ∨ (Value.slice ua7 Z2.length uc7).ownBlock = some q ∨ (Value.slice ua9 Z3.length uc9).ownBlock = some q) v4 X → (Gv X) ∧ (2 ≤ X.heap.size) ∧ (WsAt X (.slice fa F.length fc) F) ∧ (EvsAt X (.slice ha L.length hc) L) ∧ (ElsAt clC 2 X (.slice sa ws.length sc) ws) ∧ (Keeps (fun _ => False) w X) ∧ (ElsAt Ev.cl 6 X (.slice mb (L.length + 1) mc) (L ++ [mrkO])) ∧ (EvsAt X (.slice mb L.length mc) L) ∧ (WsAt X (.slice xa F.length xc) F) ∧ (ElsAt clC 2 X (.slice (some ⟨yb, 0, none⟩) (ws.length + 1) yc) (ws ++ [(991, 0)])) ∧ (ElsAt clC 2 X (.slice (some ⟨yb, 0, none⟩) ws.length yc) ws) ∧ OwnR wC 1 26 X A5.heap.size (.slice ua6 Z1.length uc6) Z1) := fun X kx => by
    have kq := (K4.trans y4).young kx (fun q e => by
      rcases e with e | e | e
      · exact (R5.out q e).1
      · have := (R7.out q e).1; omega
      · have := (R9.out q e).1; omega)
    obtain ⟨g, z, f, h, s, k, mm, mh, cf, mi, mt⟩ := H.out X kq
    exact ⟨g, z, f, h, s, k, mm, mh, cf, mi, mt, r6.keeps kx (fun g hg e => by
      have h6 := R6.out g hg
      rcases e with e | e | e
      · have := R5.out g e; omega
      · have := R7.out g e; omega
      · have := R9.out g e; omega)⟩
  have O1 : Hid (∃ M : List Int, M.length = Z1.length ∧ OwnR wC 1 26 v4 w4.heap.size (.slice ua5 Z1.length uc5) M) := ⟨Z1, rfl, r5⟩
  clear o5 o6 o7 o8 o9 o10 r5 r6 r8 r10 J H y4
  go_wp2_with fail
  go_loopw [24] (fun u wr => ∃ i : Nat, u = .int .i64 i ∧ i ≤ Z1.length ∧ Hid (∃ M : List Int, M.length = Z1.length ∧ OwnR wC 1 26 wr w4.heap.size (.slice ua5 Z1.length uc5) M) ∧ Keeps (fun q => (Value.slice ua5 Z1.length uc5).ownBlock = some q) v4 wr) (fun u _ => Z1.length - (intOf u).toNat)
  case atStart => exact ⟨0, rfl, Nat.zero_le _, O1, Keeps.refl _ _⟩
  case round =>
    clear O1
    obtain ⟨i, rfl, hi, hM, kr⟩ := hrel
    have hwi : IntKind.i64.wrap ((i : Int) + 1) = (i : Int) + 1 := by rw [IntKind.wrap_i64]; omega
    by_cases hlt : i < Z1.length
    · have hii : (i : Int) < Z1.length := by omega
      have hi0 : (0 : Int) ≤ i := by omega
      obtain ⟨M, hMl, hMo⟩ := hM.out
      obtain ⟨g, cp, cur, hv, -, hgb, hcz⟩ := hMo.at (by omega)
      simp only [Value.slice.injEq] at hv
      obtain ⟨rfl, -, rfl⟩ := hv
      have hiM : i < M.length := by omega
      have q2 := hMo.set wC_len i 0 99 (.int .u64 99) hiM (by decide) rfl
      simp only [Nat.mul_one, Nat.add_zero] at q2
      have x0 : wr.cell? ⟨g, i, none⟩ = some (cur[i]'(by omega)) := by rw [cell_of_block hgb]; exact Array.getElem?_eq_getElem _
      have f0 : wr.frozen? ⟨g, i, none⟩ = false := frozen_of_block hgb _
      generalize cur[i]'(by omega) = xx at x0
      have HF : Hid (∃ M : List Int, M.length = Z1.length ∧ OwnR wC 1 26 (wr.setCell ⟨g, i, none⟩ (.int .u64 99)) w4.heap.size (.slice (some ⟨g, 0, none⟩) Z1.length uc5) M) := ⟨_, by simp [hMl], q2⟩
      have KF := kr.trans ((Keeps.refl (fun q => (Value.slice (some ⟨g, 0, none⟩) Z1.length uc5).ownBlock = some q) wr).setCell (p := ⟨g, i, none⟩) (.inr rfl) (.int .u64 99))
      clear q2
      clear hM hMo hMl hgb hcz kr
      go_wp2_with fail
      go_roundw
      · exact ⟨i + 1, by simp, by omega, HF, KF⟩
      · simp [intOf]; omega
    · have hii : ¬ (i : Int) < Z1.length := by omega
      have hiN : i = Z1.length := by omega
      subst hiN
      clear hM
      generalize wr = V1 at *
      have HK2 : Hid (∀ X, Keeps (fun q => (Value.slice ua7 Z2.length uc7).ownBlock = some q) V1 X → Keeps (fun q => (Value.slice ua5 Z1.length uc5).ownBlock = some q ∨ (Value.slice ua7 Z2.length uc7).ownBlock = some q ∨ (Value.slice ua9 Z3.length uc9).ownBlock = some q) v4 X) := fun X k => (kr.mono (fun q _ e => .inl e)).trans (k.mono (fun q _ e => .inr (.inl e)))
      have r7' := r7.keeps kr (fun g hg e => by have := R7.out g hg; have := R5.out g e; omega)
      have r9' := r9.keeps kr (fun g hg e => by have := R9.out g hg; have := R5.out g e; omega)
      have HE2 : Hid (∀ X, Keeps (fun q => (Value.slice ua7 Z2.length uc7).ownBlock = some q) V1 X → OwnR clC 2 28 X A8.heap.size (.slice ua9 Z3.length uc9) Z3) := fun X k => r9'.keeps k (fun g hg e => by have := R9.out g hg; have := R7.out g e; omega)
      have O2 : Hid (∃ M : List Int, M.length = Z2.length ∧ OwnR nC 1 3 V1 A6.heap.size (.slice ua7 Z2.length uc7) M) := ⟨Z2, rfl, r7'⟩
      clear r7 r9 r7' r9' kr
      go_wp2_with fail
      go_loopw [25] (fun u wr => ∃ i : Nat, u = .int .i64 i ∧ i ≤ Z2.length ∧ Hid (∃ M : List Int, M.length = Z2.length ∧ OwnR nC 1 3 wr A6.heap.size (.slice ua7 Z2.length uc7) M) ∧ Keeps (fun q => (Value.slice ua7 Z2.length uc7).ownBlock = some q) V1 wr) (fun u _ => Z2.length - (intOf u).toNat)
      case atStart => exact ⟨0, rfl, Nat.zero_le _, O2, Keeps.refl _ _⟩
      case round =>
        clear O2
        obtain ⟨i, rfl, hi, hM, kr⟩ := hrel
        have hwi : IntKind.i64.wrap ((i : Int) + 1) = (i : Int) + 1 := by rw [IntKind.wrap_i64]; omega
        by_cases hlt : i < Z2.length
        · have hii : (i : Int) < Z2.length := by omega
          have hi0 : (0 : Int) ≤ i := by omega
          obtain ⟨M, hMl, hMo⟩ := hM.out
          obtain ⟨g, cp, cur, hv, -, hgb, hcz⟩ := hMo.at (by omega)
          simp only [Value.slice.injEq] at hv
          obtain ⟨rfl, -, rfl⟩ := hv
          have hiM : i < M.length := by omega
          have q2 := hMo.set nC_len i 0 (-9) (.int .i64 (-9)) hiM (by decide) rfl
          simp only [Nat.mul_one, Nat.add_zero] at q2
          have x0 : wr.cell? ⟨g, i, none⟩ = some (cur[i]'(by omega)) := by rw [cell_of_block hgb]; exact Array.getElem?_eq_getElem _
          have f0 : wr.frozen? ⟨g, i, none⟩ = false := frozen_of_block hgb _
          generalize cur[i]'(by omega) = xx at x0
          have HF : Hid (∃ M : List Int, M.length = Z2.length ∧ OwnR nC 1 3 (wr.setCell ⟨g, i, none⟩ (.int .i64 (-9))) A6.heap.size (.slice (some ⟨g, 0, none⟩) Z2.length uc7) M) := ⟨_, by simp [hMl], q2⟩
          have KF := kr.trans ((Keeps.refl (fun q => (Value.slice (some ⟨g, 0, none⟩) Z2.length uc7).ownBlock = some q) wr).setCell (p := ⟨g, i, none⟩) (.inr rfl) (.int .i64 (-9)))
          clear q2
          clear hM hMo hMl hgb hcz kr
          go_wp2_with fail
          go_roundw
          · exact ⟨i + 1, by simp, by omega, HF, KF⟩
          · simp [intOf]; omega
        · have hii : ¬ (i : Int) < Z2.length := by omega
          have hiN : i = Z2.length := by omega
          subst hiN
          clear hM
          generalize wr = V2 at *
          have HK3 : Hid (∀ X, Keeps (fun q => (Value.slice ua9 Z3.length uc9).ownBlock = some q) V2 X → Keeps (fun q => (Value.slice ua5 Z1.length uc5).ownBlock = some q ∨ (Value.slice ua7 Z2.length uc7).ownBlock = some q ∨ (Value.slice ua9 Z3.length uc9).ownBlock = some q) v4 X) := fun X k => (HK2.out V2 kr).trans (k.mono (fun q _ e => .inr (.inr e)))
          have O3 : Hid (∃ M : List (Int × Int), M.length = Z3.length ∧ OwnR clC 2 28 V2 A8.heap.size (.slice ua9 Z3.length uc9) M) := ⟨Z3, rfl, HE2.out V2 kr⟩
          clear HK2 HE2 kr
          go_wp2_with fail
          go_loopw [26] (fun u wr => ∃ i : Nat, u = .int .i64 i ∧ i ≤ Z3.length ∧ Hid (∃ M : List (Int × Int), M.length = Z3.length ∧ OwnR clC 2 28 wr A8.heap.size (.slice ua9 Z3.length uc9) M) ∧ Keeps (fun q => (Value.slice ua9 Z3.length uc9).ownBlock = some q) V2 wr) (fun u _ => Z3.length - (intOf u).toNat)
          case atStart => exact ⟨0, rfl, Nat.zero_le _, O3, Keeps.refl _ _⟩
          case round =>
            clear O3
            obtain ⟨i, rfl, hi, hM, kr⟩ := hrel
            have hwi : IntKind.i64.wrap ((i : Int) + 1) = (i : Int) + 1 := by rw [IntKind.wrap_i64]; omega
            by_cases hlt : i < Z3.length
            · have hii : (i : Int) < Z3.length := by omega
              have hi0 : (0 : Int) ≤ i := by omega
              obtain ⟨M, hMl, hMo⟩ := hM.out
              obtain ⟨g, cp, cur, hv, -, hgb, hcz⟩ := hMo.at (by omega)
              simp only [Value.slice.injEq] at hv
              obtain ⟨rfl, -, rfl⟩ := hv
              have hiM : i < M.length := by omega
              have q2 := hMo.setC i (0, 0) hiM
              have hlt2 : i * 2 + 1 < cur.size := by omega
              have x0 : wr.cell? ⟨g, i * 2, none⟩ = some (cur[i * 2]'(by omega)) := by rw [cell_of_block hgb]; exact Array.getElem?_eq_getElem _
              have x1 : wr.cell? ⟨g, i * 2 + 1, none⟩ = some (cur[i * 2 + 1]'hlt2) := by rw [cell_of_block hgb]; exact Array.getElem?_eq_getElem _
              have f0 : wr.frozen? ⟨g, i * 2, none⟩ = false := frozen_of_block hgb _
              have f1 : wr.frozen? ⟨g, i * 2 + 1, none⟩ = false := frozen_of_block hgb _
              generalize cur[i * 2]'(by omega) = xx at x0
              generalize cur[i * 2 + 1]'hlt2 = xy at x1
              have HF : Hid (∃ M : List (Int × Int), M.length = Z3.length ∧ OwnR clC 2 28 ((wr.setCell ⟨g, i * 2, none⟩ (.int .u64 0)).setCell ⟨g, i * 2 + 1, none⟩ (.int .u64 0)) A8.heap.size (.slice (some ⟨g, 0, none⟩) Z3.length uc9) M) := ⟨_, by simp [hMl], q2⟩
              have KF := kr.trans (((Keeps.refl (fun q => (Value.slice (some ⟨g, 0, none⟩) Z3.length uc9).ownBlock = some q) wr).setCell (p := ⟨g, i * 2, none⟩) (.inr rfl) (.int .u64 0)).setCell (p := ⟨g, i * 2 + 1, none⟩) (.inr rfl) (.int .u64 0))
              clear q2 hlt2
              clear hM hMo hMl hgb hcz kr
              go_wp2_with fail
              go_roundw
              · exact ⟨i + 1, by simp, by omega, HF, KF⟩
              · simp [intOf]; omega
            · have hii : ¬ (i : Int) < Z3.length := by omega
              have hiN : i = Z3.length := by omega
              subst hiN
              clear hM
              have kx := HK3.out wr kr
              obtain ⟨g, z, f, h, s, k, mm, mh, cf, mi, mt, rb⟩ := HZ.out wr kx
              have kE := kr
              generalize wr = Y at *
              have S1 := HC.out.pb Y (.slice xa F.length xc) (.slice mb L.length mc) cf mh g z
              clear g z f h s k mm mh cf mi mt rb
              unfold AnO odV at S1
              go_wp2_with fail
              refine S1.mono ?_
              rintro ex w11 ⟨u11, rfl, hU, kU⟩
              clear S1
              have kO := (Keeps.refl (fun _ => False) w11).alloc (.cells #[.int .i64 a1, .int .i64 e1] 31)
              obtain ⟨A11, hA⟩ : ∃ A, A = w11.alloc (.cells #[.int .i64 a1, .int .i64 e1] 31) := ⟨_, rfl⟩
              obtain ⟨p11, hp⟩ : ∃ p, p = w11.heap.size := ⟨_, rfl⟩
              rw [← hA] at kO
              have kk := kU.trans kO
              have hU2 := (hU.keeps kO (fun _ _ f => f)).els wC_len
              obtain ⟨ua11, uc11, rfl⟩ := hU.form
              obtain ⟨g, z, f, h, s, k, mm, mh, cf, mi, mt, rb⟩ := HZ.out A11 (kx.trans (kk.mono (fun _ _ f => f.elim)))
              have S1 := rsamew_any (.slice ua11 Z1.length uc11) (.slice ua6 Z1.length uc6) Z1 HC.out.l1 A11 hU2 (rb.els wC_len)
              clear g z f h s k mm mh cf mi mt rb hU hU2 kU kO
              go_wp2_with fail
              rw [← hA]
              try rw [← hp]
              clear hA hp
              refine S1.mono ?_
              rintro ex y1 ⟨rfl, c1⟩
              clear S1
              obtain ⟨g, z, f, h, s, k, mm, mh, cf, mi, mt, rb⟩ := HZ.out y1 (kx.trans ((kk.trans c1).mono (fun _ _ f => f.elim)))
              have S1 := leftO_any (.slice ha L.length hc) L mb mc hmc y1 mm h.els (by omega) (.slice xa F.length xc) (.slice fa F.length fc) F (by omega) cf f
              clear g z f h s k mm mh cf mi mt rb
              go_wp2_with fail
              refine S1.mono ?_
              rintro ex y2 ⟨rfl, c2⟩
              clear S1
              obtain ⟨g, z, f, h, s, k, mm, mh, cf, mi, mt, rb⟩ := HZ.out y2 (kx.trans (((kk.trans c1).trans c2).mono (fun _ _ f => f.elim)))
              have S1 := known_any y2 g z
              have HKW : Hid (Keeps (fun _ => False) w y2) := k
              clear g z f h s k mm mh cf mi mt rb
              go_wp2_with fail
              refine S1.mono ?_
              rintro ex y3 ⟨rfl, c3⟩
              clear S1
              go_wp2_with fail
              go_ret
              exact ⟨rfl, HKW.out.trans c3⟩
end Go.Proofs.YthmiainhaebjiaaGreatDoor
