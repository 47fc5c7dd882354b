
/-
  LogsRedo where the logs are made: its walk. The statement itself is not proved here.
-/
import Derived.Test.YtbgnlenhncbceaaDoorRdoIn
import Derived.Test.YtbgnlenhncbceaaDoorWorks
namespace Go.Proofs.YtbgnlenhncbceaaDoor
open Go.RowKit Go.Shelf
attribute [local go_sem] Oper.semAt_some

set_option maxRecDepth 100000 in
set_option maxHeartbeats 16000000 in
theorem rdo_in (most : Nat) (hm : most ≤ 1048576) (a : Option Addr) (n c : Nat) (w : World) (hw : Tz w) (ho : OpsAt w a n) (hn : n * 64 ≤ 140737488351232) :
    Calls Tryd.prog 4 #[.int .i64 most, .slice a n c] w fun e w' => e = .returned (.bool true) ∧ Keeps (fun _ => False) w w' := by
  have hd0 : decide ((most : Int) < 0) = false := by simp
  have hd1 : decide ((1048576 : Int) < (most : Int)) = false := by simp; omega
  have hwp := hw.pos
  go_enter Tryd.func4, Tryd.ntmps4
  go_wp2_with fail
  refine (log_new most hm _ hwp).mono ?_
  rintro e X1 ⟨r0, rfl, ⟨O0, h0, n0⟩, k0⟩
  have hwp1 : 0 < X1.heap.size := by have := k0.size; omega
  go_wp2_with fail
  refine (log_new most hm _ hwp1).mono ?_
  rintro e X2 ⟨r1, rfl, ⟨O1, h1, n1⟩, k1⟩
  obtain ⟨f0, hf0⟩ : ∃ f : Nat → Sd, f = fun i => if i = 0 then ⟨r0, X2.heap.size + 1, [], O0, fun q => q = X2.heap.size + 1⟩ else ⟨r1, X2.heap.size + 1 + 1, [], O1, fun q => q = X2.heap.size + 1 + 1⟩ := ⟨_, rfl⟩
  have hI0 := stt_init most w X1 X2 hw r0 r1 O0 O1 h0 n0 k0 h1 n1 k1 f0 hf0
  have ho0 : obO f0 = .cells #[.pointer (some ⟨r0, 0, none⟩), .pointer (some ⟨r1, 0, none⟩)] 58 (0, 0) := by rw [hf0]; rfl
  have ho1 : obR f0 = .cells #[.pointer (some ⟨X2.heap.size + 1, 0, none⟩), .pointer (some ⟨X2.heap.size + 1 + 1, 0, none⟩)] 37 (0, 0) := by rw [hf0]; rfl
  rw [ho0, ho1] at hI0
  unfold boR at hI0
  have hI : Hid _ := hI0
  clear h0 k0 h1 k1 n0 n1 hI0 ho0 ho1 hf0 hwp1
  go_wp2_with (go_at_call 8; refine (num_any _ _).mono ?_; rintro e w' ⟨rfl, hw'⟩; replace hw' := hw'.symm; subst hw')
  go_loopw [11, 12] (fun tl i wr => ∃ (k nn : Nat) (f : Nat → Sd) (T : List Tld) (W : Nat → List Int), k ≤ n ∧ i = .int .i64 k ∧ Stt w wr most X2.heap.size (X2.heap.size + 1 + 1 + 1) k k nn f tl T W) (fun _ i _ => n - (intOf i).toNat)
  case atStart => exact ⟨0, _, f0, _, _, by omega, rfl, hI.out⟩
  case round =>
    clear hI hd0 hd1
    obtain ⟨k, nn, f, T, W, hk, rfl, hD⟩ := hrel
    by_cases hlt : k < n
    · have hlt' : (k : Int) < (n : Int) := by omega
      obtain ⟨g, off, rfl, o, hgood, e0, e1, e2, e3, e4, e5⟩ := ho k hlt
      obtain ⟨kd, on, ad, wd, m, ac, cc, cs⟩ := o
      obtain ⟨had, hlies, hcb⟩ := hgood
      have hc : Reads w (.slice ac cs.length cc) cs := ⟨by simp only at hcb; omega, hlies⟩
      have kp := hD.kp
      replace e0 := keeps_cellr kp (fun f => f) e0
      replace e1 := keeps_cellr kp (fun f => f) e1
      replace e2 := keeps_cellr kp (fun f => f) e2
      replace e3 := keeps_cellr kp (fun f => f) e3
      replace e4 := keeps_cellr kp (fun f => f) e4
      replace e5 := keeps_cellr kp (fun f => f) e5
      obtain ⟨i, j, hij, hix, hjx⟩ := idx2r on
      have hi : i < 2 := by omega
      have hj : j < 2 := by omega
      have hi0 : (0 : Int) ≤ (i : Int) := by omega
      have hi1 : (i : Int) < 2 := by omega
      have hj0 : (0 : Int) ≤ (j : Int) := by omega
      have hj1 : (j : Int) < 2 := by omega
      have hlO := lt_of_block hD.bo
      have hlR := lt_of_block hD.br
      have hk1 : k + 1 < 4398046511104 := by omega
      have hkT : T.length + 1 < 2199023255554 := by have := hD.tk; omega
      have hD1 := hD.op (opR kd on ad wd m ac cs.length cc)
      have hb1 := alloc_block wr (opR kd on ad wd m ac cs.length cc)
      have q0 := cell_of_block hb1 0
      have q1 := cell_of_block hb1 1
      have q5 := cell_of_block hb1 5
      simp only [List.getElem?_toArray, List.getElem?_cons_zero, List.getElem?_cons_succ] at q0 q1 q5
      unfold opR at q0 q1 q5
      simp only [] at had hcb
      clear hD kp hlies
      cases hkd : (kd == 6)
      · cases hkd3 : (kd == 3)
        · have hpl := rplay hD1 hb1 hij had hk1
          have m1 := hD1.cells hi
          have hS0 : (fun W => W.cell? ⟨X2.heap.size, i, none⟩ = some (.pointer (some ⟨(f i).r, 0, none⟩)) ∧ W.cell? ⟨X2.heap.size + 1 + 1 + 1, i, none⟩ = some (.pointer (some ⟨(f i).b, 0, none⟩)) ∧ W.cell? ⟨wr.heap.size, 0, none⟩ = some (.int .i64 kd) ∧ W.cell? ⟨wr.heap.size, 1, none⟩ = some (.int .i64 on) ∧ W.cell? ⟨wr.heap.size, 2, none⟩ = some (.int .u64 ad) ∧ W.cell? ⟨wr.heap.size, 3, none⟩ = some (.int .u64 wd) ∧ W.cell? ⟨wr.heap.size, 4, none⟩ = some (.int .i64 m) ∧ W.cell? ⟨wr.heap.size, 5, none⟩ = some (.slice ac cs.length cc)) (wr.alloc (opR kd on ad wd m ac cs.length cc)) := ⟨m1.1, m1.2, cell_of_block hb1 0, cell_of_block hb1 1, cell_of_block hb1 2, cell_of_block hb1 3, cell_of_block hb1 4, cell_of_block hb1 5⟩
          dsimp only at hS0
          unfold opR at hS0 hpl
          clear hD1 hb1 ho
          go_wp2_with fail
          go_region_held3 (fun W => W.cell? ⟨X2.heap.size, i, none⟩ = some (.pointer (some ⟨(f i).r, 0, none⟩)) ∧ W.cell? ⟨X2.heap.size + 1 + 1 + 1, i, none⟩ = some (.pointer (some ⟨(f i).b, 0, none⟩)) ∧ W.cell? ⟨wr.heap.size, 0, none⟩ = some (.int .i64 kd) ∧ W.cell? ⟨wr.heap.size, 1, none⟩ = some (.int .i64 on) ∧ W.cell? ⟨wr.heap.size, 2, none⟩ = some (.int .u64 ad) ∧ W.cell? ⟨wr.heap.size, 3, none⟩ = some (.int .u64 wd) ∧ W.cell? ⟨wr.heap.size, 4, none⟩ = some (.int .i64 m) ∧ W.cell? ⟨wr.heap.size, 5, none⟩ = some (.slice ac cs.length cc)) (first | assumption | (exact hS0) | go_keep) ((go_at_call 24; refine (hpl _ (by exact ⟨rfl, rfl, rfl, rfl⟩)).mono ?_; rintro e w4 ⟨rfl, hSS, hH⟩))
          obtain ⟨f4, hD4⟩ := hH.out
          clear hpl hH hSS hS0 m1
          go_wp2_with fail
          go_roundw
          case rel => exact ⟨k + 1, _, f4, _, _, by omega, by go_num, hD4.up⟩
          case measure => simp [intOf]; omega
        · have hcY : Reads (wr.alloc (opR kd on ad wd m ac cs.length cc)) (.slice ac cs.length cc) cs := ⟨hc.1, hc.2.keeps hD1.kp⟩
          have hLe := lend_any _ cs (wr.alloc (opR kd on ad wd m ac cs.length cc)) hcY.2 hcb
          have mi := (hD1.cells hi).1
          have HD1 : Hid (Stt w (wr.alloc (opR kd on ad wd m ac cs.length cc)) most X2.heap.size (X2.heap.size + 1 + 1 + 1) k k wr.heap.size f u11 T W) := hD1
          have HB1 : Hid ((wr.alloc (opR kd on ad wd m ac cs.length cc)).heap[wr.heap.size]? = some (opR kd on ad wd m ac cs.length cc)) := hb1
          clear hD1 hb1 hcY ho
          unfold opR at mi hLe
          go_wp2_with fail
          refine hLe.mono ?_
          rintro e Y1 ⟨gl, cl, rfl, hown, ky1⟩
          have hD2 := HD1.out.same ky1
          have hb2 := ky1.old HB1.out (fun f => f)
          have hlent := lent_of hown
          have hc2 : Reads Y1 (.slice ac cs.length cc) cs := ⟨hc.1, hc.2.keeps hD2.kp⟩
          have hOv := over_tld (hD2.pr i hi) _ cs (hlent.reads hc.1) hcb
          have mi := (hD2.cells hi).1
          have mb : Y1.cell? ⟨wr.heap.size, 0, none⟩ = some (.int .i64 kd) := cell_of_block hb2 0
          have HD2 : Hid (Stt w Y1 most X2.heap.size (X2.heap.size + 1 + 1 + 1) k k wr.heap.size f u11 T W) := hD2
          have HB2 : Hid (Y1.heap[wr.heap.size]? = some (opR kd on ad wd m ac cs.length cc)) := hb2
          have HL2 : Hid (LentAt Y1 gl cl cs) := hlent
          have HC2 : Hid (Reads Y1 (.slice ac cs.length cc) cs) := hc2
          clear hLe hD2 hb2 hlent hc2 hown ky1 HD1 HB1 e0 e1 e2 e3 e4 e5 q0 q1 q5
          go_wp2_with fail
          refine hOv.mono ?_
          rintro e Y2 ⟨a2, N2, t2, E2, ws2, rfl, ht2, hr2, hE2, hg2, hz2, hsz2, ky2⟩
          have HRO : Hid (∀ W0, Like W0 Y2 → Calls Tryd.prog 21 #[.pointer (some ⟨(f i).b, 0, none⟩), .slice ac cs.length cc] W0 fun e w' => ∃ a3 c3, e = .returned (.tuple #[.slice a3 ws2.length c3, .int .i64 E2]) ∧ (fun W : World => W.cell? ⟨X2.heap.size + 1 + 1 + 1, i, none⟩ = some (.pointer (some ⟨(f i).b, 0, none⟩)) ∧ W.cell? ⟨wr.heap.size, 5, none⟩ = some (.slice ac cs.length cc)) w' ∧ Hid (Reads w' (.slice a3 ws2.length c3) ws2 ∧ Keeps (fun _ => False) Y2 w')) := fun W0 hl => by
            have hk0 := hl.keeps (Keeps.refl (fun _ => False) Y2)
            have hD0 := (HD2.out.same ky2).same hk0
            refine (over_ref (hD0.pr i hi) (by have := hD0.ln i hi; omega) _ cs ⟨hc.1, (HC2.out.2.keeps ky2).keeps hk0⟩ hcb hE2).mono ?_
            rintro e w' ⟨a3, c3, rfl, h1, h2⟩
            have hD9 := hD0.same h2
            have hb9 := h2.old (hk0.old (ky2.old HB2.out (fun f => f)) (fun f => f)) (fun f => f)
            exact ⟨a3, c3, rfl, ⟨(hD9.cells hi).2, cell_of_block hb9 5⟩, h1, hk0.trans h2⟩
          have hS3 : (fun W : World => W.cell? ⟨X2.heap.size + 1 + 1 + 1, i, none⟩ = some (.pointer (some ⟨(f i).b, 0, none⟩)) ∧ W.cell? ⟨wr.heap.size, 5, none⟩ = some (.slice ac cs.length cc)) Y2 := ⟨((HD2.out.same ky2).cells hi).2, cell_of_block (ky2.old HB2.out (fun f => f)) 5⟩
          have HT2 : Hid (tv t2 = .slice a2 N2 N2 ∧ (∀ g, t2.1 = some g → Y2.heap[g]? = some (.cells (u64s ws2) 38 (0, 0)) ∧ ws2.length = t2.2 ∧ Y1.heap.size ≤ g) ∧ (t2.1 = none → t2.2 = 0) ∧ t2.2 * 8 ≤ 140737488351232) := ⟨ht2, hg2, hz2, hsz2⟩
          have HR2 : Hid (Reads Y2 (.slice a2 N2 N2) ws2) := hr2
          have HK2 : Hid (Keeps (fun _ => False) Y1 Y2) := ky2
          dsimp only at hS3
          clear hOv hE2 hg2 hz2 hsz2 ky2 hr2 mi mb ht2
          generalize hNW : ws2.length = NW at *
          have HNW : Hid (ws2.length = NW) := hNW
          clear hNW
          go_wp2_with fail
          go_region_held3 (fun W : World => W.cell? ⟨X2.heap.size + 1 + 1 + 1, i, none⟩ = some (.pointer (some ⟨(f i).b, 0, none⟩)) ∧ W.cell? ⟨wr.heap.size, 5, none⟩ = some (.slice ac cs.length cc)) (first | assumption | (exact hS3) | go_keep) ((go_at_call 21; refine (HRO.out _ (by exact ⟨rfl, rfl, rfl, rfl⟩)).mono ?_; rintro e Y3 ⟨a3, c3, rfl, hS4, hH3⟩))
          obtain ⟨hr3, hk3⟩ := hH3.out
          have hWd := words_like (.slice a2 N2 N2) (.slice a3 NW c3) ws2 Y3 ⟨HR2.out.1, HR2.out.2.keeps hk3⟩ hr3
          have HK3 : Hid (Keeps (fun _ => False) Y2 Y3) := hk3
          clear hr3 hk3 hH3 HRO hS3
          go_wp2_with (go_at_call 8; refine (num_any _ _).mono ?_; rintro e w' ⟨rfl, hw'⟩; replace hw' := hw'.symm; subst hw')
          refine hWd.mono ?_
          rintro e Y4 ⟨rfl, hl4⟩
          have m5 : Y4.cell? ⟨wr.heap.size, 5, none⟩ = some (.slice ac cs.length cc) := (hl4.cell _).trans hS4.2
          have hk4 := hl4.keeps HK3.out
          have hKe := kept_any gl cl (.slice ac cs.length cc) cs Y4 ((HL2.out.keeps HK2.out).keeps hk4) ⟨hc.1, (HC2.out.2.keeps HK2.out).keeps hk4⟩
          have HK4 : Hid (Keeps (fun _ => False) Y2 Y4) := hk4
          clear hWd hl4 hS4 hk4
          go_wp2_with fail
          refine hKe.mono ?_
          rintro e Y5 ⟨rfl, hl5⟩
          have hk5 := hl5.keeps HK4.out
          obtain ⟨tl', Y6, HR, kt, T', W', hD6⟩ := HD2.out.tell (t := t2) (ws := ws2) (X' := Y5) (fun g hg => ⟨hk5.old (HT2.out.2.1 g hg).1 (fun f => f), HNW.out.trans (HT2.out.2.1 g hg).2.1, (HT2.out.2.1 g hg).2.2⟩) HT2.out.2.2.1 HT2.out.2.2.2 (HK2.out.trans hk5) hkT hwp
          rw [HT2.out.1] at HR
          have hb6 : Y6.heap[wr.heap.size]? = some (opR kd on ad wd m ac cs.length cc) := kt.old (hk5.old (HK2.out.old HB2.out (fun f => f)) (fun f => f)) (fun e => by obtain ⟨cq, hcq⟩ := HD2.out.row.kind e; exact absurd (kind_ne hcq HB2.out) (by decide))
          clear hKe hl5 hk5 kt m5 HK4 HK3 HK2 HL2 HC2 HT2 HR2 HNW HD2 HB2
          have hpl := rplay hD6 hb6 hij had hk1
          have m1 := hD6.cells hi
          have hS0 : (fun W => W.cell? ⟨X2.heap.size, i, none⟩ = some (.pointer (some ⟨(f i).r, 0, none⟩)) ∧ W.cell? ⟨X2.heap.size + 1 + 1 + 1, i, none⟩ = some (.pointer (some ⟨(f i).b, 0, none⟩)) ∧ W.cell? ⟨wr.heap.size, 0, none⟩ = some (.int .i64 kd) ∧ W.cell? ⟨wr.heap.size, 1, none⟩ = some (.int .i64 on) ∧ W.cell? ⟨wr.heap.size, 2, none⟩ = some (.int .u64 ad) ∧ W.cell? ⟨wr.heap.size, 3, none⟩ = some (.int .u64 wd) ∧ W.cell? ⟨wr.heap.size, 4, none⟩ = some (.int .i64 m) ∧ W.cell? ⟨wr.heap.size, 5, none⟩ = some (.slice ac cs.length cc)) Y6 := ⟨m1.1, m1.2, cell_of_block hb6 0, cell_of_block hb6 1, cell_of_block hb6 2, cell_of_block hb6 3, cell_of_block hb6 4, cell_of_block hb6 5⟩
          dsimp only at hS0
          unfold opR at hb6
          clear hD6 hb6
          go_wp2_with (at_builtin; refine wpList_append_run rfl _ _ 59 rfl rfl rfl HR.out ?_; clear HR)
          go_region_held3 (fun W => W.cell? ⟨X2.heap.size, i, none⟩ = some (.pointer (some ⟨(f i).r, 0, none⟩)) ∧ W.cell? ⟨X2.heap.size + 1 + 1 + 1, i, none⟩ = some (.pointer (some ⟨(f i).b, 0, none⟩)) ∧ W.cell? ⟨wr.heap.size, 0, none⟩ = some (.int .i64 kd) ∧ W.cell? ⟨wr.heap.size, 1, none⟩ = some (.int .i64 on) ∧ W.cell? ⟨wr.heap.size, 2, none⟩ = some (.int .u64 ad) ∧ W.cell? ⟨wr.heap.size, 3, none⟩ = some (.int .u64 wd) ∧ W.cell? ⟨wr.heap.size, 4, none⟩ = some (.int .i64 m) ∧ W.cell? ⟨wr.heap.size, 5, none⟩ = some (.slice ac cs.length cc)) (first | assumption | (exact hS0) | go_keep) ((go_at_call 24; refine (hpl _ (by exact ⟨rfl, rfl, rfl, rfl⟩)).mono ?_; rintro e w4 ⟨rfl, hSS, hH⟩))
          obtain ⟨f4, hD4⟩ := hH.out
          clear hpl hH hSS hS0 m1
          go_wp2_with fail
          go_roundw
          case rel => exact ⟨k + 1, _, f4, _, _, by omega, by go_num, hD4⟩
          case measure => simp [intOf]; omega
      · have hkd3 : (kd == 3) = false := by simp at hkd ⊢; omega
        have hpj := hD1.pr j hj
        have hlen : (f j).L.length < 4398046511104 := by have := hD1.ln j hj; omega
        have hcp := log_copy _ most _ _ _ hpj.lg hpj.tz hlen
        have mj := (hD1.cells hj).1
        have HD1 : Hid (Stt w (wr.alloc (opR kd on ad wd m ac cs.length cc)) most X2.heap.size (X2.heap.size + 1 + 1 + 1) k k wr.heap.size f u11 T W) := hD1
        have HB1 : Hid ((wr.alloc (opR kd on ad wd m ac cs.length cc)).heap[wr.heap.size]? = some (opR kd on ad wd m ac cs.length cc)) := hb1
        clear hD1 hb1 ho hpj
        unfold opR at mj hcp
        go_wp2_with fail
        refine hcp.mono ?_
        rintro e Y1 ⟨r', Ow', rfl, hr', nr', ky1⟩
        have hDy := HD1.out.same ky1
        have sz1 := ky1.size
        have sz0 : (wr.alloc (opR kd on ad wd m ac cs.length cc)).heap.size = wr.heap.size + 1 := by simp
        have y1 := (hDy.cells hi).1
        have y2 := frozen_of_block hDy.bo i
        have kS : Keeps (fun k => k = X2.heap.size) Y1 (Y1.setCell ⟨X2.heap.size, i, none⟩ (.pointer (some ⟨r', 0, none⟩))) := (Keeps.refl (fun k => k = X2.heap.size) Y1).setCell (p := ⟨X2.heap.size, i, none⟩) (.inr rfl) _
        have hbR2 := kS.old hDy.br (by omega)
        have y3 : (Y1.setCell ⟨X2.heap.size, i, none⟩ (.pointer (some ⟨r', 0, none⟩))).cell? ⟨X2.heap.size + 1 + 1 + 1, j, none⟩ = some (.pointer (some ⟨(f j).b, 0, none⟩)) := keeps_cellr kS (a := ⟨X2.heap.size + 1 + 1 + 1, j, none⟩) (by show ¬ X2.heap.size + 1 + 1 + 1 = X2.heap.size; omega) (hDy.cells hj).2
        obtain ⟨uj, hrfj, hOfj⟩ := (hDy.pr j hj).rf
        have hrf1 : RefAt (Y1.setCell ⟨X2.heap.size, i, none⟩ (.pointer (some ⟨r', 0, none⟩))) (f j).b most (f j).L uj := hrfj.kept kS ((hDy.out j _ hj (.inr ((hOfj _).2 (.inl rfl)))).1) (fun g hg => (hDy.out j g hj (.inr ((hOfj g).2 (.inr hg)))).1)
        have hrc := ref_copy _ most _ _ _ hrf1 hlen
        have HCS : Hid (∀ Y2 b' u', RefAt Y2 b' most (f j).L u' → (Y1.setCell ⟨X2.heap.size, i, none⟩ (.pointer (some ⟨r', 0, none⟩))).heap.size ≤ b' → (∀ g, u'.ownBlock = some g → (Y1.setCell ⟨X2.heap.size, i, none⟩ (.pointer (some ⟨r', 0, none⟩))).heap.size ≤ g) → Keeps (fun _ => False) (Y1.setCell ⟨X2.heap.size, i, none⟩ (.pointer (some ⟨r', 0, none⟩))) Y2 → ∃ f', Stt w (Y2.setCell ⟨X2.heap.size + 1 + 1 + 1, i, none⟩ (.pointer (some ⟨b', 0, none⟩))) most X2.heap.size (X2.heap.size + 1 + 1 + 1) k k wr.heap.size f' u11 T W ∧ (f' i).r = r' ∧ (f' i).b = b') := fun Y2 b' u' h1 h2 h3 h4 => HD1.out.copy hij (lt_of_block HB1.out) hwp hr' nr' ky1 h1 h2 h3 h4
        have HBY : Hid ((Y1.setCell ⟨X2.heap.size, i, none⟩ (.pointer (some ⟨r', 0, none⟩))).heap[wr.heap.size]? = some (opR kd on ad wd m ac cs.length cc)) := kS.old (ky1.old HB1.out (fun f => f)) (by omega)
        have HBR : Hid ((Y1.setCell ⟨X2.heap.size, i, none⟩ (.pointer (some ⟨r', 0, none⟩))).heap[X2.heap.size + 1 + 1 + 1]? = some (obR f)) := hbR2
        clear hcp hDy sz1 sz0 kS hbR2 hrf1 ky1 hr' nr' HD1 HB1 mj e0 e1 e2 e3 e4 e5 q0 q1 q5 hrfj hOfj
        go_wp2_with fail
        refine hrc.mono ?_
        rintro e Y2 ⟨b', u', rfl, hrf2, nb', nu', ky2⟩
        obtain ⟨f', hD3, er, eb⟩ := HCS.out Y2 b' u' hrf2 nb' nu' ky2
        have hbR2 : Y2.heap[X2.heap.size + 1 + 1 + 1]? = some (obR f) := ky2.old HBR.out (fun f => f)
        have y4 : Y2.cell? ⟨X2.heap.size + 1 + 1 + 1, i, none⟩ = some (.pointer (some ⟨(f i).b, 0, none⟩)) := by rw [cell_of_block hbR2]; have hi2 : i = 0 ∨ i = 1 := (by omega); rcases hi2 with rfl | rfl <;> rfl
        have y5 := frozen_of_block hbR2 i
        have kR : Keeps (fun k => k = X2.heap.size + 1 + 1 + 1) Y2 (Y2.setCell ⟨X2.heap.size + 1 + 1 + 1, i, none⟩ (.pointer (some ⟨b', 0, none⟩))) := (Keeps.refl (fun k => k = X2.heap.size + 1 + 1 + 1) Y2).setCell (p := ⟨X2.heap.size + 1 + 1 + 1, i, none⟩) (.inr rfl) _
        have hb3 : (Y2.setCell ⟨X2.heap.size + 1 + 1 + 1, i, none⟩ (.pointer (some ⟨b', 0, none⟩))).heap[wr.heap.size]? = some (opR kd on ad wd m ac cs.length cc) := kR.old (ky2.old HBY.out (fun f => f)) (by omega)
        have y6 := (hD3.cells hi).1
        rw [er] at y6
        have y7 := cell_of_block hb3 0
        simp only [List.getElem?_toArray, List.getElem?_cons_zero] at y7
        clear hrc HCS HBY HBR hrf2 nb' nu' ky2 hbR2 kR y1 y2 y3
        have HD3 : Hid (Stt w (Y2.setCell ⟨X2.heap.size + 1 + 1 + 1, i, none⟩ (.pointer (some ⟨b', 0, none⟩))) most X2.heap.size (X2.heap.size + 1 + 1 + 1) k k wr.heap.size f' u11 T W) := hD3
        have HB3 : Hid ((Y2.setCell ⟨X2.heap.size + 1 + 1 + 1, i, none⟩ (.pointer (some ⟨b', 0, none⟩))).heap[wr.heap.size]? = some (opR kd on ad wd m ac cs.length cc)) := hb3
        clear hD3 hb3
        go_wp2_with fail
        have hD3 := HD3.out
        have hb3 := HB3.out
        clear HD3 HB3 y4 y5 y6 y7
        generalize Y2.setCell ⟨X2.heap.size + 1 + 1 + 1, i, none⟩ (.pointer (some ⟨b', 0, none⟩)) = Y3 at *
        have hpl := rplay hD3 hb3 hij had hk1
        have m1 := hD3.cells hi; rw [er, eb] at m1
        have hS0 : (fun W => W.cell? ⟨X2.heap.size, i, none⟩ = some (.pointer (some ⟨r', 0, none⟩)) ∧ W.cell? ⟨X2.heap.size + 1 + 1 + 1, i, none⟩ = some (.pointer (some ⟨b', 0, none⟩)) ∧ W.cell? ⟨wr.heap.size, 0, none⟩ = some (.int .i64 kd) ∧ W.cell? ⟨wr.heap.size, 1, none⟩ = some (.int .i64 on) ∧ W.cell? ⟨wr.heap.size, 2, none⟩ = some (.int .u64 ad) ∧ W.cell? ⟨wr.heap.size, 3, none⟩ = some (.int .u64 wd) ∧ W.cell? ⟨wr.heap.size, 4, none⟩ = some (.int .i64 m) ∧ W.cell? ⟨wr.heap.size, 5, none⟩ = some (.slice ac cs.length cc)) Y3 := ⟨m1.1, m1.2, cell_of_block hb3 0, cell_of_block hb3 1, cell_of_block hb3 2, cell_of_block hb3 3, cell_of_block hb3 4, cell_of_block hb3 5⟩
        dsimp only at hS0
        rw [er, eb] at hpl
        unfold opR at hb3
        clear hD3 hb3 er eb
        skip
        go_region_held3 (fun W => W.cell? ⟨X2.heap.size, i, none⟩ = some (.pointer (some ⟨r', 0, none⟩)) ∧ W.cell? ⟨X2.heap.size + 1 + 1 + 1, i, none⟩ = some (.pointer (some ⟨b', 0, none⟩)) ∧ W.cell? ⟨wr.heap.size, 0, none⟩ = some (.int .i64 kd) ∧ W.cell? ⟨wr.heap.size, 1, none⟩ = some (.int .i64 on) ∧ W.cell? ⟨wr.heap.size, 2, none⟩ = some (.int .u64 ad) ∧ W.cell? ⟨wr.heap.size, 3, none⟩ = some (.int .u64 wd) ∧ W.cell? ⟨wr.heap.size, 4, none⟩ = some (.int .i64 m) ∧ W.cell? ⟨wr.heap.size, 5, none⟩ = some (.slice ac cs.length cc)) (first | assumption | (exact hS0) | go_keep) ((go_at_call 24; refine (hpl _ (by exact ⟨rfl, rfl, rfl, rfl⟩)).mono ?_; rintro e w4 ⟨rfl, hSS, hH⟩))
        obtain ⟨f4, hD4⟩ := hH.out
        clear hpl hH hSS hS0 m1
        go_wp2_with fail
        go_roundw
        case rel => exact ⟨k + 1, _, f4, _, _, by omega, by go_num, hD4.up⟩
        case measure => simp [intOf]; omega
    · have hlt' : ¬ (k : Int) < (n : Int) := by omega
      clear ho
      have hkT : T.length < 2199023255553 := by have := hD.tk; omega
      have HST : Hid (∀ Z, Fin2 w Z most X2.heap.size (X2.heap.size + 1 + 1 + 1) f → (fun W : World => W.cell? ⟨X2.heap.size, 0, none⟩ = some (.pointer (some ⟨(f 0).r, 0, none⟩)) ∧ W.cell? ⟨X2.heap.size, 1, none⟩ = some (.pointer (some ⟨(f 1).r, 0, none⟩)) ∧ W.cell? ⟨X2.heap.size + 1 + 1 + 1, 0, none⟩ = some (.pointer (some ⟨(f 0).b, 0, none⟩)) ∧ W.cell? ⟨X2.heap.size + 1 + 1 + 1, 1, none⟩ = some (.pointer (some ⟨(f 1).b, 0, none⟩))) Z) := fun Z hZ => ⟨(hZ.cells (i := 0) (by omega)).1, (hZ.cells (i := 1) (by omega)).1, (hZ.cells (i := 0) (by omega)).2, (hZ.cells (i := 1) (by omega)).2⟩
      have HAp : Hid (∀ W0, Like W0 wr → Calls Tryd.prog 25 #[u11] W0 fun e w' => e = .returned (.bool true) ∧ (fun W : World => W.cell? ⟨X2.heap.size, 0, none⟩ = some (.pointer (some ⟨(f 0).r, 0, none⟩)) ∧ W.cell? ⟨X2.heap.size, 1, none⟩ = some (.pointer (some ⟨(f 1).r, 0, none⟩)) ∧ W.cell? ⟨X2.heap.size + 1 + 1 + 1, 0, none⟩ = some (.pointer (some ⟨(f 0).b, 0, none⟩)) ∧ W.cell? ⟨X2.heap.size + 1 + 1 + 1, 1, none⟩ = some (.pointer (some ⟨(f 1).b, 0, none⟩))) w' ∧ Hid (Fin2 w w' most X2.heap.size (X2.heap.size + 1 + 1 + 1) f)) := fun W0 hl => by
        have hD0 := hD.same (hl.keeps (Keeps.refl (fun _ => False) wr))
        refine (apart_any u11 T W W0 hD0.told hD0.trow hkT).mono ?_
        rintro e w' ⟨rfl, hk2⟩
        have hF := hD0.fin hwp hk2
        exact ⟨rfl, HST.out _ hF, hF⟩
      have HAll0 : Hid (∀ Z W0, Fin2 w Z most X2.heap.size (X2.heap.size + 1 + 1 + 1) f → Like W0 Z → Calls Tryd.prog 26 #[.pointer (some ⟨(f 0).r, 0, none⟩)] W0 fun e w' => ∃ bx, e = .returned (.func (.func 58) #[] #[.pointer (some ⟨bx, 0, none⟩)]) ∧ (fun W : World => W.cell? ⟨X2.heap.size, 0, none⟩ = some (.pointer (some ⟨(f 0).r, 0, none⟩)) ∧ W.cell? ⟨X2.heap.size, 1, none⟩ = some (.pointer (some ⟨(f 1).r, 0, none⟩)) ∧ W.cell? ⟨X2.heap.size + 1 + 1 + 1, 0, none⟩ = some (.pointer (some ⟨(f 0).b, 0, none⟩)) ∧ W.cell? ⟨X2.heap.size + 1 + 1 + 1, 1, none⟩ = some (.pointer (some ⟨(f 1).b, 0, none⟩))) w' ∧ Hid (w'.heap[bx]? = some (Obj.cells #[.func (.func 48) #[.pointer (some ⟨(f 0).r, 0, none⟩)] #[]] 69 (0, 0)) ∧ Fin2 w w' most X2.heap.size (X2.heap.size + 1 + 1 + 1) f)) := fun Z W0 hZ hl => by
        have hZ0 := hZ.same (hl.keeps (Keeps.refl (fun _ => False) Z))
        refine (all_redo _ W0).mono ?_
        rintro e w' ⟨rfl, rfl⟩
        have hZ1 := hZ0.same ((Keeps.refl (fun _ => False) W0).alloc (.cells #[.func (.func 48) #[.pointer (some ⟨(f 0).r, 0, none⟩)] #[]] 69))
        exact ⟨_, rfl, HST.out _ hZ1, alloc_block _ _, hZ1⟩
      have HRed0 : Hid (∀ Z bx W0, Fin2 w Z most X2.heap.size (X2.heap.size + 1 + 1 + 1) f → Z.heap[bx]? = some (Obj.cells #[.func (.func 48) #[.pointer (some ⟨(f 0).r, 0, none⟩)] #[]] 69 (0, 0)) → Like W0 Z → Calls Tryd.prog 27 #[.pointer (some ⟨(f 0).b, 0, none⟩)] W0 fun e w' => ∃ vo, e = .returned vo ∧ (fun W : World => W.cell? ⟨X2.heap.size, 0, none⟩ = some (.pointer (some ⟨(f 0).r, 0, none⟩)) ∧ W.cell? ⟨X2.heap.size, 1, none⟩ = some (.pointer (some ⟨(f 1).r, 0, none⟩)) ∧ W.cell? ⟨X2.heap.size + 1 + 1 + 1, 0, none⟩ = some (.pointer (some ⟨(f 0).b, 0, none⟩)) ∧ W.cell? ⟨X2.heap.size + 1 + 1 + 1, 1, none⟩ = some (.pointer (some ⟨(f 1).b, 0, none⟩))) w' ∧ Hid (w'.heap[bx]? = some (Obj.cells #[.func (.func 48) #[.pointer (some ⟨(f 0).r, 0, none⟩)] #[]] 69 (0, 0)) ∧ Pairs w' vo (redoE (f 0).L) ∧ Fin2 w w' most X2.heap.size (X2.heap.size + 1 + 1 + 1) f)) := fun Z bx W0 hZ hbx hl => by
        have hk0 := hl.keeps (Keeps.refl (fun _ => False) Z)
        have hZ0 := hZ.same hk0
        obtain ⟨u, hra, _⟩ := (hZ0.pr 0 (by omega)).rf
        refine (ref_redo _ most _ u W0 hra (by have := hD.ln 0 (by omega); omega)).mono ?_
        rintro e w' ⟨vo, rfl, hrow, _, hk2⟩
        have hZ1 := hZ0.same hk2
        exact ⟨vo, rfl, HST.out _ hZ1, hk2.old (hk0.old hbx (fun f => f)) (fun f => f), hrow.pairs, hZ1⟩
      have HWalk0 : Hid (∀ Z bx vo W0, Fin2 w Z most X2.heap.size (X2.heap.size + 1 + 1 + 1) f → Z.heap[bx]? = some (Obj.cells #[.func (.func 48) #[.pointer (some ⟨(f 0).r, 0, none⟩)] #[]] 69 (0, 0)) → Pairs Z vo (redoE (f 0).L) → Like W0 Z → Calls Tryd.prog 14 #[.func (.func 58) #[] #[.pointer (some ⟨bx, 0, none⟩)], vo, .int .i64 0] W0 fun e w' => e = .returned (.bool true) ∧ (fun W : World => W.cell? ⟨X2.heap.size, 0, none⟩ = some (.pointer (some ⟨(f 0).r, 0, none⟩)) ∧ W.cell? ⟨X2.heap.size, 1, none⟩ = some (.pointer (some ⟨(f 1).r, 0, none⟩)) ∧ W.cell? ⟨X2.heap.size + 1 + 1 + 1, 0, none⟩ = some (.pointer (some ⟨(f 0).b, 0, none⟩)) ∧ W.cell? ⟨X2.heap.size + 1 + 1 + 1, 1, none⟩ = some (.pointer (some ⟨(f 1).b, 0, none⟩))) w' ∧ Hid (Fin2 w w' most X2.heap.size (X2.heap.size + 1 + 1 + 1) f)) := fun Z bx vo W0 hZ hbx hp hl => by
        have hk0 := hl.keeps (Keeps.refl (fun _ => False) Z)
        have hZ0 := hZ.same hk0
        refine (pr_walk (hZ0.pr 0 (by omega)) (m := 0) (hk0.old hbx (fun f => f)) (hp.keeps hk0)).mono ?_
        rintro e w' ⟨rfl, h2⟩
        have hZ1 := hZ0.same h2
        exact ⟨rfl, HST.out _ hZ1, hZ1⟩
      have HAll1 : Hid (∀ Z W0, Fin2 w Z most X2.heap.size (X2.heap.size + 1 + 1 + 1) f → Like W0 Z → Calls Tryd.prog 26 #[.pointer (some ⟨(f 1).r, 0, none⟩)] W0 fun e w' => ∃ bx, e = .returned (.func (.func 58) #[] #[.pointer (some ⟨bx, 0, none⟩)]) ∧ (fun W : World => W.cell? ⟨X2.heap.size, 0, none⟩ = some (.pointer (some ⟨(f 0).r, 0, none⟩)) ∧ W.cell? ⟨X2.heap.size, 1, none⟩ = some (.pointer (some ⟨(f 1).r, 0, none⟩)) ∧ W.cell? ⟨X2.heap.size + 1 + 1 + 1, 0, none⟩ = some (.pointer (some ⟨(f 0).b, 0, none⟩)) ∧ W.cell? ⟨X2.heap.size + 1 + 1 + 1, 1, none⟩ = some (.pointer (some ⟨(f 1).b, 0, none⟩))) w' ∧ Hid (w'.heap[bx]? = some (Obj.cells #[.func (.func 48) #[.pointer (some ⟨(f 1).r, 0, none⟩)] #[]] 69 (0, 0)) ∧ Fin2 w w' most X2.heap.size (X2.heap.size + 1 + 1 + 1) f)) := fun Z W0 hZ hl => by
        have hZ0 := hZ.same (hl.keeps (Keeps.refl (fun _ => False) Z))
        refine (all_redo _ W0).mono ?_
        rintro e w' ⟨rfl, rfl⟩
        have hZ1 := hZ0.same ((Keeps.refl (fun _ => False) W0).alloc (.cells #[.func (.func 48) #[.pointer (some ⟨(f 1).r, 0, none⟩)] #[]] 69))
        exact ⟨_, rfl, HST.out _ hZ1, alloc_block _ _, hZ1⟩
      have HRed1 : Hid (∀ Z bx W0, Fin2 w Z most X2.heap.size (X2.heap.size + 1 + 1 + 1) f → Z.heap[bx]? = some (Obj.cells #[.func (.func 48) #[.pointer (some ⟨(f 1).r, 0, none⟩)] #[]] 69 (0, 0)) → Like W0 Z → Calls Tryd.prog 27 #[.pointer (some ⟨(f 1).b, 0, none⟩)] W0 fun e w' => ∃ vo, e = .returned vo ∧ (fun W : World => W.cell? ⟨X2.heap.size, 0, none⟩ = some (.pointer (some ⟨(f 0).r, 0, none⟩)) ∧ W.cell? ⟨X2.heap.size, 1, none⟩ = some (.pointer (some ⟨(f 1).r, 0, none⟩)) ∧ W.cell? ⟨X2.heap.size + 1 + 1 + 1, 0, none⟩ = some (.pointer (some ⟨(f 0).b, 0, none⟩)) ∧ W.cell? ⟨X2.heap.size + 1 + 1 + 1, 1, none⟩ = some (.pointer (some ⟨(f 1).b, 0, none⟩))) w' ∧ Hid (w'.heap[bx]? = some (Obj.cells #[.func (.func 48) #[.pointer (some ⟨(f 1).r, 0, none⟩)] #[]] 69 (0, 0)) ∧ Pairs w' vo (redoE (f 1).L) ∧ Fin2 w w' most X2.heap.size (X2.heap.size + 1 + 1 + 1) f)) := fun Z bx W0 hZ hbx hl => by
        have hk0 := hl.keeps (Keeps.refl (fun _ => False) Z)
        have hZ0 := hZ.same hk0
        obtain ⟨u, hra, _⟩ := (hZ0.pr 1 (by omega)).rf
        refine (ref_redo _ most _ u W0 hra (by have := hD.ln 1 (by omega); omega)).mono ?_
        rintro e w' ⟨vo, rfl, hrow, _, hk2⟩
        have hZ1 := hZ0.same hk2
        exact ⟨vo, rfl, HST.out _ hZ1, hk2.old (hk0.old hbx (fun f => f)) (fun f => f), hrow.pairs, hZ1⟩
      have HWalk1 : Hid (∀ Z bx vo W0, Fin2 w Z most X2.heap.size (X2.heap.size + 1 + 1 + 1) f → Z.heap[bx]? = some (Obj.cells #[.func (.func 48) #[.pointer (some ⟨(f 1).r, 0, none⟩)] #[]] 69 (0, 0)) → Pairs Z vo (redoE (f 1).L) → Like W0 Z → Calls Tryd.prog 14 #[.func (.func 58) #[] #[.pointer (some ⟨bx, 0, none⟩)], vo, .int .i64 0] W0 fun e w' => e = .returned (.bool true) ∧ (fun W : World => W.cell? ⟨X2.heap.size, 0, none⟩ = some (.pointer (some ⟨(f 0).r, 0, none⟩)) ∧ W.cell? ⟨X2.heap.size, 1, none⟩ = some (.pointer (some ⟨(f 1).r, 0, none⟩)) ∧ W.cell? ⟨X2.heap.size + 1 + 1 + 1, 0, none⟩ = some (.pointer (some ⟨(f 0).b, 0, none⟩)) ∧ W.cell? ⟨X2.heap.size + 1 + 1 + 1, 1, none⟩ = some (.pointer (some ⟨(f 1).b, 0, none⟩))) w' ∧ Hid (Fin2 w w' most X2.heap.size (X2.heap.size + 1 + 1 + 1) f)) := fun Z bx vo W0 hZ hbx hp hl => by
        have hk0 := hl.keeps (Keeps.refl (fun _ => False) Z)
        have hZ0 := hZ.same hk0
        refine (pr_walk (hZ0.pr 1 (by omega)) (m := 0) (hk0.old hbx (fun f => f)) (hp.keeps hk0)).mono ?_
        rintro e w' ⟨rfl, h2⟩
        have hZ1 := hZ0.same h2
        exact ⟨rfl, HST.out _ hZ1, hZ1⟩
      have HNo : Hid (∀ Z W0, Fin2 w Z most X2.heap.size (X2.heap.size + 1 + 1 + 1) f → Like W0 Z → Calls Tryd.prog 17 #[.pointer none] W0 fun e w' => e = .returned (.bool true) ∧ (fun W : World => W.cell? ⟨X2.heap.size, 0, none⟩ = some (.pointer (some ⟨(f 0).r, 0, none⟩)) ∧ W.cell? ⟨X2.heap.size, 1, none⟩ = some (.pointer (some ⟨(f 1).r, 0, none⟩)) ∧ W.cell? ⟨X2.heap.size + 1 + 1 + 1, 0, none⟩ = some (.pointer (some ⟨(f 0).b, 0, none⟩)) ∧ W.cell? ⟨X2.heap.size + 1 + 1 + 1, 1, none⟩ = some (.pointer (some ⟨(f 1).b, 0, none⟩))) w' ∧ Hid (Fin2 w w' most X2.heap.size (X2.heap.size + 1 + 1 + 1) f)) := fun Z W0 hZ hl => by
        have hZ0 := hZ.same (hl.keeps (Keeps.refl (fun _ => False) Z))
        refine (noRedo_true none W0 (.inl rfl)).mono ?_
        rintro e w' ⟨rfl, h2⟩
        have hZ1 := hZ0.same h2
        exact ⟨rfl, HST.out _ hZ1, hZ1⟩
      have HNo2 : Hid (∀ Z W0, Fin2 w Z most X2.heap.size (X2.heap.size + 1 + 1 + 1) f → Like W0 (Z.alloc (.cells #[.int .i64 0, .slice none 0 0, .pointer none, .slice none 0 0] 57)) → Calls Tryd.prog 17 #[.pointer (some ⟨Z.heap.size, 0, none⟩)] W0 fun e w' => e = .returned (.bool true) ∧ (fun W : World => W.cell? ⟨X2.heap.size, 0, none⟩ = some (.pointer (some ⟨(f 0).r, 0, none⟩)) ∧ W.cell? ⟨X2.heap.size, 1, none⟩ = some (.pointer (some ⟨(f 1).r, 0, none⟩)) ∧ W.cell? ⟨X2.heap.size + 1 + 1 + 1, 0, none⟩ = some (.pointer (some ⟨(f 0).b, 0, none⟩)) ∧ W.cell? ⟨X2.heap.size + 1 + 1 + 1, 1, none⟩ = some (.pointer (some ⟨(f 1).b, 0, none⟩))) w' ∧ Hid (Fin2 w w' most X2.heap.size (X2.heap.size + 1 + 1 + 1) f)) := fun Z W0 hZ hl => by
        have hZ0 := hZ.same (hl.keeps ((Keeps.refl (fun _ => False) Z).alloc (.cells #[.int .i64 0, .slice none 0 0, .pointer none, .slice none 0 0] 57)))
        have hb2 := alloc_block Z (.cells #[.int .i64 0, .slice none 0 0, .pointer none, .slice none 0 0] 57)
        refine (noRedo_true (some ⟨Z.heap.size, 0, none⟩) W0 (.inr ⟨_, rfl, by rw [hl.heap]; exact hb2⟩)).mono ?_
        rintro e w' ⟨rfl, h2⟩
        have hZ1 := hZ0.same h2
        exact ⟨rfl, HST.out _ hZ1, hZ1⟩
      have HWk : Hid (∀ Z W0, Fin2 w Z most X2.heap.size (X2.heap.size + 1 + 1 + 1) f → Like W0 Z → Calls Tryd.prog 10 #[] W0 fun e w' => e = .returned (.bool true) ∧ (fun W : World => W.cell? ⟨X2.heap.size, 0, none⟩ = some (.pointer (some ⟨(f 0).r, 0, none⟩)) ∧ W.cell? ⟨X2.heap.size, 1, none⟩ = some (.pointer (some ⟨(f 1).r, 0, none⟩)) ∧ W.cell? ⟨X2.heap.size + 1 + 1 + 1, 0, none⟩ = some (.pointer (some ⟨(f 0).b, 0, none⟩)) ∧ W.cell? ⟨X2.heap.size + 1 + 1 + 1, 1, none⟩ = some (.pointer (some ⟨(f 1).b, 0, none⟩))) w' ∧ Hid (Fin2 w w' most X2.heap.size (X2.heap.size + 1 + 1 + 1) f)) := fun Z W0 hZ hl => by
        have hZ0 := hZ.same (hl.keeps (Keeps.refl (fun _ => False) Z))
        refine (works_any W0 (hZ0.pr 0 (by omega)).tz).mono ?_
        rintro e w' ⟨rfl, h2⟩
        have hZ1 := hZ0.same h2
        exact ⟨rfl, HST.out _ hZ1, hZ1⟩
      have hST0 : (fun W : World => W.cell? ⟨X2.heap.size, 0, none⟩ = some (.pointer (some ⟨(f 0).r, 0, none⟩)) ∧ W.cell? ⟨X2.heap.size, 1, none⟩ = some (.pointer (some ⟨(f 1).r, 0, none⟩)) ∧ W.cell? ⟨X2.heap.size + 1 + 1 + 1, 0, none⟩ = some (.pointer (some ⟨(f 0).b, 0, none⟩)) ∧ W.cell? ⟨X2.heap.size + 1 + 1 + 1, 1, none⟩ = some (.pointer (some ⟨(f 1).b, 0, none⟩))) wr := ⟨(hD.cells (i := 0) (by omega)).1, (hD.cells (i := 1) (by omega)).1, (hD.cells (i := 0) (by omega)).2, (hD.cells (i := 1) (by omega)).2⟩
      dsimp only at hST0
      clear HST hD
      go_wp2_with fail
      go_region_held3 (fun W : World => W.cell? ⟨X2.heap.size, 0, none⟩ = some (.pointer (some ⟨(f 0).r, 0, none⟩)) ∧ W.cell? ⟨X2.heap.size, 1, none⟩ = some (.pointer (some ⟨(f 1).r, 0, none⟩)) ∧ W.cell? ⟨X2.heap.size + 1 + 1 + 1, 0, none⟩ = some (.pointer (some ⟨(f 0).b, 0, none⟩)) ∧ W.cell? ⟨X2.heap.size + 1 + 1 + 1, 1, none⟩ = some (.pointer (some ⟨(f 1).b, 0, none⟩))) (first | assumption | (exact hST0) | go_keep) ((first
        | (go_at_call 26; refine (HAll1.out _ _ hH4.out (by exact ⟨rfl, rfl, rfl, rfl⟩)).mono ?_; rintro e Z5 ⟨bx1, rfl, hZ5, hH5⟩)
        | (go_at_call 26; refine (HAll0.out _ _ hH1.out (by exact ⟨rfl, rfl, rfl, rfl⟩)).mono ?_; rintro e Z2 ⟨bx0, rfl, hZ2, hH2⟩)
        | (go_at_call 27; refine (HRed1.out _ _ _ hH5.out.2 hH5.out.1 (by exact ⟨rfl, rfl, rfl, rfl⟩)).mono ?_; rintro e Z6 ⟨vo1, rfl, hZ6, hH6⟩)
        | (go_at_call 27; refine (HRed0.out _ _ _ hH2.out.2 hH2.out.1 (by exact ⟨rfl, rfl, rfl, rfl⟩)).mono ?_; rintro e Z3 ⟨vo0, rfl, hZ3, hH3⟩)
        | (go_at_call 14; refine (HWalk1.out _ _ _ _ hH6.out.2.2 hH6.out.1 hH6.out.2.1 (by exact ⟨rfl, rfl, rfl, rfl⟩)).mono ?_; rintro e Z7 ⟨rfl, hZ7, hH7⟩)
        | (go_at_call 14; refine (HWalk0.out _ _ _ _ hH3.out.2.2 hH3.out.1 hH3.out.2.1 (by exact ⟨rfl, rfl, rfl, rfl⟩)).mono ?_; rintro e Z4 ⟨rfl, hZ4, hH4⟩)
        | (go_at_call 17; refine (HNo2.out _ _ hH8.out (by exact ⟨rfl, rfl, rfl, rfl⟩)).mono ?_; rintro e Z9 ⟨rfl, hZ9, hH9⟩)
        | (go_at_call 17; refine (HNo.out _ _ hH7.out (by exact ⟨rfl, rfl, rfl, rfl⟩)).mono ?_; rintro e Z8 ⟨rfl, hZ8, hH8⟩)
        | (go_at_call 10; refine (HWk.out _ _ hH9.out (by exact ⟨rfl, rfl, rfl, rfl⟩)).mono ?_; rintro e Z10 ⟨rfl, hZ10, hH10⟩)
        | (go_at_call 25; refine (HAp.out _ (by exact ⟨rfl, rfl, rfl, rfl⟩)).mono ?_; rintro e Z1 ⟨rfl, hZ1, hH1⟩)))
      go_wp2_with fail
      go_ret
      exact ⟨rfl, hH10.out.kp⟩
end Go.Proofs.YtbgnlenhncbceaaDoor
