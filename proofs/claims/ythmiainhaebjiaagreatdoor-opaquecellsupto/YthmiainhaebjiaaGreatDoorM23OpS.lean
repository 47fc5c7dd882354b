/-
  No statement of the seat is proved here. (Several texts in one: OpS, OpT.)
-/
import Derived.Test.YthmiainhaebjiaaGreatDoorM22EvM

/- A walk of Check (layer 16) where a history is one here. No statement of the seat is proved here. -/
namespace Go.Proofs.YthmiainhaebjiaaGreatDoor
open Go.RowKit Go.Shelf

def atN (s : Sg) : Bool := decide (s.at_ < 0)
set_option maxRecDepth 100000 in
set_option maxHeartbeats 8000000 in
theorem atN_any (s : Sg) (w : World) : Calls Tryz.prog 37 #[.agg #[.int .i64 s.t.th, .int .i64 s.t.fi, .int .i64 s.t.la, .int .u64 s.t.sn, .int .i64 s.t.how, .int .i64 s.t.rd, .int .i64 s.t.wr, .int .i64 s.fr, .int .i64 s.up, .int .i64 s.at_]] w fun ex w' => ex = .returned (.bool (atN s)) ∧ Keeps (fun _ => False) w w' := by
  have k0 := (Keeps.refl (fun _ => False) w).alloc (.cells #[.int .i64 s.t.th, .int .i64 s.t.fi, .int .i64 s.t.la, .int .u64 s.t.sn, .int .i64 s.t.how, .int .i64 s.t.rd, .int .i64 s.t.wr, .int .i64 s.fr, .int .i64 s.up, .int .i64 s.at_] 56)
  unfold atN
  obtain ⟨⟨a, b, c, d, e, f, g⟩, h, i, j⟩ := s
  dsimp only at k0 ⊢
  go_enter Tryz.func37, Tryz.ntmps37
  go_wp2
  go_ret
  exact ⟨rfl, k0⟩
set_option maxRecDepth 100000 in
set_option maxHeartbeats 8000000 in
theorem idx_sight (v : Value) (L : List Sg) (hl : L.length ≤ 1100000) (w : World) (hv : ElsAt Sg.cl 10 w v L) : Calls Tryz.prog 36 #[v, .func (.func 37) #[] #[]] w fun ex w' => ex = .returned (.int .i64 (idxF atN L 0)) ∧ Keeps (fun _ => False) w w' := by
  have HV : Hid (∀ X, Keeps (fun _ => False) w X → ElsAt Sg.cl 10 X v L) := fun X k => hv.keeps sg_ne k
  obtain ⟨a1, cap1, rfl, hcap⟩ := hv.shape
  clear hv
  obtain ⟨z, hz⟩ : ∃ z, z = idxF atN L 0 := ⟨_, rfl⟩
  rw [← hz]
  have HZ : Hid (z = idxF atN L 0) := hz
  clear hz
  go_enter Tryz.func36, Tryz.ntmps36
  go_wp2_with fail
  go_loopw [8] (fun u wr => ∃ k : Nat, u = .int .i64 k ∧ k ≤ L.length ∧ Hid (z = idxF atN (L.drop k) k) ∧ Keeps (fun _ => False) w wr) (fun u _ => L.length - (intOf u).toNat)
  case atStart => exact ⟨0, rfl, Nat.zero_le _, HZ.out, Keeps.refl _ _⟩
  case round =>
    obtain ⟨k, rfl, hk, hh, kr⟩ := hrel
    by_cases hlt : k < L.length
    · have hki : (k : Int) < L.length := by omega
      have hk0 : (0 : Int) ≤ k := by omega
      obtain ⟨g, off, rfl, hc⟩ := (HV.out wr kr).at k hlt
      have PL := atN_any (L[k]) wr
      have hst := hh.out
      rw [List.drop_eq_getElem_cons hlt, idxF] at hst
      generalize hev : L[k]'hlt = s at *
      clear hev
      have x0 := hc 0 _ rfl
      have x1 := hc 1 _ rfl
      have x2 := hc 2 _ rfl
      have x3 := hc 3 _ rfl
      have x4 := hc 4 _ rfl
      have x5 := hc 5 _ rfl
      have x6 := hc 6 _ rfl
      have x7 := hc 7 _ rfl
      have x8 := hc 8 _ rfl
      have x9 := hc 9 _ rfl
      simp only [Nat.add_zero] at x0
      have HP : Hid (atN s = true ∨ atN s = false) := bool_cases2 _
      rcases HP.out with hp | hp
      · rw [if_pos hp] at hst
        rw [hp] at PL
        clear hp HP HZ hh hc
        have HF : Hid (z = (k : Int)) := hst
        clear hst
        go_wp2_with fail
        refine PL.mono ?_
        rintro ex w2 ⟨rfl, k2⟩
        go_wp2_with fail
        go_ret
        exact ⟨by rw [HF.out]; rfl, kr.trans k2⟩
      · rw [if_neg (by rw [hp]; exact Bool.false_ne_true)] at hst
        rw [hp] at PL
        clear hp HP HZ hh hc
        have HF : Hid (z = _) := hst
        clear hst
        go_wp2_with fail
        refine PL.mono ?_
        rintro ex w2 ⟨rfl, k2⟩
        have kk := kr.trans k2
        clear PL x0 x1 x2 x3 x4 x5 x6 x7 x8 x9 k2
        go_wp2_with fail
        go_roundw
        · exact ⟨k + 1, by simp, by omega, HF.out, kk⟩
        · simp [intOf]; omega
    · obtain rfl : k = L.length := by omega
      have HF : Hid (z = -1) := by have := hh.out; rw [List.drop_length, idxF] at this; exact this
      clear hh
      go_wp2_with fail
      go_ret
      exact ⟨by rw [HF.out]; rfl, kr⟩
theorem pua_wr {F : List Int} {T : List Ty} {X Y : List Bx} {l W : List Pt} (u : PuA F T X Y) (hX : X.map (·.p) = l) (hW : WrOf l W) : Y.map (·.p) = W := by
  refine wr_uniq (l := l) ⟨?_, ?_⟩ hW
  · rw [← hX]
    have := u.perm.map (·.p)
    rwa [show (X.filter fun x => x.p.wr).map (·.p) = (X.map (·.p)).filter (fun p => p.wr) by rw [List.filter_map]; rfl] at this
  · rw [List.pairwise_map]; exact u.up
set_option maxRecDepth 100000 in
set_option maxHeartbeats 8000000 in
theorem check_ok (va : Option Addr) (vc : Nat) (F : List Int) (v : Value) (L : List Ev) (hl : L.length ≤ 1050000) (w : World) (hv : EvsAt w v L) (hF : WsAt w (.slice va F.length vc) F) (hg : Gv w) (h8 : 2 ≤ w.heap.size) (hF0 : 0 < F.length) (hF1 : F.length ≤ 65536) (hz : (checkL L).2 = 0) (hp : idxF plainE L 0 = -1) (hm : idxF (missE F.length) L 0 = -1) (W : List Pt) (hW : WrOf (partsL L) W) :
    Calls Tryz.prog 19 #[.slice va F.length vc, v] w fun ex w' => ex = .returned (.tuple #[.int .i64 (idxF atN (sgK F W (triesL L) (partsL L) (triesL L).length) 0), .agg (odV (-1) 0)]) ∧ Keeps (fun _ => False) w w' := by
  have k0 := (Keeps.refl (fun _ => False) w).alloc (.cells (odV 0 0) 31)
  have b0 : (w.alloc (.cells (odV 0 0) 31)).heap[w.heap.size]? = some (.cells (odV 0 0) 31 (0, 0)) := (MapKept.heap_alloc w _).1
  have LK := look_ok va vc F v L hl (w.alloc (.cells (odV 0 0) 31)) (hv.keeps k0) (hF.keeps wC_ne k0) (hg.keeps k0) (by simp; omega) hF0 hF1 hz hp hm
  have hTl : (triesL L).length ≤ 1100000 := by
    have h1 := congrArg List.length (tries_parts hz)
    rw [List.length_map, List.length_map] at h1
    have := (pinv_parts L).len
    change (partsL L).length ≤ L.length at this
    omega
  have HTl : Hid ((triesL L).length ≤ 1100000) := hTl
  obtain ⟨a1, cap1, rfl, hcap⟩ := hv.els.shape
  unfold odV at k0 b0 LK
  clear hv hF hg hTl
  obtain ⟨res, hres⟩ : ∃ r, r = idxF atN (sgK F W (triesL L) (partsL L) (triesL L).length) 0 := ⟨_, rfl⟩
  rw [← hres]
  have HRes : Hid (res = idxF atN (sgK F W (triesL L) (partsL L) (triesL L).length) 0) := hres
  clear hres
  go_enter Tryz.func19, Tryz.ntmps19
  go_wp2_with fail
  refine LK.mono ?_
  rintro ex w1 ⟨pb, mb, b2, vT, vB, vW, X, Y, f, rfl, hPa, hX, hu, k1⟩
  clear LK
  have hYW := pua_wr hu hX hW
  have kA := (Keeps.refl (fun _ => False) w1).alloc (.cells #[.int .i64 (-1), .int .i64 0] 31)
  have bA := (MapKept.heap_alloc w1 (.cells #[.int .i64 (-1), .int .i64 0] 31)).1
  have bO := ((k1.trans kA).block _ (lt_of_block b0) (fun f => f)).trans b0
  have K1 := (k0.trans k1).trans kA
  have hPA := hPa.keeps kA
  have hlt := lt_of_block ((k1.block _ (lt_of_block b0) (fun f => f)).trans b0)
  rw [← hYW, ← hX] at HRes
  unfold odV
  go_wp2_with fail
  obtain ⟨ob7, hob⟩ : ∃ b, b = w1.heap.size := ⟨_, rfl⟩
  rw [← hob] at bA ⊢
  rw [← hob] at hlt
  generalize w1.alloc (.cells #[.int .i64 (-1), .int .i64 0] 31) = A at *
  clear hob kA k0 k1 b0 hPa
  have SG := sights_any pb mb b2 (.slice va F.length vc) vT vB vW F (triesL L) X Y f A.drew (hPA.keeps (Keeps.refl _ A).drew) hu
  have S0 : Keeps (fun q => q = w.heap.size) A (A.drew) ∧ (A.drew).cell? ⟨ob7, 0, none⟩ = some (.int .i64 (-1)) ∧ (A.drew).cell? ⟨ob7, 1, none⟩ = some (.int .i64 0) := ⟨(Keeps.refl _ A).drew, by rw [cell_of_block (w := A.drew) bA]; rfl, by rw [cell_of_block (w := A.drew) bA]; rfl⟩
  refine wp_held_end (S := fun W => Keeps (fun q => q = w.heap.size) A W ∧ W.cell? ⟨ob7, 0, none⟩ = some (.int .i64 (-1)) ∧ W.cell? ⟨ob7, 1, none⟩ = some (.int .i64 0)) 6 rfl hmxp ?_
  simp only [Array.replicate_succ, Array.replicate_zero, List.push_toArray, List.nil_append, List.cons_append]
  refine held_take (i := 0) (v := (.pointer (some ⟨pb, 0, none⟩))) 18 rfl rfl (by kernel_rfl) (by kernel_rfl) (by kernel_rfl) rfl (fun w' hw' => by obtain ⟨q0, q1, q2⟩ := hw'; go_simp) S0 ?_
  simp only [Act.put, List.setIfInBounds_toArray, List.set_cons_zero, List.set_cons_succ]
  refine held_take (i := 3) (v := (.agg #[.int .i64 (-1), .int .i64 0])) 21 rfl rfl (by kernel_rfl) (by kernel_rfl) (by kernel_rfl) rfl (fun w' hw' => by obtain ⟨q0, q1, q2⟩ := hw'; go_simp) S0 ?_
  simp only [Act.put, List.setIfInBounds_toArray, List.set_cons_zero, List.set_cons_succ]
  refine held_call (i := 1) (f := 35) (args := #[.pointer (some ⟨pb, 0, none⟩)]) 19 (by kernel_rfl) rfl rfl rfl (by go_simp) (SG.mono ?_)
  rintro ex w2 ⟨sv, rfl, hsv, k2⟩
  have S1 : Keeps (fun q => q = w.heap.size) A (w2) ∧ (w2).cell? ⟨ob7, 0, none⟩ = some (.int .i64 (-1)) ∧ (w2).cell? ⟨ob7, 1, none⟩ = some (.int .i64 0) := ⟨S0.1.trans (k2.mono fun _ _ f => f.elim), k2.cellB (fun f => f) S0.2.1, k2.cellB (fun f => f) S0.2.2⟩
  refine ⟨_, rfl, S1, ?_⟩
  simp only [Act.put, List.setIfInBounds_toArray, List.set_cons_zero, List.set_cons_succ]
  refine held_call (i := 2) (f := 36) (args := #[sv, .func (.func 37) #[] #[]]) 20 (by kernel_rfl) rfl rfl rfl (by go_simp) ((idx_sight sv _ (by rw [sgK_len]; exact HTl.out) w2 (hsv.els sg_len)).mono ?_)
  rintro ex w3 ⟨rfl, k3⟩
  have S2 : Keeps (fun q => q = w.heap.size) A (w3) ∧ (w3).cell? ⟨ob7, 0, none⟩ = some (.int .i64 (-1)) ∧ (w3).cell? ⟨ob7, 1, none⟩ = some (.int .i64 0) := ⟨S1.1.trans (k3.mono fun _ _ f => f.elim), k3.cellB (fun f => f) S1.2.1, k3.cellB (fun f => f) S1.2.2⟩
  refine ⟨_, rfl, S2, ?_⟩
  simp only [Act.put, List.setIfInBounds_toArray, List.set_cons_zero, List.set_cons_succ]
  refine held_take (i := 4) (v := (.int .i64 (idxF atN (sgK F (Y.map (·.p)) (triesL L) (X.map (·.p)) (triesL L).length) 0))) 4 rfl rfl (by kernel_rfl) (by kernel_rfl) (by kernel_rfl) rfl (fun w' hw' => by obtain ⟨q0, q1, q2⟩ := hw'; go_simp) S2 ?_
  simp only [Act.put, List.setIfInBounds_toArray, List.set_cons_zero, List.set_cons_succ]
  have S3 : Keeps (fun _ => False) A w3 := ((Keeps.refl (fun _ => False) A).drew.trans k2).trans k3
  have bO3 := (S3.block _ (lt_of_block bO) (fun f => f)).trans bO
  have c0 : w3.cell? ⟨w.heap.size, 0, none⟩ = some (.int .i64 0) := by rw [cell_of_block bO3]; rfl
  have c1 : w3.cell? ⟨w.heap.size, 1, none⟩ = some (.int .i64 0) := by rw [cell_of_block bO3]; rfl
  have f0 : w3.frozen? ⟨w.heap.size, 0, none⟩ = false := frozen_of_block bO3 _
  have f1 : w3.frozen? ⟨w.heap.size, 1, none⟩ = false := frozen_of_block bO3 _
  have BE := block_set (block_set bO3 0 (.int .i64 (-1))) 1 (.int .i64 0)
  have hne : ¬ w.heap.size = ob7 := by omega
  have kE := ((Keeps.refl (fun q => q = w.heap.size) w3).setCell (p := ⟨w.heap.size, 0, none⟩) (.inr rfl) (.int .i64 (-1))).setCell (p := ⟨w.heap.size, 1, none⟩) (.inr rfl) (.int .i64 0)
  have hob7 : ob7 ≠ w.heap.size := by omega
  have KF : Keeps (fun _ => False) w ((w3.setCell ⟨w.heap.size, 0, none⟩ (.int .i64 (-1))).setCell ⟨w.heap.size, 1, none⟩ (.int .i64 0)) := (K1.trans S3).young kE (fun q e => by omega)
  have S4 : Keeps (fun q => q = w.heap.size) A ((w3.setCell ⟨w.heap.size, 0, none⟩ (.int .i64 (-1))).setCell ⟨w.heap.size, 1, none⟩ (.int .i64 0)) ∧ ((w3.setCell ⟨w.heap.size, 0, none⟩ (.int .i64 (-1))).setCell ⟨w.heap.size, 1, none⟩ (.int .i64 0)).cell? ⟨ob7, 0, none⟩ = some (.int .i64 (-1)) ∧ ((w3.setCell ⟨w.heap.size, 0, none⟩ (.int .i64 (-1))).setCell ⟨w.heap.size, 1, none⟩ (.int .i64 0)).cell? ⟨ob7, 1, none⟩ = some (.int .i64 0) := ⟨S2.1.trans kE, cell_keep kE S2.2.1 hob7, cell_keep kE S2.2.2 hob7⟩
  refine held_none (i := 5) (w' := (w3.setCell ⟨w.heap.size, 0, none⟩ (.int .i64 (-1))).setCell ⟨w.heap.size, 1, none⟩ (.int .i64 0)) (by kernel_rfl) rfl rfl rfl (by go_simp) S4 ?_
  refine held_end (by kernel_rfl) ?_ _
  rw [← HRes.out]
  clear S0 S1 S2 S3 S4 c0 c1 f0 f1 hsv k2 k3
  go_wp2_with fail
  refine bodyPost_ret (odd_ret2 rfl _ _ w.heap.size #[.int .i64 (-1), .int .i64 0] BE rfl rfl) rfl ?_
  exact ⟨rfl, KF⟩
end Go.Proofs.YthmiainhaebjiaaGreatDoor


/- A walk of Clone at words. No statement of the seat is proved here. -/
namespace Go.Proofs.YthmiainhaebjiaaGreatDoor
open Go.RowKit Go.Shelf

theorem info_wC : (Tryz.prog.info? 26).map (fun i => (i.zero, i.size, i.bytes)) = some (some (.int .u64 0), 1, 8) := by kernel_rfl
abbrev WR (w : World) (base : Nat) (v : Value) (F : List Int) : Prop := OwnR wC 1 26 w base v F
theorem sw_nil_eq (a : Addr) (n c : Nat) (w : World) : (binOp .eql 22 (.slice (some a) n c) (.slice none 0 0)).run Tryz.prog w = .ok (.bool false) w := by kernel_rfl
set_option maxRecDepth 100000 in
set_option maxHeartbeats 8000000 in
theorem clone_any (va : Option Addr) (vc : Nat) (F : List Int) (h0 : 0 < F.length) (hl : F.length ≤ 65536) (w : World) (hF : WsAt w (.slice va F.length vc) F) : Calls Tryz.prog 22 #[.slice va F.length vc] w fun ex w' => ∃ u, ex = .returned u ∧ WR w' w.heap.size u F ∧ Keeps (fun _ => False) w w' := by
  obtain ⟨g, off, rfl, hc⟩ := hF.at 0 h0
  have k0 := (Keeps.refl (fun _ => False) w).alloc (.cells #[] 26)
  have b0 := (MapKept.heap_alloc w (.cells #[] 26)).1
  have o0 : WR (w.alloc (.cells #[] 26)) w.heap.size (.slice (some ⟨w.heap.size, 0, none⟩) 0 0) [] := OwnR.ofBlock (L := []) wC_len b0 rfl (Nat.le_refl _) (by simp [maxLen])
  obtain ⟨v', w', r1, r2, r3⟩ := o0.app wC_len wC_one (by decide) Tryz.underlying22 info_wC rfl (by decide) (ty := 22) (.slice (some ⟨g, off, none⟩) F.length vc) F (hF.keeps wC_ne k0) (by simp; omega)
  rw [List.nil_append] at r2
  have kk := OwnR.kept r3 k0 o0
  obtain ⟨⟨za, zn, zc⟩, rfl, -⟩ := sl_of r2
  dsimp only [Sl.v] at r1
  have HA : Hid (_ = _) := r1
  have hnl := sw_nil_eq ⟨g, off, none⟩ F.length vc
  clear r1 r3 o0 k0 b0 hc hF
  go_enter Tryz.func22, Tryz.ntmps22
  go_wp2_with (at_builtin; refine wpList_append_run rfl _ _ 22 rfl rfl rfl HA.out ?_)
  go_ret
  exact ⟨_, rfl, r2, kk⟩
set_option maxRecDepth 100000 in
set_option maxHeartbeats 8000000 in
theorem behind_no (va : Option Addr) (vc : Nat) (F : List Int) (v : Value) (L : List Ev) (hl : L.length ≤ 1050000) (w : World) (hv : EvsAt w v L) (hF : WsAt w (.slice va F.length vc) F) (hg : Gv w) (h8 : 2 ≤ w.heap.size) (hF0 : 0 < F.length) (hF1 : F.length ≤ 65536) (hz : (checkL L).2 = 0) (hp : idxF plainE L 0 = -1) (hm : idxF (missE F.length) L 0 = -1) (W : List Pt) (hW : WrOf (partsL L) W) (n : Int) (hn : n < 0 ∨ (W.length : Int) < n) :
    Calls Tryz.prog 6 #[.slice va F.length vc, v, .int .i64 n] w fun ex w' => ex = .returned (.tuple #[.slice none 0 0, .agg (odV (-1) 2)]) ∧ Keeps (fun _ => False) w w' := by
  have k0 := (Keeps.refl (fun _ => False) w).alloc (.cells (odV 0 0) 31)
  have b0 : (w.alloc (.cells (odV 0 0) 31)).heap[w.heap.size]? = some (.cells (odV 0 0) 31 (0, 0)) := (MapKept.heap_alloc w _).1
  have LK := look_ok va vc F v L hl (w.alloc (.cells (odV 0 0) 31)) (hv.keeps k0) (hF.keeps wC_ne k0) (hg.keeps k0) (by simp; omega) hF0 hF1 hz hp hm
  obtain ⟨a1, cap1, rfl, hcap⟩ := hv.els.shape
  have HFs : Hid (∀ X, Keeps (fun _ => False) w X → WsAt X (.slice va F.length vc) F) := fun X k => hF.keeps wC_ne k
  unfold odV at k0 b0 LK
  clear hv hF hg
  go_enter Tryz.func6, Tryz.ntmps6
  go_wp2_with fail
  refine LK.mono ?_
  rintro ex w1 ⟨pb, mb, b2, vT, vB, vW, X, Y, f, rfl, hPa, hX, hu, k1⟩
  clear LK
  have hYW := pua_wr hu hX hW
  have hYl : Y.length = W.length := by rw [← hYW, List.length_map]
  have kA := (Keeps.refl (fun _ => False) w1).alloc (.cells #[.int .i64 (-1), .int .i64 0] 31)
  have bA := (MapKept.heap_alloc w1 (.cells #[.int .i64 (-1), .int .i64 0] 31)).1
  have bO := ((k1.trans kA).block _ (lt_of_block b0) (fun f => f)).trans b0
  have K1 := (k0.trans k1).trans kA
  have hPA := hPa.keeps kA
  have hlt := lt_of_block ((k1.block _ (lt_of_block b0) (fun f => f)).trans b0)
  obtain ⟨wa, wc, hvW⟩ : ∃ a c, vW = .slice a W.length c := by
    obtain ⟨a, c, e, _⟩ := hPA.wr.shape
    exact ⟨a, c, by rw [e, hYl]⟩
  have p3 : (w1.alloc (.cells #[.int .i64 (-1), .int .i64 0] 31)).cell? ⟨pb, 3, none⟩ = some (.slice wa W.length wc) := by rw [cell_of_block hPA.blk, hvW]; rfl
  have hsA : (w1.alloc (.cells #[.int .i64 (-1), .int .i64 0] 31)).heap.size = w1.heap.size + 1 := by simp
  have bO1 := (k1.block _ (lt_of_block b0) (fun f => f)).trans b0
  have BE0 := block_set (block_set bO1 0 (.int .i64 (-1))) 1 (.int .i64 2)
  have kE := (Keeps.refl (fun _ => False) ((w1.setCell ⟨w.heap.size, 0, none⟩ (.int .i64 (-1))).setCell ⟨w.heap.size, 1, none⟩ (.int .i64 2))).alloc (.cells #[.int .i64 (-1), .int .i64 0] 31)
  have BE := (kE.block _ (lt_of_block BE0) (fun f => f)).trans BE0
  have KF := (((k0.trans k1).setCell (p := ⟨w.heap.size, 0, none⟩) (.inl (Nat.le_refl _)) (.int .i64 (-1))).setCell (p := ⟨w.heap.size, 1, none⟩) (.inl (Nat.le_refl _)) (.int .i64 2)).trans kE
  have c0 : w1.cell? ⟨w.heap.size, 0, none⟩ = some (.int .i64 0) := by rw [cell_of_block bO1]; rfl
  have c1 : w1.cell? ⟨w.heap.size, 1, none⟩ = some (.int .i64 0) := by rw [cell_of_block bO1]; rfl
  have f0 : w1.frozen? ⟨w.heap.size, 0, none⟩ = false := frozen_of_block bO1 _
  have f1 : w1.frozen? ⟨w.heap.size, 1, none⟩ = false := frozen_of_block bO1 _
  have p3' : w1.cell? ⟨pb, 3, none⟩ = some (.slice wa W.length wc) := by rw [cell_of_block hPa.blk, hvW]; rfl
  have e0 : (w1.alloc (.cells #[.int .i64 (-1), .int .i64 0] 31)).cell? ⟨w1.heap.size, 1, none⟩ = some (.int .i64 0) := by rw [cell_of_block bA]; rfl
  have HB : Hid (_ = _) := BE
  unfold odV
  clear hPa hPA hu hX hYW k0 k1 b0 kA K1 bA bO BE bO1 BE0 kE
  by_cases hn0 : n < 0
  · go_wp2_with fail
    refine bodyPost_ret (odd_ret2 rfl _ _ w.heap.size #[.int .i64 (-1), .int .i64 2] HB.out rfl rfl) rfl ?_
    exact ⟨rfl, KF⟩
  · have hn1 : n > (W.length : Int) := by omega
    go_wp2_with fail
    refine bodyPost_ret (odd_ret2 rfl _ _ w.heap.size #[.int .i64 (-1), .int .i64 2] HB.out rfl rfl) rfl ?_
    exact ⟨rfl, KF⟩
end Go.Proofs.YthmiainhaebjiaaGreatDoor
