import Derived.Test.YthmiainhaebjiaaGreatDoorNjOsD
import Derived.Test.YthmiainhaebjiaaGreatDoorNhOsA

/- The document's Never (layer 16). No statement of the seat is proved here. -/
namespace Go.Proofs.YthmiainhaebjiaaGreatDoor
open Go.RowKit Go.Shelf

set_option maxRecDepth 100000 in
set_option maxHeartbeats 8000000 in
theorem rnever_ok (va : Option Addr) (vc : Nat) (F : List Int) (v : Value) (L : List Ev) (hl : L.length ≤ 1050000) (w : World) (hv : EvsAt w v L) (hF : WsAt w (.slice va F.length vc) F) (hF0 : 0 < F.length) (hF1 : F.length ≤ 65536) (hz : checkL L = (-1, 0)) (hp : idxF plainE L 0 = -1) (hm : idxF (missE F.length) L 0 = -1) (W : List Pt) (hW : WrOf (partsL L) W) :
    Calls Tryz.prog 11 #[.slice va F.length vc, v] w fun ex w' => ∃ u, ex = .returned (.tuple #[u, .agg (odV (-1) 0)]) ∧ OwnR clC 2 28 w' w.heap.size u (nvD F W L) ∧ Keeps (fun _ => False) w w' := by
  have hin := in_all hv.wf hm
  have hz2 : (checkL L).2 = 0 := by rw [hz]
  have hWl : W.length ≤ 1050000 := by
    have h1 := hW.perm.length_eq
    have h2 := List.length_filter_le (fun p : Pt => p.wr) (partsL L)
    have h3 := (pinv_parts L).len
    change (partsL L).length ≤ L.length at h3
    omega
  have hwrg : wrgA F.length L = (-1, 0) := by unfold wrgA wrgB; rw [if_pos hp, if_pos hm]
  have k0 := (Keeps.refl (fun _ => False) w).alloc (.cells (odV 0 0) 31)
  have b0 : (w.alloc (.cells (odV 0 0) 31)).heap[w.heap.size]? = some (.cells (odV 0 0) 31 (0, 0)) := (MapKept.heap_alloc w _).1
  have WR := rwrg_ok va vc F.length hF0 hF1 v L (by omega) hz (w.alloc (.cells (odV 0 0) 31)) (hv.keeps k0)
  rw [hwrg] at WR
  have HST : Hid (∀ X, Keeps (fun _ => False) w X → Calls Tryz.prog 24 #[.slice va F.length vc, v] X fun ex w' => ∃ (u : Value) (R : List Sl), ex = .returned u ∧ R.length = W.length + 1 ∧ OwnR sC 1 22 w' X.heap.size u R ∧ (∀ j (hj : j < R.length), OwnR wC 1 26 w' X.heap.size (R[j]).v (stN F W j)) ∧ Keeps (fun _ => False) X w') := fun X kx => rstates_any (.slice va F.length vc) F hF1 hF0 v L (by omega) hz2 hin W hW hWl X (hF.keeps wC_ne kx) (hv.els.keeps ev_ne kx)
  have HV : Hid (∀ X, Keeps (fun _ => False) w X → ElsAt Ev.cl 6 X v L) := fun X kx => hv.els.keeps ev_ne kx
  obtain ⟨ha, hc, rfl, hcap⟩ := hv.els.shape
  unfold odV at k0 b0 WR ⊢
  have HIN : Hid (∀ e ∈ L, 0 ≤ e.ad ∧ (e.kd = 2 ∨ e.kd = 3 → e.ad < (F.length : Int))) := hin
  clear hv hF hz hp hm hW hin hz2 hwrg
  go_enter Tryz.func11, Tryz.ntmps11
  go_wp2_with fail
  refine WR.mono ?_
  rintro ex w1 ⟨rfl, k1⟩
  clear WR
  have K1 := k0.trans k1
  have B1 := (k1.block _ (lt_of_block b0) (fun f => f)).trans b0
  have kA := (Keeps.refl (fun _ => False) w1).alloc (.cells #[.int .i64 (-1), .int .i64 0] 31)
  have bA := (MapKept.heap_alloc w1 (.cells #[.int .i64 (-1), .int .i64 0] 31)).1
  have B2 := (kA.block _ (lt_of_block B1) (fun f => f)).trans B1
  have hlt1 := lt_of_block B1
  have KA := K1.trans kA
  obtain ⟨ob7, hob⟩ : ∃ b, b = w1.heap.size := ⟨_, rfl⟩
  rw [← hob] at bA hlt1
  obtain ⟨A, hA⟩ : ∃ A, A = w1.alloc (.cells #[.int .i64 (-1), .int .i64 0] 31) := ⟨_, rfl⟩
  rw [← hA] at bA B2 KA
  have HAA : Hid (A = _) := hA
  have HOB : Hid (ob7 = _) := hob
  clear K1 B1 kA k0 b0 k1 hA hob
  have ST := HST.out _ KA
  clear HST
  go_wp2_with fail
  rw [← HAA.out]
  try rw [← HOB.out]
  clear HAA HOB
  refine ST.mono ?_
  rintro ex E ⟨vS, R, rfl, hRl, hR, hRe, k2⟩
  clear ST
  have KE := KA.trans k2
  obtain ⟨sa, sc, rfl⟩ := hR.form
  obtain ⟨rn, hrn⟩ : ∃ rn, rn = R.length := ⟨_, rfl⟩
  rw [← hrn] at hR ⊢
  have HR2 : Hid (rn = R.length ∧ R.length = W.length + 1) := ⟨hrn, hRl⟩
  have hrnW : rn = W.length + 1 := by rw [hrn, hRl]
  have HB : Hid (∀ X, Keeps (fun _ => False) E X → X.heap[w.heap.size]? = some (.cells #[.int .i64 0, .int .i64 0] 31 (0, 0)) ∧ X.heap[ob7]? = some (.cells #[.int .i64 (-1), .int .i64 0] 31 (0, 0))) := fun X q => ⟨((k2.trans q).block _ (lt_of_block B2) (fun f => f)).trans B2, ((k2.trans q).block _ (lt_of_block bA) (fun f => f)).trans bA⟩
  have HX : Hid (∀ X, Keeps (fun _ => False) E X → OwnR sC 1 22 X A.heap.size (.slice sa rn sc) R ∧ ∀ j (hj : j < R.length), WsAt X (R[j]).v (stN F W j)) := fun X k => ⟨hR.keeps k (fun _ _ f => f), fun j hj => ((hRe j hj).keeps k (fun _ _ f => f)).els wC_len⟩
  have HE : Hid (∀ X, Keeps (fun _ => False) E X → ElsAt Ev.cl 6 X (.slice ha L.length hc) L) := fun X k => HV.out X (KE.trans k)
  have O0 : Hid (OwnR clC 2 28 E E.heap.size (.slice none 0 0) (nvD F W (L.take 0))) := OwnR.nil _ _ _ _
  clear hR hRe hrn hRl B2 bA k2 HV
  go_wp2_with fail
  go_loopw [8, 9] (fun u8 u9 wr => ∃ i : Nat, u9 = .int .i64 i ∧ i ≤ L.length ∧ Hid (OwnR clC 2 28 wr E.heap.size u8 (nvD F W (L.take i))) ∧ Keeps (fun _ => False) E wr) (fun _ u9 _ => L.length - (intOf u9).toNat)
  case atStart => exact ⟨0, rfl, Nat.zero_le _, O0, Keeps.refl _ _⟩
  case round =>
    clear O0
    obtain ⟨i, rfl, hi, hO, kr⟩ := hrel
    generalize wr = Wo at *
    have hwi : IntKind.i64.wrap ((i : Int) + 1) = (i : Int) + 1 := by rw [IntKind.wrap_i64]; omega
    have hnl : (nvD F W (L.take i)).length ≤ 1100000 := by
      have h1 := nvD_len F W (L.take i)
      rw [List.length_take] at h1
      omega
    have HNL : Hid ((nvD F W (L.take i)).length ≤ 1100000) := hnl
    obtain ⟨oa, oc, rfl⟩ := hO.out.form
    obtain ⟨ol, hol⟩ : ∃ q, q = (nvD F W (L.take i)).length := ⟨_, rfl⟩
    rw [← hol] at hO ⊢
    have HOL : Hid (ol = (nvD F W (L.take i)).length) := hol
    clear hol hnl
    by_cases hlt : i < L.length
    · have hii : (i : Int) < L.length := by omega
      have hi0 : (0 : Int) ≤ i := by omega
      have hel := HE.out Wo kr
      obtain ⟨gw, ow, e1, hcl⟩ := hel.at i hlt
      subst e1
      have y1 := hcl 1 _ rfl
      have y2 := hcl 2 _ rfl
      have y3 := hcl 3 _ rfl
      have y4 := hcl 4 _ rfl
      have hsuc := nvD_succ F W hlt
      have hinE := HIN.out _ (List.getElem_mem hlt)
      have hnE := nvE_iff F W (L[i]'hlt)
      unfold nvE at hnE hsuc
      generalize L[i]'hlt = ev at *
      obtain ⟨eth, ekd, ead, ewd, eown, eer⟩ := ev
      dsimp only at y1 y2 y3 y4 hsuc hinE hnE
      clear hnE hel hcl
      by_cases hk2 : ekd = 2
      · subst hk2
        cases eown with
        | true =>
          have HF : Hid (OwnR clC 2 28 Wo E.heap.size (.slice oa ol oc) (nvD F W (L.take (i + 1)))) := by
            unfold Hid
            rw [hsuc, if_neg (by simp)]
            exact hO.out
          clear hsuc hinE hO
          go_wp2_with fail
          go_roundw
          · exact ⟨i + 1, by simp, by omega, HF, kr⟩
          · simp [intOf]; omega
        | false =>
          have hS0 : Wo.cell? ⟨gw, ow + i * 6 + 2, none⟩ = some (.int .u64 ead) ∧ Wo.cell? ⟨gw, ow + i * 6 + 3, none⟩ = some (.int .u64 ewd) := ⟨y2, y3⟩
          have hadr := hinE.1
          have hadl := hinE.2 (.inl rfl)
          have kc := (kr.alloc (.cells #[.int .u64 ead, .int .u64 ewd] 28)).drew
          have bc : (Wo.alloc (.cells #[.int .u64 ead, .int .u64 ewd] 28)).drew.heap[Wo.heap.size]? = some _ := (MapKept.heap_alloc Wo (.cells #[.int .u64 ead, .int .u64 ewd] 28)).1
          obtain ⟨cb, hcb⟩ : ∃ cb, cb = Wo.heap.size := ⟨_, rfl⟩
          rw [← hcb] at bc
          obtain ⟨C, hC⟩ : ∃ C, C = (Wo.alloc (.cells #[.int .u64 ead, .int .u64 ewd] 28)).drew := ⟨_, rfl⟩
          rw [← hC] at kc bc
          have HC : Hid (C = (Wo.alloc (.cells #[.int .u64 ead, .int .u64 ewd] 28)).drew) := hC
          have HCB : Hid (cb = Wo.heap.size) := hcb
          have HBC : Hid (∀ X, Keeps (fun _ => False) C X → X.cell? ⟨cb, 0, none⟩ = some (.int .u64 ead) ∧ X.cell? ⟨cb, 1, none⟩ = some (.int .u64 ewd)) := fun X k => by
            have b := (k.block _ (lt_of_block bc) (fun f => f)).trans bc
            exact ⟨by rw [cell_of_block b]; rfl, by rw [cell_of_block b]; rfl⟩
          have kWC : Keeps (fun _ => False) Wo C := by rw [hC]; exact ((Keeps.refl (fun _ => False) Wo).alloc _).drew
          have HOC : Hid (∀ X, Keeps (fun _ => False) C X → OwnR clC 2 28 X E.heap.size (.slice oa ol oc) (nvD F W (L.take i))) := fun X k => hO.out.keeps (kWC.trans k) (fun _ _ f => f)
          have HSU : Hid (_ = _) := hsuc
          have KC : Hid (Keeps (fun _ => False) E C) := kc
          clear hsuc hinE hO hC hcb kc bc kWC
          go_wp2_with fail
          go_region_held3 (fun W : World => W.cell? ⟨gw, ow + i * 6 + 2, none⟩ = some (.int .u64 ead) ∧ W.cell? ⟨gw, ow + i * 6 + 3, none⟩ = some (.int .u64 ewd)) (first | assumption | (exact hS0) | go_keep) (fail)
          go_wp2_with fail
          rw [← HC.out]
          try rw [← HCB.out]
          go_loopw [11, 12] (fun u11 u12 wr => ∃ (m : Nat) (ob : Bool), u11 = .bool ob ∧ u12 = .int .i64 m ∧ m ≤ rn ∧ Hid (ob = (List.range m).any fun n => stdL (stN F W n) [(ead, ewd)]) ∧ Keeps (fun _ => False) C wr) (fun _ u12 _ => rn - (intOf u12).toNat)
          case atStart => exact ⟨0, false, rfl, rfl, Nat.zero_le _, rfl, Keeps.refl _ _⟩
          case round =>
            obtain ⟨m, ob, rfl, rfl, hm, hob, kz⟩ := hrel
            generalize wr = Wz at *
            have hwm : IntKind.i64.wrap ((m : Int) + 1) = (m : Int) + 1 := by rw [IntKind.wrap_i64]; omega
            obtain ⟨z0, z1⟩ := HBC.out Wz kz
            by_cases hmr : m < rn
            · have hmi : (m : Int) < rn := by omega
              have hm0 : (0 : Int) ≤ m := by omega
              have hnx : ((List.range (m + 1)).any fun n => stdL (stN F W n) [(ead, ewd)]) = (ob || stdL (stN F W m) [(ead, ewd)]) := by
                rw [List.range_succ, List.any_append, ← hob.out]
                simp
              cases ob with
              | true =>
                have HF : Hid (true = (List.range (m + 1)).any fun n => stdL (stN F W n) [(ead, ewd)]) := by unfold Hid; rw [hnx, Bool.true_or]
                have hST : True := trivial
                have kd := kz.drew
                clear hnx hob
                go_wp2_with fail
                refine wp_held_end (S := fun W : World => True) 11 rfl hmxp ?_
                simp only [Array.replicate_succ, Array.replicate_zero, List.push_toArray, List.nil_append, List.cons_append]
                refine held_take (i := 0) (v := (.bool true)) 59 rfl rfl (by kernel_rfl) (by kernel_rfl) (by kernel_rfl) rfl (fun w' hw' => by go_simp) trivial ?_
                simp only [Act.put, List.setIfInBounds_toArray, List.set_cons_zero, List.set_cons_succ]
                refine held_take (i := 1) (v := (.bool true)) 60 rfl rfl (by kernel_rfl) (by kernel_rfl) (by kernel_rfl) rfl (fun w' hw' => by go_simp) trivial ?_
                simp only [Act.put, List.setIfInBounds_toArray, List.set_cons_zero, List.set_cons_succ]
                refine held_skipO (i := 2) 61 rfl rfl (by kernel_rfl) (by kernel_rfl) (by kernel_rfl) rfl trivial ?_
                simp only [Act.put, List.setIfInBounds_toArray, List.set_cons_zero, List.set_cons_succ]
                refine held_skipO (i := 3) 62 rfl rfl (by kernel_rfl) (by kernel_rfl) (by kernel_rfl) rfl trivial ?_
                simp only [Act.put, List.setIfInBounds_toArray, List.set_cons_zero, List.set_cons_succ]
                refine held_skipO (i := 4) 63 rfl rfl (by kernel_rfl) (by kernel_rfl) (by kernel_rfl) rfl trivial ?_
                simp only [Act.put, List.setIfInBounds_toArray, List.set_cons_zero, List.set_cons_succ]
                refine held_skipO (i := 5) 64 rfl rfl (by kernel_rfl) (by kernel_rfl) (by kernel_rfl) rfl trivial ?_
                simp only [Act.put, List.setIfInBounds_toArray, List.set_cons_zero, List.set_cons_succ]
                refine held_skipO (i := 6) 65 rfl rfl (by kernel_rfl) (by kernel_rfl) (by kernel_rfl) rfl trivial ?_
                simp only [Act.put, List.setIfInBounds_toArray, List.set_cons_zero, List.set_cons_succ]
                refine held_skipO (i := 7) 66 rfl rfl (by kernel_rfl) (by kernel_rfl) (by kernel_rfl) rfl trivial ?_
                simp only [Act.put, List.setIfInBounds_toArray, List.set_cons_zero, List.set_cons_succ]
                refine held_skipO (i := 8) 67 rfl rfl (by kernel_rfl) (by kernel_rfl) (by kernel_rfl) rfl trivial ?_
                simp only [Act.put, List.setIfInBounds_toArray, List.set_cons_zero, List.set_cons_succ]
                refine held_take (i := 9) (v := (.bool true)) 68 rfl rfl (by kernel_rfl) (by kernel_rfl) (by kernel_rfl) rfl (fun w' hw' => by go_simp) trivial ?_
                simp only [Act.put, List.setIfInBounds_toArray, List.set_cons_zero, List.set_cons_succ]
                refine held_take (i := 10) (v := (.bool true)) 11 rfl rfl (by kernel_rfl) (by kernel_rfl) (by kernel_rfl) rfl (fun w' hw' => by go_simp) trivial ?_
                simp only [Act.put, List.setIfInBounds_toArray, List.set_cons_zero, List.set_cons_succ]
                refine held_end (by kernel_rfl) ?_ _
                go_wp2_with fail
                go_roundw
                · exact ⟨m + 1, true, rfl, by simp, by omega, HF, kd⟩
                · simp [intOf]; omega
              | false =>
                have hmR : m < R.length := by have := HR2.out.1; omega
                have kEz := KC.out.trans kz
                obtain ⟨gs, sc', hgs, -, -, hcs⟩ := own_cellS (HX.out Wz kEz).1 HR2.out.1 (by omega)
                simp only [Value.slice.injEq] at hgs
                obtain ⟨rfl, -, rfl⟩ := hgs
                have hsx : ∀ X, Keeps (fun _ => False) Wz X → X.cell? ⟨gs, m, none⟩ = some (R[m]'hmR).v := fun X k => hcs X (k.mono (fun _ _ f => f.elim)) m hmR
                have x0 := hsx Wz (Keeps.refl _ _)
                have kQ := ((Keeps.refl (fun _ => False) Wz).alloc (.cells #[.int .u64 ead, .int .u64 ewd] 28)).drew
                have bQ : (Wz.alloc (.cells #[.int .u64 ead, .int .u64 ewd] 28)).drew.heap[Wz.heap.size]? = some _ := (MapKept.heap_alloc Wz (.cells #[.int .u64 ead, .int .u64 ewd] 28)).1
                have hws := (HX.out _ (kEz.trans kQ)).2 m hmR
                generalize R[m]'hmR = s at *
                obtain ⟨s1, s2, s3⟩ := s
                dsimp only [Sl.v] at x0 hws hsx
                have SD := rstood_any (.slice s1 s2 s3) (.slice (some ⟨Wz.heap.size, 0, none⟩) 1 1) (stN F W m) [(ead, ewd)] (by simp) (by rw [stN_len]; simpa using ⟨hadr, hadl⟩) ((Wz.alloc (.cells #[.int .u64 ead, .int .u64 ewd] 28)).drew) hws (ElsAt.one (ead, ewd) rfl bQ)
                rw [Bool.false_or] at hnx
                have HF : Hid (stdL (stN F W m) [(ead, ewd)] = (List.range (m + 1)).any fun n => stdL (stN F W n) [(ead, ewd)]) := hnx.symm
                generalize stdL (stN F W m) [(ead, ewd)] = zb at *
                have hSa : (Wz.drew).cell? ⟨cb, 0, none⟩ = some (.int .u64 ead) ∧ (Wz.drew).cell? ⟨cb, 1, none⟩ = some (.int .u64 ewd) ∧ (Wz.drew).cell? ⟨gs, m, none⟩ = some (.slice s1 s2 s3) := ⟨z0, z1, x0⟩
                have HSb : Hid (∀ X, Keeps (fun _ => False) Wz X → X.cell? ⟨cb, 0, none⟩ = some (.int .u64 ead) ∧ X.cell? ⟨cb, 1, none⟩ = some (.int .u64 ewd) ∧ X.cell? ⟨gs, m, none⟩ = some (.slice s1 s2 s3)) := fun X k => by
                  have h1 := HBC.out X (kz.trans k)
                  exact ⟨h1.1, h1.2, hsx X k⟩
                clear hnx hob hws hcs bQ hsx
                go_wp2_with fail
                refine wp_held_end (S := fun W : World => W.cell? ⟨cb, 0, none⟩ = some (.int .u64 ead) ∧ W.cell? ⟨cb, 1, none⟩ = some (.int .u64 ewd) ∧ W.cell? ⟨gs, m, none⟩ = some (.slice s1 s2 s3)) 11 rfl hmxp ?_
                simp only [Array.replicate_succ, Array.replicate_zero, List.push_toArray, List.nil_append, List.cons_append]
                refine held_take (i := 0) (v := (.bool false)) 59 rfl rfl (by kernel_rfl) (by kernel_rfl) (by kernel_rfl) rfl (fun w' hw' => by obtain ⟨q0, q1, q2⟩ := hw'; go_simp) hSa ?_
                simp only [Act.put, List.setIfInBounds_toArray, List.set_cons_zero, List.set_cons_succ]
                refine held_take (i := 1) (v := (.bool false)) 60 rfl rfl (by kernel_rfl) (by kernel_rfl) (by kernel_rfl) rfl (fun w' hw' => by obtain ⟨q0, q1, q2⟩ := hw'; go_simp) hSa ?_
                simp only [Act.put, List.setIfInBounds_toArray, List.set_cons_zero, List.set_cons_succ]
                refine held_take (i := 2) (v := (.slice (some ⟨gs, 0, none⟩) rn sc)) 61 rfl rfl (by kernel_rfl) (by kernel_rfl) (by kernel_rfl) rfl (fun w' hw' => by obtain ⟨q0, q1, q2⟩ := hw'; go_simp) hSa ?_
                simp only [Act.put, List.setIfInBounds_toArray, List.set_cons_zero, List.set_cons_succ]
                refine held_take (i := 3) (v := (.int .i64 (m : Int))) 62 rfl rfl (by kernel_rfl) (by kernel_rfl) (by kernel_rfl) rfl (fun w' hw' => by obtain ⟨q0, q1, q2⟩ := hw'; go_simp) hSa ?_
                simp only [Act.put, List.setIfInBounds_toArray, List.set_cons_zero, List.set_cons_succ]
                refine held_take (i := 4) (v := (.pointer (some ⟨gs, m, none⟩))) 63 rfl rfl (by kernel_rfl) (by kernel_rfl) (by kernel_rfl) rfl (fun w' hw' => by obtain ⟨q0, q1, q2⟩ := hw'; go_simp) hSa ?_
                simp only [Act.put, List.setIfInBounds_toArray, List.set_cons_zero, List.set_cons_succ]
                refine held_take (i := 5) (v := (.slice s1 s2 s3)) 64 rfl rfl (by kernel_rfl) (by kernel_rfl) (by kernel_rfl) rfl (fun w' hw' => by obtain ⟨q0, q1, q2⟩ := hw'; go_simp) hSa ?_
                simp only [Act.put, List.setIfInBounds_toArray, List.set_cons_zero, List.set_cons_succ]
                refine held_take (i := 6) (v := (.agg #[.int .u64 ead, .int .u64 ewd])) 65 rfl rfl (by kernel_rfl) (by kernel_rfl) (by kernel_rfl) rfl (fun w' hw' => by obtain ⟨q0, q1, q2⟩ := hw'; go_simp) hSa ?_
                simp only [Act.put, List.setIfInBounds_toArray, List.set_cons_zero, List.set_cons_succ]
                refine held_val (i := 7) (v := .slice (some ⟨Wz.heap.size, 0, none⟩) 1 1) (w' := (Wz.alloc (.cells #[.int .u64 ead, .int .u64 ewd] 28)).drew) (some 66) (by kernel_rfl) rfl rfl rfl (by go_simp) (HSb.out _ kQ) ?_
                simp only [Act.put, List.setIfInBounds_toArray, List.set_cons_zero, List.set_cons_succ]
                refine held_call (i := 8) 67 (by kernel_rfl) rfl rfl rfl (by go_simp) (SD.mono ?_)
                rintro ex w6 ⟨rfl, k6⟩
                have hSc := HSb.out w6 (kQ.trans k6)
                refine ⟨_, rfl, hSc, ?_⟩
                simp only [Act.put, List.setIfInBounds_toArray, List.set_cons_zero, List.set_cons_succ]
                refine held_take (i := 9) (v := (.bool zb)) 68 rfl rfl (by kernel_rfl) (by kernel_rfl) (by kernel_rfl) rfl (fun w' hw' => by obtain ⟨q0, q1, q2⟩ := hw'; go_simp) hSc ?_
                simp only [Act.put, List.setIfInBounds_toArray, List.set_cons_zero, List.set_cons_succ]
                refine held_take (i := 10) (v := (.bool zb)) 11 rfl rfl (by kernel_rfl) (by kernel_rfl) (by kernel_rfl) rfl (fun w' hw' => by obtain ⟨q0, q1, q2⟩ := hw'; go_simp) hSc ?_
                simp only [Act.put, List.setIfInBounds_toArray, List.set_cons_zero, List.set_cons_succ]
                refine held_end (by kernel_rfl) ?_ _
                go_wp2_with fail
                go_roundw
                · exact ⟨m + 1, zb, rfl, by simp, by omega, HF, kz.trans (kQ.trans k6)⟩
                · simp [intOf]; omega
            · have hmi : ¬ (m : Int) < rn := by omega
              have hmW : m = W.length + 1 := by omega
              subst hmW
              rw [← hob.out] at HSU
              cases ob with
              | true =>
                have HF : Hid (OwnR clC 2 28 Wz E.heap.size (.slice oa ol oc) (nvD F W (L.take (i + 1)))) := by
                  unfold Hid
                  rw [HSU.out, if_neg (by simp)]
                  exact HOC.out Wz kz
                have kF := KC.out.trans kz
                clear hob HSU HOC
                go_wp2_with fail
                go_roundw
                · exact ⟨i + 1, by simp, by omega, HF, kF⟩
                · simp [intOf]; omega
              | false =>
                have hOz := HOC.out Wz kz
                have PT := rputC_any (nvD F W (L.take i)) ead ewd HNL.out hOz
                have hS9 : Wz.cell? ⟨cb, 0, none⟩ = some (.int .u64 ead) ∧ Wz.cell? ⟨cb, 1, none⟩ = some (.int .u64 ewd) := ⟨z0, z1⟩
                go_wp2_with fail
                refine PT.mono ?_
                rintro ex w6 ⟨u, rfl, p1, p2, p3⟩
                have HF : Hid (OwnR clC 2 28 w6 E.heap.size u (nvD F W (L.take (i + 1)))) := by
                  unfold Hid
                  rw [HSU.out, if_pos (by simp)]
                  exact p1
                have kF : Keeps (fun _ => False) E w6 := (KC.out.trans kz).young p3 (fun q e => (own_block hOz.own e).2)
                clear hob HSU HOC hOz PT p1 p2 p3
                go_wp2_with fail
                go_roundw
                · exact ⟨i + 1, by simp, by omega, HF, kF⟩
                · simp [intOf]; omega
      · have hkb : (ekd != 2) = true := by rw [bne_iff_ne]; exact hk2
        have hkb2 : (ekd == 2) = false := by rw [beq_eq_false_iff_ne]; exact hk2
        have HF : Hid (OwnR clC 2 28 Wo E.heap.size (.slice oa ol oc) (nvD F W (L.take (i + 1)))) := by
          unfold Hid
          rw [hsuc, if_neg (by simp [hk2])]
          exact hO.out
        clear hsuc hinE hO
        go_wp2_with fail
        go_roundw
        · exact ⟨i + 1, by simp, by omega, HF, kr⟩
        · simp [intOf]; omega
    · have hii : ¬ (i : Int) < L.length := by omega
      have hiL : i = L.length := by omega
      obtain ⟨B3, bA3⟩ := HB.out Wo kr
      have c0 : Wo.cell? ⟨w.heap.size, 0, none⟩ = some (.int .i64 0) := by rw [cell_of_block B3]; rfl
      have c1 : Wo.cell? ⟨w.heap.size, 1, none⟩ = some (.int .i64 0) := by rw [cell_of_block B3]; rfl
      have f0 : Wo.frozen? ⟨w.heap.size, 0, none⟩ = false := frozen_of_block B3 _
      have f1 : Wo.frozen? ⟨w.heap.size, 1, none⟩ = false := frozen_of_block B3 _
      have o0 : Wo.cell? ⟨ob7, 0, none⟩ = some (.int .i64 (-1)) := by rw [cell_of_block bA3]; rfl
      have o1 : Wo.cell? ⟨ob7, 1, none⟩ = some (.int .i64 0) := by rw [cell_of_block bA3]; rfl
      have hne : ¬ w.heap.size = ob7 := by omega
      have BE : Hid (∀ X : World, X.heap = Wo.heap → ((X.setCell ⟨w.heap.size, 0, none⟩ (.int .i64 (-1))).setCell ⟨w.heap.size, 1, none⟩ (.int .i64 0)).heap[w.heap.size]? = some (.cells #[.int .i64 (-1), .int .i64 0] 31 (0, 0))) := fun X hX => block_set (block_set (w := X) (by rw [hX]; exact B3) 0 (.int .i64 (-1))) 1 (.int .i64 0)
      have kF := ((Keeps.refl (fun q => q = w.heap.size) Wo).setCell (p := ⟨w.heap.size, 0, none⟩) (.inr rfl) (.int .i64 (-1))).setCell (p := ⟨w.heap.size, 1, none⟩) (.inr rfl) (.int .i64 0)
      have hEs := KE.size
      have KF : Keeps (fun _ => False) w ((Wo.setCell ⟨w.heap.size, 0, none⟩ (.int .i64 (-1))).setCell ⟨w.heap.size, 1, none⟩ (.int .i64 0)) := (KE.trans kr).young kF (fun q e => by omega)

      have hEs2 : w.heap.size < E.heap.size := lt_of_block (HB.out E (Keeps.refl _ _)).1
      have HF : Hid (OwnR clC 2 28 ((Wo.setCell ⟨w.heap.size, 0, none⟩ (.int .i64 (-1))).setCell ⟨w.heap.size, 1, none⟩ (.int .i64 0)) w.heap.size (.slice oa ol oc) (nvD F W L)) := by
        unfold Hid
        have h9 := hO.out
        rw [hiL, List.take_length] at h9
        exact (h9.lowE hEs).keeps kF (fun g hg e => by have := (own_block h9.own hg).2; omega)
      have hS0 : Wo.cell? ⟨ob7, 0, none⟩ = some (.int .i64 (-1)) ∧ Wo.cell? ⟨ob7, 1, none⟩ = some (.int .i64 0) := ⟨o0, o1⟩
      clear B3 bA3 hO kF hiL
      go_wp2_with fail
      go_region_held3 (fun W : World => W.cell? ⟨ob7, 0, none⟩ = some (.int .i64 (-1)) ∧ W.cell? ⟨ob7, 1, none⟩ = some (.int .i64 0)) (first | assumption | (exact hS0) | go_keep) (fail)
      go_wp2_with fail
      refine bodyPost_ret (odd_ret2 rfl _ _ w.heap.size #[.int .i64 (-1), .int .i64 0] (BE.out Wo rfl) rfl rfl) rfl ?_
      exact ⟨_, rfl, HF.out.keeps ((Keeps.refl _ _).drew) (fun _ _ f => f), KF.drew⟩
end Go.Proofs.YthmiainhaebjiaaGreatDoor
