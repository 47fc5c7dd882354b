
/- Walks of Commits of both, of the document's Tries (packages events, parleyref13). No statement of the seat is proved here. -/
import Derived.Test.YtjaldfmdjnkoeaaDoorEvDf
import Derived.Test.YtjaldfmdjnkoeaaDoorEvDj
namespace Go.Proofs.YtjaldfmdjnkoeaaDoor
open Go.RowKit Go.Shelf

set_option maxRecDepth 100000 in
set_option maxHeartbeats 8000000 in
theorem commits_any (v : Value) (L : List Ev) (w : World) (hv : EvsAt w v L) (hg : Gv w) (h8 : 8 ≤ w.heap.size) :
    Calls Tryd.prog 11 #[v] w fun ex w' => ∃ tv, ex = .returned (.tuple #[tv, .agg (odV (checkL L).1 (checkL L).2)]) ∧ OwnR Ci 1 3 w' w.heap.size tv (if (checkL L).2 = 0 then commF L 0 else []) ∧ Keeps (fun _ => False) w w' := by
  have hbig := hv.big
  have hch := chk_yes L st0 0
  change (checkL L).2 = 0 → checkL L = (-1, 0) at hch
  have HV : Hid (∀ X, Keeps (fun _ => False) w X → EvsAt X v L ∧ Gv X) := fun X k => ⟨hv.keeps k, hg.keeps k⟩
  obtain ⟨a, cap, rfl, hcap⟩ := hv.els.shape
  clear hv hg
  have k0 := (Keeps.refl (fun _ => False) w).alloc (.cells (odV 0 0) 27)
  have b0 : (w.alloc (.cells (odV 0 0) 27)).heap[w.heap.size]? = some (.cells (odV 0 0) 27 (0, 0)) := (MapKept.heap_alloc w _).1
  have CK := check_any _ L _ (HV.out _ k0).1 (HV.out _ k0).2 (by simp; omega)
  unfold odV at k0 b0 CK
  have _h := hbig
  generalize hcl : checkL L = cl at *
  obtain ⟨ca, ce⟩ := cl
  dsimp only at *
  by_cases hce : ce = 0
  · subst hce
    obtain ⟨hca, -⟩ := Prod.mk.inj (hch rfl)
    subst hca
    rw [if_pos rfl]
    clear hch
    go_enter Tryd.func11, Tryd.ntmps11
    go_wp2_with fail
    refine CK.mono ?_
    rintro ex w1 ⟨rfl, k1⟩
    have K1 := k0.trans k1
    have B1 := (k1.block _ (lt_of_block b0) (fun f => f)).trans b0
    clear CK k0 k1 b0
    have kA := (Keeps.refl (fun _ => False) w1).alloc (.cells #[.int .i64 (-1), .int .i64 0] 27)
    have bA := (MapKept.heap_alloc w1 (.cells #[.int .i64 (-1), .int .i64 0] 27)).1
    have B2 := (kA.block _ (lt_of_block B1) (fun f => f)).trans B1
    have hlt1 := lt_of_block B1
    have hb1 : (w1.alloc (.cells #[.int .i64 (-1), .int .i64 0] 27)).heap.size = w1.heap.size + 1 := by simp
    go_wp2_with fail
    generalize hW : w1.alloc (.cells #[.int .i64 (-1), .int .i64 0] 27) = W at *
    obtain ⟨N, hN⟩ : ∃ N, N = w1.heap.size := ⟨_, rfl⟩
    rw [← hN] at bA hb1 hlt1 ⊢
    have KW := K1.trans kA
    have nilW : OwnR Ci 1 3 W (N + 1) (.slice none 0 0) [] := OwnR.nilB _ _ _ _ _ (by omega)
    clear hW kA hN K1
    go_loopw [5, 16] (fun x u wr => ∃ (k : Nat) (acc : List Int), u = .int .i64 k ∧ k ≤ L.length ∧ Hid (OwnR Ci 1 3 wr (N + 1) x acc ∧ commF L 0 = acc ++ commF (L.drop k) k ∧ acc.length ≤ k) ∧ wr.heap[w.heap.size]? = some (.cells #[.int .i64 0, .int .i64 0] 27 (0, 0)) ∧ wr.heap[N]? = some (.cells #[.int .i64 (-1), .int .i64 0] 27 (0, 0)) ∧ Keeps (fun _ => False) w wr ∧ N + 1 ≤ wr.heap.size) (fun _ u _ => L.length - (intOf u).toNat)
    case atStart => exact ⟨0, [], rfl, Nat.zero_le _, ⟨nilW, by simp, by simp⟩, B2, bA, KW, by omega⟩
    case round =>
      clear nilW B2 bA KW
      obtain ⟨k, acc, rfl, hk, hh, br1, br2, kr, hNs⟩ := hrel
      have d1 : wr.cell? ⟨N, 1, none⟩ = some (.int .i64 0) := by rw [cell_of_block br2]; rfl
      by_cases hlt : k < L.length
      · obtain ⟨oa, hF, hal⟩ := hh.out
        have hki : (k : Int) < L.length := by omega
        have hk0 : (0 : Int) ≤ k := by omega
        obtain ⟨g, off, rfl, x0, x1, x2, x3, x4, x5⟩ := (HV.out wr kr).1.at k hlt
        have hdrop : L.drop k = L[k] :: L.drop (k + 1) := List.drop_eq_getElem_cons hlt
        rw [hdrop, commF] at hF
        have _h2 := hlt
        generalize hev : L[k]'hlt = e at *
        obtain ⟨th, kd, ad, wd, own, er⟩ := e
        dsimp only at x0 x1 x2 x3 x4 x5 hF
        clear hev hdrop
        by_cases hkd : kd = 6
        · subst hkd
          rw [if_pos rfl] at hF
          have kB := (Keeps.refl (fun _ => False) wr).alloc (.cells #[.int .i64 th, .int .i64 6, .int .u64 ad, .int .u64 wd, .bool own, .int .i64 er] 44)
          have hwb : (wr.alloc (.cells #[.int .i64 th, .int .i64 6, .int .u64 ad, .int .u64 wd, .bool own, .int .i64 er] 44)).heap.size = wr.heap.size + 1 := by simp
          have oB := oa.keeps kB (fun _ _ f => f)
          obtain ⟨v', w3, r1, r2, r3⟩ := oB.push (P := Tryd.prog) (ts := 30) (ty := 30) ci_len ci_one (by decide) Tryd.underlying30 info_int rfl (by decide) (k : Int) (cs := #[.int .i64 (k : Int)]) rfl (by omega)
          have HR : Hid (_ = _) := r1
          have hown : ∀ q, u5.ownBlock = some q → N + 1 ≤ q := fun q hq => (own_block oa.own hq).2
          have K3 : Keeps (fun q => N + 1 ≤ q) (wr.alloc (.cells #[.int .i64 th, .int .i64 6, .int .u64 ad, .int .u64 wd, .bool own, .int .i64 er] 44)) w3 := r3.keeps.mono (fun q _ hq => hown q hq)
          have FN : Hid (OwnR Ci 1 3 w3 (N + 1) v' (acc ++ [(k : Int)]) ∧ commF L 0 = (acc ++ [(k : Int)]) ++ commF (L.drop (k + 1)) (k + 1) ∧ (acc ++ [(k : Int)]).length ≤ k + 1) := ⟨r2, by rw [hF]; simp, by simp; omega⟩
          have KR := (kr.trans kB).young K3 (fun q hq => by omega)
          have b1' := (K3.block _ (lt_of_block ((kB.block _ (lt_of_block br1) (fun f => f)).trans br1)) (by omega)).trans ((kB.block _ (lt_of_block br1) (fun f => f)).trans br1)
          have b2' := (K3.block _ (lt_of_block ((kB.block _ (lt_of_block br2) (fun f => f)).trans br2)) (by omega)).trans ((kB.block _ (lt_of_block br2) (fun f => f)).trans br2)
          have hN3 : N + 1 ≤ w3.heap.size := by have := K3.size; have := kB.size; omega
          obtain ⟨ua, uc, hu⟩ := oa.form
          subst hu
          clear hh hF oa oB r1 r2 r3 K3 hown
          rw [hwb] at HR
          go_wp2_with (at_builtin; refine wpList_append_run rfl _ _ 30 rfl rfl rfl HR.out ?_; clear HR)
          go_roundw
          · exact ⟨k + 1, acc ++ [(k : Int)], by simp, by omega, FN, b1', b2', KR, hN3⟩
          · simp [intOf]; omega
        · rw [if_neg hkd] at hF
          have hkb : (kd == 6) = false := by simpa using hkd
          have kB := (Keeps.refl (fun _ => False) wr).alloc (.cells #[.int .i64 th, .int .i64 kd, .int .u64 ad, .int .u64 wd, .bool own, .int .i64 er] 44)
          have FN : Hid (OwnR Ci 1 3 (wr.alloc (.cells #[.int .i64 th, .int .i64 kd, .int .u64 ad, .int .u64 wd, .bool own, .int .i64 er] 44)) (N + 1) u5 acc ∧ commF L 0 = acc ++ commF (L.drop (k + 1)) (k + 1) ∧ acc.length ≤ k + 1) := ⟨oa.keeps kB (fun _ _ f => f), hF, by omega⟩
          have b1' := (kB.block _ (lt_of_block br1) (fun f => f)).trans br1
          have b2' := (kB.block _ (lt_of_block br2) (fun f => f)).trans br2
          have hN3 : N + 1 ≤ (wr.alloc (.cells #[.int .i64 th, .int .i64 kd, .int .u64 ad, .int .u64 wd, .bool own, .int .i64 er] 44)).heap.size := by have := kB.size; omega
          have KR := kr.trans kB
          clear hh hF oa
          go_wp2_with fail
          go_roundw
          · exact ⟨k + 1, acc, by simp, by omega, FN, b1', b2', KR, hN3⟩
          · simp [intOf]; omega
      · obtain rfl : k = L.length := by omega
        obtain ⟨oa, hF, hal⟩ := hh.out
        rw [List.drop_length] at hF
        have hF2 : commF L 0 = acc := by rw [hF]; simp [commF]
        have HO : Hid (OwnR Ci 1 3 wr w.heap.size u5 (commF L 0)) := by unfold Hid; rw [hF2]; exact oa.low (by omega)
        have HG : Hid (∀ g, u5.ownBlock = some g → w.heap.size < g) := fun g hg => by have := (own_block oa.own hg).2; omega
        have c0 : wr.cell? ⟨w.heap.size, 0, none⟩ = some (.int .i64 0) := by rw [cell_of_block br1]; rfl
        have c1 : wr.cell? ⟨w.heap.size, 1, none⟩ = some (.int .i64 0) := by rw [cell_of_block br1]; rfl
        have f0 : wr.frozen? ⟨w.heap.size, 0, none⟩ = false := frozen_of_block br1 _
        have f1 : wr.frozen? ⟨w.heap.size, 1, none⟩ = false := frozen_of_block br1 _
        have hS0 : wr.cell? ⟨N, 0, none⟩ = some (.int .i64 (-1)) ∧ wr.cell? ⟨N, 1, none⟩ = some (.int .i64 0) := ⟨by rw [cell_of_block br2]; rfl, by rw [cell_of_block br2]; rfl⟩
        have hne : ¬ w.heap.size = N := by omega
        have BE : Hid (((wr.setCell ⟨w.heap.size, 0, none⟩ (.int .i64 (-1))).setCell ⟨w.heap.size, 1, none⟩ (.int .i64 0)).heap[w.heap.size]? = some (.cells (odV (-1) 0) 27 (0, 0))) := block_set (block_set br1 0 (.int .i64 (-1))) 1 (.int .i64 0)
        have KE := kr
        clear br1 br2 hh oa hF hF2
        go_wp2_with fail
        go_region_held3 (fun W : World => W.cell? ⟨N, 0, none⟩ = some (.int .i64 (-1)) ∧ W.cell? ⟨N, 1, none⟩ = some (.int .i64 0)) (first | assumption | (exact hS0) | go_keep) (fail)
        go_wp2_with fail
        refine bodyPost_ret (odd_ret2 rfl _ _ w.heap.size (odV (-1) 0) BE.out rfl rfl) rfl ?_
        have KF := (((Keeps.refl (fun q => q = w.heap.size) wr).setCell (p := ⟨w.heap.size, 0, none⟩) (.inr rfl) (.int .i64 (-1))).setCell (p := ⟨w.heap.size, 1, none⟩) (.inr rfl) (.int .i64 0)).drew
        exact ⟨_, rfl, HO.out.keeps KF (fun g hg e => by have := HG.out g hg; omega), (((KE.setCell (.inl (Nat.le_refl _)) _).setCell (.inl (Nat.le_refl _)) _).drew)⟩
  · rw [if_neg hce]
    have hcb : (ce == 0) = false := by simpa using hce
    clear hch
    go_enter Tryd.func11, Tryd.ntmps11
    go_wp2_with fail
    refine CK.mono ?_
    rintro ex w1 ⟨rfl, k1⟩
    have K1 := k0.trans k1
    have B1 := (k1.block _ (lt_of_block b0) (fun f => f)).trans b0
    clear CK k0 k1 b0
    have kA := (Keeps.refl (fun _ => False) w1).alloc (.cells #[.int .i64 ca, .int .i64 ce] 27)
    have bA := (MapKept.heap_alloc w1 (.cells #[.int .i64 ca, .int .i64 ce] 27)).1
    have B2 := (kA.block _ (lt_of_block B1) (fun f => f)).trans B1
    have hlt1 := lt_of_block B1
    have hS0' : (w1.alloc (.cells #[.int .i64 ca, .int .i64 ce] 27)).cell? ⟨w1.heap.size, 1, none⟩ = some (.int .i64 ce) := by rw [cell_of_block bA]; rfl
    go_wp2_with fail
    generalize hW : w1.alloc (.cells #[.int .i64 ca, .int .i64 ce] 27) = W at *
    have c0 : W.cell? ⟨w.heap.size, 0, none⟩ = some (.int .i64 0) := by rw [cell_of_block B2]; rfl
    have c1 : W.cell? ⟨w.heap.size, 1, none⟩ = some (.int .i64 0) := by rw [cell_of_block B2]; rfl
    have f0 : W.frozen? ⟨w.heap.size, 0, none⟩ = false := frozen_of_block B2 _
    have f1 : W.frozen? ⟨w.heap.size, 1, none⟩ = false := frozen_of_block B2 _
    have hS0 : W.cell? ⟨w1.heap.size, 0, none⟩ = some (.int .i64 ca) ∧ W.cell? ⟨w1.heap.size, 1, none⟩ = some (.int .i64 ce) := ⟨by rw [cell_of_block bA]; rfl, by rw [cell_of_block bA]; rfl⟩
    have hne : ¬ w.heap.size = w1.heap.size := by omega
    have BE : Hid (∀ X : World, X.heap = W.heap → ((X.setCell ⟨w.heap.size, 0, none⟩ (.int .i64 ca)).setCell ⟨w.heap.size, 1, none⟩ (.int .i64 ce)).heap[w.heap.size]? = some (.cells (odV ca ce) 27 (0, 0))) := fun X hX => by
      have := block_set (block_set (w := X) (by rw [hX]; exact B2) 0 (.int .i64 ca)) 1 (.int .i64 ce)
      exact this
    have KE := K1.trans kA
    clear hW kA bA B2 K1 hS0'
    go_region_held3 (fun W : World => W.cell? ⟨w1.heap.size, 0, none⟩ = some (.int .i64 ca) ∧ W.cell? ⟨w1.heap.size, 1, none⟩ = some (.int .i64 ce)) (first | assumption | (exact hS0) | go_keep) (fail)
    go_wp2_with fail
    refine bodyPost_ret (odd_ret2 rfl _ _ w.heap.size (odV ca ce) (BE.out W rfl) rfl rfl) rfl ?_
    exact ⟨_, rfl, OwnR.nilB _ _ _ _ _ (Nat.le_trans KE.size (by simp)), (((KE.setCell (.inl (Nat.le_refl _)) _).setCell (.inl (Nat.le_refl _)) _).drew)⟩
set_option maxRecDepth 100000 in
set_option maxHeartbeats 8000000 in
theorem rcommits_any (v : Value) (L : List Ev) (w : World) (hv : EvsAt w v L) :
    Calls Tryd.prog 14 #[v] w fun ex w' => ∃ tv, ex = .returned (.tuple #[tv, .agg (odV (checkL L).1 (checkL L).2)]) ∧ OwnR Ci 1 3 w' w.heap.size tv (if (checkL L).2 = 0 then commF L 0 else []) ∧ Keeps (fun _ => False) w w' := by
  have hbig := hv.big
  have hch := chk_yes L st0 0
  change (checkL L).2 = 0 → checkL L = (-1, 0) at hch
  have HV : Hid (∀ X, Keeps (fun _ => False) w X → EvsAt X v L) := fun X k => hv.keeps k
  obtain ⟨a, cap, rfl, hcap⟩ := hv.els.shape
  clear hv
  have k0 := (Keeps.refl (fun _ => False) w).alloc (.cells (odV 0 0) 27)
  have b0 : (w.alloc (.cells (odV 0 0) 27)).heap[w.heap.size]? = some (.cells (odV 0 0) 27 (0, 0)) := (MapKept.heap_alloc w _).1
  have CK := rcheck_any _ L _ (HV.out _ k0)
  unfold odV at k0 b0 CK
  have _h := hbig
  generalize hcl : checkL L = cl at *
  obtain ⟨ca, ce⟩ := cl
  dsimp only at *
  by_cases hce : ce = 0
  · subst hce
    obtain ⟨hca, -⟩ := Prod.mk.inj (hch rfl)
    subst hca
    rw [if_pos rfl]
    clear hch
    go_enter Tryd.func14, Tryd.ntmps14
    go_wp2_with fail
    refine CK.mono ?_
    rintro ex w1 ⟨rfl, k1⟩
    have K1 := k0.trans k1
    have B1 := (k1.block _ (lt_of_block b0) (fun f => f)).trans b0
    clear CK k0 k1 b0
    have kA := (Keeps.refl (fun _ => False) w1).alloc (.cells #[.int .i64 (-1), .int .i64 0] 27)
    have bA := (MapKept.heap_alloc w1 (.cells #[.int .i64 (-1), .int .i64 0] 27)).1
    have B2 := (kA.block _ (lt_of_block B1) (fun f => f)).trans B1
    have hlt1 := lt_of_block B1
    have hb1 : (w1.alloc (.cells #[.int .i64 (-1), .int .i64 0] 27)).heap.size = w1.heap.size + 1 := by simp
    go_wp2_with fail
    generalize hW : w1.alloc (.cells #[.int .i64 (-1), .int .i64 0] 27) = W at *
    obtain ⟨N, hN⟩ : ∃ N, N = w1.heap.size := ⟨_, rfl⟩
    rw [← hN] at bA hb1 hlt1 ⊢
    have KW := K1.trans kA
    have nilW : OwnR Ci 1 3 W (N + 1) (.slice none 0 0) [] := OwnR.nilB _ _ _ _ _ (by omega)
    clear hW kA hN K1
    go_loopw [5, 6] (fun x u wr => ∃ (k : Nat) (acc : List Int), u = .int .i64 k ∧ k ≤ L.length ∧ Hid (OwnR Ci 1 3 wr (N + 1) x acc ∧ commF L 0 = acc ++ commF (L.drop k) k ∧ acc.length ≤ k) ∧ wr.heap[w.heap.size]? = some (.cells #[.int .i64 0, .int .i64 0] 27 (0, 0)) ∧ wr.heap[N]? = some (.cells #[.int .i64 (-1), .int .i64 0] 27 (0, 0)) ∧ Keeps (fun _ => False) w wr ∧ N + 1 ≤ wr.heap.size) (fun _ u _ => L.length - (intOf u).toNat)
    case atStart => exact ⟨0, [], rfl, Nat.zero_le _, ⟨nilW, by simp, by simp⟩, B2, bA, KW, by omega⟩
    case round =>
      clear nilW B2 bA KW
      obtain ⟨k, acc, rfl, hk, hh, br1, br2, kr, hNs⟩ := hrel
      have d1 : wr.cell? ⟨N, 1, none⟩ = some (.int .i64 0) := by rw [cell_of_block br2]; rfl
      by_cases hlt : k < L.length
      · obtain ⟨oa, hF, hal⟩ := hh.out
        have hki : (k : Int) < L.length := by omega
        have hk0 : (0 : Int) ≤ k := by omega
        obtain ⟨g, off, rfl, x0, x1, x2, x3, x4, x5⟩ := (HV.out wr kr).at k hlt
        have hdrop : L.drop k = L[k] :: L.drop (k + 1) := List.drop_eq_getElem_cons hlt
        rw [hdrop, commF] at hF
        have _h2 := hlt
        generalize hev : L[k]'hlt = e at *
        obtain ⟨th, kd, ad, wd, own, er⟩ := e
        dsimp only at x0 x1 x2 x3 x4 x5 hF
        clear hev hdrop
        by_cases hkd : kd = 6
        · subst hkd
          rw [if_pos rfl] at hF
          have kB := Keeps.refl (fun _ => False) wr
          have oB := oa
          obtain ⟨v', w3, r1, r2, r3⟩ := oB.push (P := Tryd.prog) (ts := 30) (ty := 30) ci_len ci_one (by decide) Tryd.underlying30 info_int rfl (by decide) (k : Int) (cs := #[.int .i64 (k : Int)]) rfl (by omega)
          have HR : Hid (_ = _) := r1
          have hown : ∀ q, u5.ownBlock = some q → N + 1 ≤ q := fun q hq => (own_block oa.own hq).2
          have K3 : Keeps (fun q => N + 1 ≤ q) wr w3 := r3.keeps.mono (fun q _ hq => hown q hq)
          have FN : Hid (OwnR Ci 1 3 w3 (N + 1) v' (acc ++ [(k : Int)]) ∧ commF L 0 = (acc ++ [(k : Int)]) ++ commF (L.drop (k + 1)) (k + 1) ∧ (acc ++ [(k : Int)]).length ≤ k + 1) := ⟨r2, by rw [hF]; simp, by simp; omega⟩
          have KR := (kr.trans kB).young K3 (fun q hq => by omega)
          have b1' := (K3.block _ (lt_of_block ((kB.block _ (lt_of_block br1) (fun f => f)).trans br1)) (by omega)).trans ((kB.block _ (lt_of_block br1) (fun f => f)).trans br1)
          have b2' := (K3.block _ (lt_of_block ((kB.block _ (lt_of_block br2) (fun f => f)).trans br2)) (by omega)).trans ((kB.block _ (lt_of_block br2) (fun f => f)).trans br2)
          have hN3 : N + 1 ≤ w3.heap.size := by have := K3.size; have := kB.size; omega
          obtain ⟨ua, uc, hu⟩ := oa.form
          subst hu
          clear hh hF oa oB r1 r2 r3 K3 hown
          go_wp2_with (at_builtin; refine wpList_append_run rfl _ _ 30 rfl rfl rfl HR.out ?_; clear HR)
          go_roundw
          · exact ⟨k + 1, acc ++ [(k : Int)], by simp, by omega, FN, b1', b2', KR, hN3⟩
          · simp [intOf]; omega
        · rw [if_neg hkd] at hF
          have hkb : (kd == 6) = false := by simpa using hkd
          have FN : Hid (OwnR Ci 1 3 wr (N + 1) u5 acc ∧ commF L 0 = acc ++ commF (L.drop (k + 1)) (k + 1) ∧ acc.length ≤ k + 1) := ⟨oa, hF, by omega⟩
          clear hh hF oa
          go_wp2_with fail
          go_roundw
          · exact ⟨k + 1, acc, by simp, by omega, FN, br1, br2, kr, hNs⟩
          · simp [intOf]; omega
      · obtain rfl : k = L.length := by omega
        obtain ⟨oa, hF, hal⟩ := hh.out
        rw [List.drop_length] at hF
        have hF2 : commF L 0 = acc := by rw [hF]; simp [commF]
        have HO : Hid (OwnR Ci 1 3 wr w.heap.size u5 (commF L 0)) := by unfold Hid; rw [hF2]; exact oa.low (by omega)
        have HG : Hid (∀ g, u5.ownBlock = some g → w.heap.size < g) := fun g hg => by have := (own_block oa.own hg).2; omega
        have c0 : wr.cell? ⟨w.heap.size, 0, none⟩ = some (.int .i64 0) := by rw [cell_of_block br1]; rfl
        have c1 : wr.cell? ⟨w.heap.size, 1, none⟩ = some (.int .i64 0) := by rw [cell_of_block br1]; rfl
        have f0 : wr.frozen? ⟨w.heap.size, 0, none⟩ = false := frozen_of_block br1 _
        have f1 : wr.frozen? ⟨w.heap.size, 1, none⟩ = false := frozen_of_block br1 _
        have hS0 : wr.cell? ⟨N, 0, none⟩ = some (.int .i64 (-1)) ∧ wr.cell? ⟨N, 1, none⟩ = some (.int .i64 0) := ⟨by rw [cell_of_block br2]; rfl, by rw [cell_of_block br2]; rfl⟩
        have hne : ¬ w.heap.size = N := by omega
        have BE : Hid (((wr.setCell ⟨w.heap.size, 0, none⟩ (.int .i64 (-1))).setCell ⟨w.heap.size, 1, none⟩ (.int .i64 0)).heap[w.heap.size]? = some (.cells (odV (-1) 0) 27 (0, 0))) := block_set (block_set br1 0 (.int .i64 (-1))) 1 (.int .i64 0)
        have KE := kr
        clear br1 br2 hh oa hF hF2
        go_wp2_with fail
        go_region_held3 (fun W : World => W.cell? ⟨N, 0, none⟩ = some (.int .i64 (-1)) ∧ W.cell? ⟨N, 1, none⟩ = some (.int .i64 0)) (first | assumption | (exact hS0) | go_keep) (fail)
        go_wp2_with fail
        refine bodyPost_ret (odd_ret2 rfl _ _ w.heap.size (odV (-1) 0) BE.out rfl rfl) rfl ?_
        have KF := (((Keeps.refl (fun q => q = w.heap.size) wr).setCell (p := ⟨w.heap.size, 0, none⟩) (.inr rfl) (.int .i64 (-1))).setCell (p := ⟨w.heap.size, 1, none⟩) (.inr rfl) (.int .i64 0)).drew
        exact ⟨_, rfl, HO.out.keeps KF (fun g hg e => by have := HG.out g hg; omega), (((KE.setCell (.inl (Nat.le_refl _)) _).setCell (.inl (Nat.le_refl _)) _).drew)⟩
  · rw [if_neg hce]
    have hcb : (ce == 0) = false := by simpa using hce
    clear hch
    go_enter Tryd.func14, Tryd.ntmps14
    go_wp2_with fail
    refine CK.mono ?_
    rintro ex w1 ⟨rfl, k1⟩
    have K1 := k0.trans k1
    have B1 := (k1.block _ (lt_of_block b0) (fun f => f)).trans b0
    clear CK k0 k1 b0
    have kA := (Keeps.refl (fun _ => False) w1).alloc (.cells #[.int .i64 ca, .int .i64 ce] 27)
    have bA := (MapKept.heap_alloc w1 (.cells #[.int .i64 ca, .int .i64 ce] 27)).1
    have B2 := (kA.block _ (lt_of_block B1) (fun f => f)).trans B1
    have hlt1 := lt_of_block B1
    have hS0' : (w1.alloc (.cells #[.int .i64 ca, .int .i64 ce] 27)).cell? ⟨w1.heap.size, 1, none⟩ = some (.int .i64 ce) := by rw [cell_of_block bA]; rfl
    go_wp2_with fail
    generalize hW : w1.alloc (.cells #[.int .i64 ca, .int .i64 ce] 27) = W at *
    have KE := K1.trans kA
    have hsW := lt_of_block bA
    clear hW kA
    go_loopw [5, 6] (fun x u wr => x = .slice none 0 0 ∧ u = .int .i64 0 ∧ wr = W) (fun _ _ _ => 0)
    case atStart => exact ⟨rfl, rfl, rfl⟩
    case round =>
      obtain ⟨rfl, rfl, rfl⟩ := hrel
      have c0 : wr.cell? ⟨w.heap.size, 0, none⟩ = some (.int .i64 0) := by rw [cell_of_block B2]; rfl
      have c1 : wr.cell? ⟨w.heap.size, 1, none⟩ = some (.int .i64 0) := by rw [cell_of_block B2]; rfl
      have f0 : wr.frozen? ⟨w.heap.size, 0, none⟩ = false := frozen_of_block B2 _
      have f1 : wr.frozen? ⟨w.heap.size, 1, none⟩ = false := frozen_of_block B2 _
      have hS0 : wr.cell? ⟨w1.heap.size, 0, none⟩ = some (.int .i64 ca) ∧ wr.cell? ⟨w1.heap.size, 1, none⟩ = some (.int .i64 ce) := ⟨by rw [cell_of_block bA]; rfl, by rw [cell_of_block bA]; rfl⟩
      have hne : ¬ w.heap.size = w1.heap.size := by omega
      have BE : Hid (∀ X : World, X.heap = wr.heap → ((X.setCell ⟨w.heap.size, 0, none⟩ (.int .i64 ca)).setCell ⟨w.heap.size, 1, none⟩ (.int .i64 ce)).heap[w.heap.size]? = some (.cells (odV ca ce) 27 (0, 0))) := fun X hX => by
        have := block_set (block_set (w := X) (by rw [hX]; exact B2) 0 (.int .i64 ca)) 1 (.int .i64 ce)
        exact this
      clear bA B2
      by_cases hl0 : (0 : Int) < (L.length : Int)
      · have hld : decide ((0 : Int) < (L.length : Int)) = true := decide_eq_true hl0
        go_wp2_with fail
        go_region_held3 (fun W : World => W.cell? ⟨w1.heap.size, 0, none⟩ = some (.int .i64 ca) ∧ W.cell? ⟨w1.heap.size, 1, none⟩ = some (.int .i64 ce)) (first | assumption | (exact hS0) | go_keep) (fail)
        go_wp2_with fail
        refine bodyPost_ret (odd_ret2 rfl _ _ w.heap.size (odV ca ce) (BE.out wr rfl) rfl rfl) rfl ?_
        exact ⟨_, rfl, OwnR.nilB _ _ _ _ _ (Nat.le_trans KE.size (by simp)), (((KE.setCell (.inl (Nat.le_refl _)) _).setCell (.inl (Nat.le_refl _)) _).drew)⟩
      · have hld : decide ((0 : Int) < (L.length : Int)) = false := decide_eq_false hl0
        go_wp2_with fail
        go_region_held3 (fun W : World => W.cell? ⟨w1.heap.size, 0, none⟩ = some (.int .i64 ca) ∧ W.cell? ⟨w1.heap.size, 1, none⟩ = some (.int .i64 ce)) (first | assumption | (exact hS0) | go_keep) (fail)
        go_wp2_with fail
        refine bodyPost_ret (odd_ret2 rfl _ _ w.heap.size (odV ca ce) (BE.out wr rfl) rfl rfl) rfl ?_
        exact ⟨_, rfl, OwnR.nilB _ _ _ _ _ (Nat.le_trans KE.size (by simp)), (((KE.setCell (.inl (Nat.le_refl _)) _).setCell (.inl (Nat.le_refl _)) _).drew)⟩
set_option maxRecDepth 100000 in
set_option maxHeartbeats 8000000 in
theorem rtries_any (v : Value) (L : List Ev) (w : World) (hv : EvsAt w v L) :
    Calls Tryd.prog 13 #[v] w fun ex w' => ∃ tv, ex = .returned (.tuple #[tv, .agg (odV (checkL L).1 (checkL L).2)]) ∧ OwnR Ty.cl 7 42 w' w.heap.size tv (if (checkL L).2 = 0 then begs L 0 else []) ∧ Keeps (fun _ => False) w w' := by
  have hbig := hv.big
  have hch := chk_yes L st0 0
  change (checkL L).2 = 0 → checkL L = (-1, 0) at hch
  have HV : Hid (∀ X, Keeps (fun _ => False) w X → EvsAt X v L) := fun X k => hv.keeps k
  obtain ⟨a, cap, rfl, hcap⟩ := hv.els.shape
  clear hv
  have k0 := (Keeps.refl (fun _ => False) w).alloc (.cells (odV 0 0) 27)
  have b0 : (w.alloc (.cells (odV 0 0) 27)).heap[w.heap.size]? = some (.cells (odV 0 0) 27 (0, 0)) := (MapKept.heap_alloc w _).1
  have CK := rcheck_any _ L _ (HV.out _ k0)
  unfold odV at k0 b0 CK
  have hbl : (checkL L).2 = 0 → 2 * (begs L 0).length ≤ L.length + 8 := fun hz => by
    have := tries_few hz L.length (Nat.le_refl _)
    rw [List.take_length] at this
    rw [← tries_begs hz]
    exact this
  generalize hcl : checkL L = cl at *
  obtain ⟨ca, ce⟩ := cl
  dsimp only at *
  by_cases hce : ce = 0
  · subst hce
    obtain ⟨hca, -⟩ := Prod.mk.inj (hch rfl)
    subst hca
    rw [if_pos rfl]
    clear hch
    go_enter Tryd.func13, Tryd.ntmps13
    go_wp2_with fail
    refine CK.mono ?_
    rintro ex w1 ⟨rfl, k1⟩
    have K1 := k0.trans k1
    have B1 := (k1.block _ (lt_of_block b0) (fun f => f)).trans b0
    clear CK k0 k1 b0
    have kA := (Keeps.refl (fun _ => False) w1).alloc (.cells #[.int .i64 (-1), .int .i64 0] 27)
    have bA := (MapKept.heap_alloc w1 (.cells #[.int .i64 (-1), .int .i64 0] 27)).1
    have B2 := (kA.block _ (lt_of_block B1) (fun f => f)).trans B1
    have hlt1 := lt_of_block B1
    have hb1 : (w1.alloc (.cells #[.int .i64 (-1), .int .i64 0] 27)).heap.size = w1.heap.size + 1 := by simp
    go_wp2_with fail
    generalize hW : w1.alloc (.cells #[.int .i64 (-1), .int .i64 0] 27) = W at *
    obtain ⟨N, hN⟩ : ∃ N, N = w1.heap.size := ⟨_, rfl⟩
    rw [← hN] at bA hb1 hlt1 ⊢
    have KW := K1.trans kA
    have nilW : OwnR Ty.cl 7 42 W (N + 1) (.slice none 0 0) [] := OwnR.nilB _ _ _ _ _ (by omega)
    clear hW kA hN K1
    go_loopw [5, 6] (fun x u wr => ∃ (k : Nat) (acc : List Ty), u = .int .i64 k ∧ k ≤ L.length ∧ Hid (OwnR Ty.cl 7 42 wr (N + 1) x acc ∧ begs L 0 = acc ++ begs (L.drop k) k ∧ acc.length ≤ (begs L 0).length) ∧ wr.heap[w.heap.size]? = some (.cells #[.int .i64 0, .int .i64 0] 27 (0, 0)) ∧ wr.heap[N]? = some (.cells #[.int .i64 (-1), .int .i64 0] 27 (0, 0)) ∧ Keeps (fun _ => False) w wr ∧ N + 1 ≤ wr.heap.size) (fun _ u _ => L.length - (intOf u).toNat)
    case atStart => exact ⟨0, [], rfl, Nat.zero_le _, ⟨nilW, by simp, by simp⟩, B2, bA, KW, by omega⟩
    case round =>
      clear nilW B2 bA KW
      obtain ⟨k, acc, rfl, hk, hh, br1, br2, kr, hNs⟩ := hrel
      have d1 : wr.cell? ⟨N, 1, none⟩ = some (.int .i64 0) := by rw [cell_of_block br2]; rfl
      by_cases hlt : k < L.length
      · obtain ⟨oa, hF, hal⟩ := hh.out
        have hki : (k : Int) < L.length := by omega
        have hk0 : (0 : Int) ≤ k := by omega
        obtain ⟨g, off, rfl, x0, x1, x2, x3, x4, x5⟩ := (HV.out wr kr).at k hlt
        have hdrop : L.drop k = L[k] :: L.drop (k + 1) := List.drop_eq_getElem_cons hlt
        rw [hdrop, begs] at hF
        have TY := rtry_any (.slice (some ⟨g, off, none⟩) L.length cap) L k hlt wr (HV.out wr kr)
        have hbl2 := hbl (by first | rfl | trivial)
        generalize hev : L[k]'hlt = e at *
        obtain ⟨th, kd, ad, wd, own, er⟩ := e
        dsimp only at x0 x1 x2 x3 x4 x5 hF
        clear hev hdrop
        by_cases hkd : kd = 1
        · subst hkd
          rw [if_pos rfl] at hF
          have hlq := congrArg List.length hF
          simp only [List.length_append, List.length_cons] at hlq
          have hbb := hbl2
          generalize tryG (newT ⟨th, 1, ad, wd, own, er⟩ k) (L.drop (k + 1)) (k + 1) = ty at *
          obtain ⟨y1, y2, y3, y4, y5, y6, y7⟩ := ty
          unfold tyV at TY
          dsimp only at TY
          obtain ⟨ua, uc, hu⟩ := oa.form
          subst hu
          go_wp2_with fail
          refine TY.mono ?_
          rintro ex w2 ⟨rfl, kB⟩
          clear TY
          have oB := oa.keeps kB (fun _ _ f => f)
          obtain ⟨v', w3, r1, r2, r3⟩ := oB.push (P := Tryd.prog) (ts := 24) (ty := 24) ty_len ty_one (by decide) Tryd.underlying24 info_ty rfl (by decide) (⟨y1, y2, y3, y4, y5, y6, y7⟩ : Ty) (cs := #[.int .i64 y1, .int .i64 y2, .int .i64 y3, .int .u64 y4, .int .i64 y5, .int .i64 y6, .int .i64 y7]) rfl (by omega)
          have HR : Hid (_ = _) := r1
          have hown : ∀ q, (Value.slice ua acc.length uc).ownBlock = some q → N + 1 ≤ q := fun q hq => (own_block oa.own hq).2
          have K3 : Keeps (fun q => N + 1 ≤ q) w2 w3 := r3.keeps.mono (fun q _ hq => hown q hq)
          have FN : Hid (OwnR Ty.cl 7 42 w3 (N + 1) v' (acc ++ [(⟨y1, y2, y3, y4, y5, y6, y7⟩ : Ty)]) ∧ begs L 0 = (acc ++ [(⟨y1, y2, y3, y4, y5, y6, y7⟩ : Ty)]) ++ begs (L.drop (k + 1)) (k + 1) ∧ (acc ++ [(⟨y1, y2, y3, y4, y5, y6, y7⟩ : Ty)]).length ≤ (begs L 0).length) := ⟨r2, by rw [hF]; simp, by simp; omega⟩
          have KR := (kr.trans kB).young K3 (fun q hq => by omega)
          have b1' := (K3.block _ (lt_of_block ((kB.block _ (lt_of_block br1) (fun f => f)).trans br1)) (by omega)).trans ((kB.block _ (lt_of_block br1) (fun f => f)).trans br1)
          have b2' := (K3.block _ (lt_of_block ((kB.block _ (lt_of_block br2) (fun f => f)).trans br2)) (by omega)).trans ((kB.block _ (lt_of_block br2) (fun f => f)).trans br2)
          have hN3 : N + 1 ≤ w3.heap.size := by have := K3.size; have := kB.size; omega
          clear hh hF oa oB r1 r2 r3 K3 hown
          go_wp2_with (at_builtin; refine wpList_append_run rfl _ _ 24 rfl rfl rfl HR.out ?_; clear HR)
          go_roundw
          · exact ⟨k + 1, acc ++ [(⟨y1, y2, y3, y4, y5, y6, y7⟩ : Ty)], by simp, by omega, FN, b1', b2', KR, hN3⟩
          · simp [intOf]; omega
        · rw [if_neg hkd] at hF
          have hkb : (kd == 1) = false := by simpa using hkd
          have FN : Hid (OwnR Ty.cl 7 42 wr (N + 1) u5 acc ∧ begs L 0 = acc ++ begs (L.drop (k + 1)) (k + 1) ∧ acc.length ≤ (begs L 0).length) := ⟨oa, hF, by omega⟩
          clear hh hF oa
          go_wp2_with fail
          go_roundw
          · exact ⟨k + 1, acc, by simp, by omega, FN, br1, br2, kr, hNs⟩
          · simp [intOf]; omega
      · obtain rfl : k = L.length := by omega
        obtain ⟨oa, hF, hal⟩ := hh.out
        rw [List.drop_length] at hF
        have hF2 : begs L 0 = acc := by rw [hF]; simp [begs]
        have HO : Hid (OwnR Ty.cl 7 42 wr w.heap.size u5 (begs L 0)) := by unfold Hid; rw [hF2]; exact oa.low (by omega)
        have HG : Hid (∀ g, u5.ownBlock = some g → w.heap.size < g) := fun g hg => by have := (own_block oa.own hg).2; omega
        have c0 : wr.cell? ⟨w.heap.size, 0, none⟩ = some (.int .i64 0) := by rw [cell_of_block br1]; rfl
        have c1 : wr.cell? ⟨w.heap.size, 1, none⟩ = some (.int .i64 0) := by rw [cell_of_block br1]; rfl
        have f0 : wr.frozen? ⟨w.heap.size, 0, none⟩ = false := frozen_of_block br1 _
        have f1 : wr.frozen? ⟨w.heap.size, 1, none⟩ = false := frozen_of_block br1 _
        have hS0 : wr.cell? ⟨N, 0, none⟩ = some (.int .i64 (-1)) ∧ wr.cell? ⟨N, 1, none⟩ = some (.int .i64 0) := ⟨by rw [cell_of_block br2]; rfl, by rw [cell_of_block br2]; rfl⟩
        have hne : ¬ w.heap.size = N := by omega
        have BE : Hid (((wr.setCell ⟨w.heap.size, 0, none⟩ (.int .i64 (-1))).setCell ⟨w.heap.size, 1, none⟩ (.int .i64 0)).heap[w.heap.size]? = some (.cells (odV (-1) 0) 27 (0, 0))) := block_set (block_set br1 0 (.int .i64 (-1))) 1 (.int .i64 0)
        have KE := kr
        clear br1 br2 hh oa hF hF2
        go_wp2_with fail
        go_region_held3 (fun W : World => W.cell? ⟨N, 0, none⟩ = some (.int .i64 (-1)) ∧ W.cell? ⟨N, 1, none⟩ = some (.int .i64 0)) (first | assumption | (exact hS0) | go_keep) (fail)
        go_wp2_with fail
        refine bodyPost_ret (odd_ret2 rfl _ _ w.heap.size (odV (-1) 0) BE.out rfl rfl) rfl ?_
        have KF := (((Keeps.refl (fun q => q = w.heap.size) wr).setCell (p := ⟨w.heap.size, 0, none⟩) (.inr rfl) (.int .i64 (-1))).setCell (p := ⟨w.heap.size, 1, none⟩) (.inr rfl) (.int .i64 0)).drew
        exact ⟨_, rfl, HO.out.keeps KF (fun g hg e => by have := HG.out g hg; omega), (((KE.setCell (.inl (Nat.le_refl _)) _).setCell (.inl (Nat.le_refl _)) _).drew)⟩
  · rw [if_neg hce]
    have hcb : (ce == 0) = false := by simpa using hce
    clear hch
    go_enter Tryd.func13, Tryd.ntmps13
    go_wp2_with fail
    refine CK.mono ?_
    rintro ex w1 ⟨rfl, k1⟩
    have K1 := k0.trans k1
    have B1 := (k1.block _ (lt_of_block b0) (fun f => f)).trans b0
    clear CK k0 k1 b0
    have kA := (Keeps.refl (fun _ => False) w1).alloc (.cells #[.int .i64 ca, .int .i64 ce] 27)
    have bA := (MapKept.heap_alloc w1 (.cells #[.int .i64 ca, .int .i64 ce] 27)).1
    have B2 := (kA.block _ (lt_of_block B1) (fun f => f)).trans B1
    have hlt1 := lt_of_block B1
    have hS0' : (w1.alloc (.cells #[.int .i64 ca, .int .i64 ce] 27)).cell? ⟨w1.heap.size, 1, none⟩ = some (.int .i64 ce) := by rw [cell_of_block bA]; rfl
    go_wp2_with fail
    generalize hW : w1.alloc (.cells #[.int .i64 ca, .int .i64 ce] 27) = W at *
    have c0 : W.cell? ⟨w.heap.size, 0, none⟩ = some (.int .i64 0) := by rw [cell_of_block B2]; rfl
    have c1 : W.cell? ⟨w.heap.size, 1, none⟩ = some (.int .i64 0) := by rw [cell_of_block B2]; rfl
    have f0 : W.frozen? ⟨w.heap.size, 0, none⟩ = false := frozen_of_block B2 _
    have f1 : W.frozen? ⟨w.heap.size, 1, none⟩ = false := frozen_of_block B2 _
    have hS0 : W.cell? ⟨w1.heap.size, 0, none⟩ = some (.int .i64 ca) ∧ W.cell? ⟨w1.heap.size, 1, none⟩ = some (.int .i64 ce) := ⟨by rw [cell_of_block bA]; rfl, by rw [cell_of_block bA]; rfl⟩
    have hne : ¬ w.heap.size = w1.heap.size := by omega
    have BE : Hid (∀ X : World, X.heap = W.heap → ((X.setCell ⟨w.heap.size, 0, none⟩ (.int .i64 ca)).setCell ⟨w.heap.size, 1, none⟩ (.int .i64 ce)).heap[w.heap.size]? = some (.cells (odV ca ce) 27 (0, 0))) := fun X hX => by
      have := block_set (block_set (w := X) (by rw [hX]; exact B2) 0 (.int .i64 ca)) 1 (.int .i64 ce)
      exact this
    have KE := K1.trans kA
    clear hW kA bA B2 K1 hS0'
    go_region_held3 (fun W : World => W.cell? ⟨w1.heap.size, 0, none⟩ = some (.int .i64 ca) ∧ W.cell? ⟨w1.heap.size, 1, none⟩ = some (.int .i64 ce)) (first | assumption | (exact hS0) | go_keep) (fail)
    go_wp2_with fail
    refine bodyPost_ret (odd_ret2 rfl _ _ w.heap.size (odV ca ce) (BE.out W rfl) rfl rfl) rfl ?_
    exact ⟨_, rfl, OwnR.nilB _ _ _ _ _ (Nat.le_trans KE.size (by simp)), (((KE.setCell (.inl (Nat.le_refl _)) _).setCell (.inl (Nat.le_refl _)) _).drew)⟩
end Go.Proofs.YtjaldfmdjnkoeaaDoor
