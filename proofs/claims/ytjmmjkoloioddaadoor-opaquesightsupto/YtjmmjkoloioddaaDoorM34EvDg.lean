/-
  No statement of the seat is proved here. (Several texts in one: EvDg, OqM.)
-/
import Derived.Test.YtjmmjkoloioddaaDoorM30EvDf
import Derived.Test.YtjmmjkoloioddaaDoorEvDj
import Derived.Test.YtjmmjkoloioddaaDoorM22OqK
import Derived.Test.YtjmmjkoloioddaaDoorM31EvCb

/- Walks of Commits of both, of the document's Tries (packages events, parleyref13). No statement of the seat is proved here. -/
namespace Go.Proofs.YtjmmjkoloioddaaDoor
open Go.RowKit Go.Shelf

set_option maxRecDepth 100000 in
set_option maxHeartbeats 8000000 in
theorem rtries_any (v : Value) (L : List Ev) (w : World) (hv : EvsAt w v L) :
    Calls Tryd.prog 19 #[v] w fun ex w' => ∃ tv, ex = .returned (.tuple #[tv, .agg (odV (checkL L).1 (checkL L).2)]) ∧ OwnR Ty.cl 7 38 w' w.heap.size tv (if (checkL L).2 = 0 then begs L 0 else []) ∧ Keeps (fun _ => False) w w' := by
  have hbig := hv.big
  have hch := chk_yes L st0 0
  change (checkL L).2 = 0 → checkL L = (-1, 0) at hch
  have HV : Hid (∀ X, Keeps (fun _ => False) w X → EvsAt X v L) := fun X k => hv.keeps k
  obtain ⟨a, cap, rfl, hcap⟩ := hv.els.shape
  clear hv
  have k0 := (Keeps.refl (fun _ => False) w).alloc (.cells (odV 0 0) 28)
  have b0 : (w.alloc (.cells (odV 0 0) 28)).heap[w.heap.size]? = some (.cells (odV 0 0) 28 (0, 0)) := (MapKept.heap_alloc w _).1
  have CK := rcheck_any _ L _ (HV.out _ k0)
  unfold odV at k0 b0 CK
  have hbl : (checkL L).2 = 0 → 2 * (begs L 0).length ≤ L.length + 8 := fun hz => by
    have := tries_few hz L.length (Nat.le_refl _)
    rw [List.take_length] at this
    rw [← tries_begs hz]
    exact this
  generalize hcl : checkL L = cl at *
  obtain ⟨ca, ce⟩ := cl
  dsimp only at *
  by_cases hce : ce = 0
  · subst hce
    obtain ⟨hca, -⟩ := Prod.mk.inj (hch rfl)
    subst hca
    rw [if_pos rfl]
    clear hch
    go_enter Tryd.func19, Tryd.ntmps19
    go_wp2_with fail
    refine CK.mono ?_
    rintro ex w1 ⟨rfl, k1⟩
    have K1 := k0.trans k1
    have B1 := (k1.block _ (lt_of_block b0) (fun f => f)).trans b0
    clear CK k0 k1 b0
    have kA := (Keeps.refl (fun _ => False) w1).alloc (.cells #[.int .i64 (-1), .int .i64 0] 28)
    have bA := (MapKept.heap_alloc w1 (.cells #[.int .i64 (-1), .int .i64 0] 28)).1
    have B2 := (kA.block _ (lt_of_block B1) (fun f => f)).trans B1
    have hlt1 := lt_of_block B1
    have hb1 : (w1.alloc (.cells #[.int .i64 (-1), .int .i64 0] 28)).heap.size = w1.heap.size + 1 := by simp
    go_wp2_with fail
    generalize hW : w1.alloc (.cells #[.int .i64 (-1), .int .i64 0] 28) = W at *
    obtain ⟨N, hN⟩ : ∃ N, N = w1.heap.size := ⟨_, rfl⟩
    rw [← hN] at bA hb1 hlt1 ⊢
    have KW := K1.trans kA
    have nilW : OwnR Ty.cl 7 38 W (N + 1) (.slice none 0 0) [] := OwnR.nilB _ _ _ _ _ (by omega)
    clear hW kA hN K1
    go_loopw [5, 6] (fun x u wr => ∃ (k : Nat) (acc : List Ty), u = .int .i64 k ∧ k ≤ L.length ∧ Hid (OwnR Ty.cl 7 38 wr (N + 1) x acc ∧ begs L 0 = acc ++ begs (L.drop k) k ∧ acc.length ≤ (begs L 0).length) ∧ wr.heap[w.heap.size]? = some (.cells #[.int .i64 0, .int .i64 0] 28 (0, 0)) ∧ wr.heap[N]? = some (.cells #[.int .i64 (-1), .int .i64 0] 28 (0, 0)) ∧ Keeps (fun _ => False) w wr ∧ N + 1 ≤ wr.heap.size) (fun _ u _ => L.length - (intOf u).toNat)
    case atStart => exact ⟨0, [], rfl, Nat.zero_le _, ⟨nilW, by simp, by simp⟩, B2, bA, KW, by omega⟩
    case round =>
      clear nilW B2 bA KW
      obtain ⟨k, acc, rfl, hk, hh, br1, br2, kr, hNs⟩ := hrel
      have d1 : wr.cell? ⟨N, 1, none⟩ = some (.int .i64 0) := by rw [cell_of_block br2]; rfl
      by_cases hlt : k < L.length
      · obtain ⟨oa, hF, hal⟩ := hh.out
        have hki : (k : Int) < L.length := by omega
        have hk0 : (0 : Int) ≤ k := by omega
        obtain ⟨g, off, rfl, x0, x1, x2, x3, x4, x5⟩ := (HV.out wr kr).at k hlt
        have hdrop : L.drop k = L[k] :: L.drop (k + 1) := List.drop_eq_getElem_cons hlt
        rw [hdrop, begs] at hF
        have TY := rtry_any (.slice (some ⟨g, off, none⟩) L.length cap) L k hlt wr (HV.out wr kr)
        have hbl2 := hbl (by first | rfl | trivial)
        generalize hev : L[k]'hlt = e at *
        obtain ⟨th, kd, ad, wd, own, er⟩ := e
        dsimp only at x0 x1 x2 x3 x4 x5 hF
        clear hev hdrop
        by_cases hkd : kd = 1
        · subst hkd
          rw [if_pos rfl] at hF
          have hlq := congrArg List.length hF
          simp only [List.length_append, List.length_cons] at hlq
          have hbb := hbl2
          generalize tryG (newT ⟨th, 1, ad, wd, own, er⟩ k) (L.drop (k + 1)) (k + 1) = ty at *
          obtain ⟨y1, y2, y3, y4, y5, y6, y7⟩ := ty
          unfold tyV at TY
          dsimp only at TY
          obtain ⟨ua, uc, hu⟩ := oa.form
          subst hu
          go_wp2_with fail
          refine TY.mono ?_
          rintro ex w2 ⟨rfl, kB⟩
          clear TY
          have oB := oa.keeps kB (fun _ _ f => f)
          obtain ⟨v', w3, r1, r2, r3⟩ := oB.push (P := Tryd.prog) (ts := 56) (ty := 56) ty_len ty_one (by decide) Tryd.underlying56 info_ty rfl (by decide) (⟨y1, y2, y3, y4, y5, y6, y7⟩ : Ty) (cs := #[.int .i64 y1, .int .i64 y2, .int .i64 y3, .int .u64 y4, .int .i64 y5, .int .i64 y6, .int .i64 y7]) rfl (by omega)
          have HR : Hid (_ = _) := r1
          have hown : ∀ q, (Value.slice ua acc.length uc).ownBlock = some q → N + 1 ≤ q := fun q hq => (own_block oa.own hq).2
          have K3 : Keeps (fun q => N + 1 ≤ q) w2 w3 := r3.keeps.mono (fun q _ hq => hown q hq)
          have FN : Hid (OwnR Ty.cl 7 38 w3 (N + 1) v' (acc ++ [(⟨y1, y2, y3, y4, y5, y6, y7⟩ : Ty)]) ∧ begs L 0 = (acc ++ [(⟨y1, y2, y3, y4, y5, y6, y7⟩ : Ty)]) ++ begs (L.drop (k + 1)) (k + 1) ∧ (acc ++ [(⟨y1, y2, y3, y4, y5, y6, y7⟩ : Ty)]).length ≤ (begs L 0).length) := ⟨r2, by rw [hF]; simp, by simp; omega⟩
          have KR := (kr.trans kB).young K3 (fun q hq => by omega)
          have b1' := (K3.block _ (lt_of_block ((kB.block _ (lt_of_block br1) (fun f => f)).trans br1)) (by omega)).trans ((kB.block _ (lt_of_block br1) (fun f => f)).trans br1)
          have b2' := (K3.block _ (lt_of_block ((kB.block _ (lt_of_block br2) (fun f => f)).trans br2)) (by omega)).trans ((kB.block _ (lt_of_block br2) (fun f => f)).trans br2)
          have hN3 : N + 1 ≤ w3.heap.size := by have := K3.size; have := kB.size; omega
          clear hh hF oa oB r1 r2 r3 K3 hown
          go_wp2_with (at_builtin; refine wpList_append_run rfl _ _ 56 rfl rfl rfl HR.out ?_; clear HR)
          go_roundw
          · exact ⟨k + 1, acc ++ [(⟨y1, y2, y3, y4, y5, y6, y7⟩ : Ty)], by simp, by omega, FN, b1', b2', KR, hN3⟩
          · simp [intOf]; omega
        · rw [if_neg hkd] at hF
          have hkb : (kd == 1) = false := by simpa using hkd
          have FN : Hid (OwnR Ty.cl 7 38 wr (N + 1) u5 acc ∧ begs L 0 = acc ++ begs (L.drop (k + 1)) (k + 1) ∧ acc.length ≤ (begs L 0).length) := ⟨oa, hF, by omega⟩
          clear hh hF oa
          go_wp2_with fail
          go_roundw
          · exact ⟨k + 1, acc, by simp, by omega, FN, br1, br2, kr, hNs⟩
          · simp [intOf]; omega
      · obtain rfl : k = L.length := by omega
        obtain ⟨oa, hF, hal⟩ := hh.out
        rw [List.drop_length] at hF
        have hF2 : begs L 0 = acc := by rw [hF]; simp [begs]
        have HO : Hid (OwnR Ty.cl 7 38 wr w.heap.size u5 (begs L 0)) := by unfold Hid; rw [hF2]; exact oa.lowE (by omega)
        have HG : Hid (∀ g, u5.ownBlock = some g → w.heap.size < g) := fun g hg => by have := (own_block oa.own hg).2; omega
        have c0 : wr.cell? ⟨w.heap.size, 0, none⟩ = some (.int .i64 0) := by rw [cell_of_block br1]; rfl
        have c1 : wr.cell? ⟨w.heap.size, 1, none⟩ = some (.int .i64 0) := by rw [cell_of_block br1]; rfl
        have f0 : wr.frozen? ⟨w.heap.size, 0, none⟩ = false := frozen_of_block br1 _
        have f1 : wr.frozen? ⟨w.heap.size, 1, none⟩ = false := frozen_of_block br1 _
        have hS0 : wr.cell? ⟨N, 0, none⟩ = some (.int .i64 (-1)) ∧ wr.cell? ⟨N, 1, none⟩ = some (.int .i64 0) := ⟨by rw [cell_of_block br2]; rfl, by rw [cell_of_block br2]; rfl⟩
        have hne : ¬ w.heap.size = N := by omega
        have BE : Hid (((wr.setCell ⟨w.heap.size, 0, none⟩ (.int .i64 (-1))).setCell ⟨w.heap.size, 1, none⟩ (.int .i64 0)).heap[w.heap.size]? = some (.cells (odV (-1) 0) 28 (0, 0))) := block_set (block_set br1 0 (.int .i64 (-1))) 1 (.int .i64 0)
        have KE := kr
        clear br1 br2 hh oa hF hF2
        go_wp2_with fail
        go_region_held3 (fun W : World => W.cell? ⟨N, 0, none⟩ = some (.int .i64 (-1)) ∧ W.cell? ⟨N, 1, none⟩ = some (.int .i64 0)) (first | assumption | (exact hS0) | go_keep) (fail)
        go_wp2_with fail
        refine bodyPost_ret (odd_ret2 rfl _ _ w.heap.size (odV (-1) 0) BE.out rfl rfl) rfl ?_
        have KF := (((Keeps.refl (fun q => q = w.heap.size) wr).setCell (p := ⟨w.heap.size, 0, none⟩) (.inr rfl) (.int .i64 (-1))).setCell (p := ⟨w.heap.size, 1, none⟩) (.inr rfl) (.int .i64 0)).drew
        exact ⟨_, rfl, HO.out.keeps KF (fun g hg e => by have := HG.out g hg; omega), (((KE.setCell (.inl (Nat.le_refl _)) _).setCell (.inl (Nat.le_refl _)) _).drew)⟩
  · rw [if_neg hce]
    have hcb : (ce == 0) = false := by simpa using hce
    clear hch
    go_enter Tryd.func19, Tryd.ntmps19
    go_wp2_with fail
    refine CK.mono ?_
    rintro ex w1 ⟨rfl, k1⟩
    have K1 := k0.trans k1
    have B1 := (k1.block _ (lt_of_block b0) (fun f => f)).trans b0
    clear CK k0 k1 b0
    have kA := (Keeps.refl (fun _ => False) w1).alloc (.cells #[.int .i64 ca, .int .i64 ce] 28)
    have bA := (MapKept.heap_alloc w1 (.cells #[.int .i64 ca, .int .i64 ce] 28)).1
    have B2 := (kA.block _ (lt_of_block B1) (fun f => f)).trans B1
    have hlt1 := lt_of_block B1
    have hS0' : (w1.alloc (.cells #[.int .i64 ca, .int .i64 ce] 28)).cell? ⟨w1.heap.size, 1, none⟩ = some (.int .i64 ce) := by rw [cell_of_block bA]; rfl
    go_wp2_with fail
    generalize hW : w1.alloc (.cells #[.int .i64 ca, .int .i64 ce] 28) = W at *
    have c0 : W.cell? ⟨w.heap.size, 0, none⟩ = some (.int .i64 0) := by rw [cell_of_block B2]; rfl
    have c1 : W.cell? ⟨w.heap.size, 1, none⟩ = some (.int .i64 0) := by rw [cell_of_block B2]; rfl
    have f0 : W.frozen? ⟨w.heap.size, 0, none⟩ = false := frozen_of_block B2 _
    have f1 : W.frozen? ⟨w.heap.size, 1, none⟩ = false := frozen_of_block B2 _
    have hS0 : W.cell? ⟨w1.heap.size, 0, none⟩ = some (.int .i64 ca) ∧ W.cell? ⟨w1.heap.size, 1, none⟩ = some (.int .i64 ce) := ⟨by rw [cell_of_block bA]; rfl, by rw [cell_of_block bA]; rfl⟩
    have hne : ¬ w.heap.size = w1.heap.size := by omega
    have BE : Hid (∀ X : World, X.heap = W.heap → ((X.setCell ⟨w.heap.size, 0, none⟩ (.int .i64 ca)).setCell ⟨w.heap.size, 1, none⟩ (.int .i64 ce)).heap[w.heap.size]? = some (.cells (odV ca ce) 28 (0, 0))) := fun X hX => by
      have := block_set (block_set (w := X) (by rw [hX]; exact B2) 0 (.int .i64 ca)) 1 (.int .i64 ce)
      exact this
    have KE := K1.trans kA
    clear hW kA bA B2 K1 hS0'
    go_region_held3 (fun W : World => W.cell? ⟨w1.heap.size, 0, none⟩ = some (.int .i64 ca) ∧ W.cell? ⟨w1.heap.size, 1, none⟩ = some (.int .i64 ce)) (first | assumption | (exact hS0) | go_keep) (fail)
    go_wp2_with fail
    refine bodyPost_ret (odd_ret2 rfl _ _ w.heap.size (odV ca ce) (BE.out W rfl) rfl rfl) rfl ?_
    exact ⟨_, rfl, OwnR.nilB _ _ _ _ _ (Nat.le_trans KE.size (by simp)), (((KE.setCell (.inl (Nat.le_refl _)) _).setCell (.inl (Nat.le_refl _)) _).drew)⟩
end Go.Proofs.YtjmmjkoloioddaaDoor


/- A walk of the document's Sights (layer 16), where nothing is wrong. No statement of the seat is proved here. -/
namespace Go.Proofs.YtjmmjkoloioddaaDoor
open Go.RowKit Go.Shelf

theorem in_all {n : Nat} {L : List Ev} (hwf : ∀ e ∈ L, e.wf) (hm : idxF (missE n) L 0 = -1) : ∀ e ∈ L, 0 ≤ e.ad ∧ (e.kd = 2 ∨ e.kd = 3 → e.ad < (n : Int)) := fun e he => ⟨(hwf e he).2.2.1.1, fun hk => by
  have hno : missE n e = false := by
    rcases idxF_in (missE n) L 0 with ⟨_, h⟩ | ⟨j, h, _⟩
    · exact h e he
    · rw [hm] at h; omega
  unfold missE at hno
  rcases hk with hk | hk <;> · rw [hk] at hno; simpa using hno⟩
/-- An attempt and its block. -/
structure TyAt (n : Nat) (L : List Ev) (t : Ty) (p : Pt) (a b : Nat) : Prop where
  fi : t.fi = (a : Int)
  la : t.la = (b : Int)
  ab : a ≤ b
  bl : b < L.length
  rs : p.rs = (seg L a b).filterMap (rdE t.th)
  inr : ∀ x ∈ p.rs, 0 ≤ x.1 ∧ x.1 < (n : Int)
  rl : p.rs.length ≤ L.length
theorem try_at {n : Nat} {L : List Ev} (hz : (checkL L).2 = 0) (hin : ∀ e ∈ L, 0 ≤ e.ad ∧ (e.kd = 2 ∨ e.kd = 3 → e.ad < (n : Int))) (k : Nat) (h1 : k < (triesL L).length) : ∃ (h2 : k < (partsL L).length) (a b : Nat), TyAt n L ((triesL L)[k]) ((partsL L)[k]) a b := by
  have he := tries_parts hz
  have hlen := congrArg List.length he
  rw [List.length_map, List.length_map] at hlen
  have h2 : k < (partsL L).length := by omega
  have hk : key3T ((triesL L)[k]) = key3 ((partsL L)[k]) := by
    have e1 : ((triesL L).map key3T)[k]? = some (key3T ((triesL L)[k])) := by rw [List.getElem?_map, List.getElem?_eq_getElem h1]; rfl
    have e2 : ((partsL L).map key3)[k]? = some (key3 ((partsL L)[k])) := by rw [List.getElem?_map, List.getElem?_eq_getElem h2]; rfl
    rw [he, e2] at e1
    exact (Option.some.inj e1).symm
  have hp := List.getElem_mem h2
  have hbd := (pinv_parts L).bd _ hp
  have htl := tries_le hz _ (List.getElem_mem h1)
  have hrs := (parts_rs hz _ hp).1
  have hinl := (inL_parts hin _ hp).1
  refine ⟨h2, ?_⟩
  generalize (triesL L)[k]'h1 = t at *
  generalize (partsL L)[k]'h2 = p at *
  unfold key3 key3T at hk
  injection hk with k1 hk
  injection hk with k2 k3
  refine ⟨t.fi.toNat, t.la.toNat, by omega, by omega, by omega, by omega, ?_, hinl, by omega⟩
  rw [hrs, k1, ← k2, ← k3]
  congr 2 <;> omega
set_option maxRecDepth 100000 in
set_option maxHeartbeats 8000000 in
theorem rsights_ok (va : Option Addr) (vc : Nat) (F : List Int) (v : Value) (L : List Ev) (hl : L.length ≤ 1050000) (w : World) (hv : EvsAt w v L) (hF : WsAt w (.slice va F.length vc) F) (hF0 : 0 < F.length) (hF1 : F.length ≤ 65536) (hz : checkL L = (-1, 0)) (hp : idxF plainE L 0 = -1) (hm : idxF (missE F.length) L 0 = -1) (W : List Pt) (hW : WrOf (partsL L) W) :
    Calls Tryd.prog 7 #[.slice va F.length vc, v] w fun ex w' => ∃ sv, ex = .returned (.tuple #[sv, .agg (odV (-1) 0)]) ∧ SR w' w.heap.size sv (sgK F W (triesL L) (partsL L) (triesL L).length) ∧ Keeps (fun _ => False) w w' := by
  have hin := in_all hv.wf hm
  have hz2 : (checkL L).2 = 0 := by rw [hz]
  have hTB : triesL L = begs L 0 := tries_begs hz2
  have hWl : W.length ≤ 1050000 := by
    have h1 := hW.perm.length_eq
    have h2 := List.length_filter_le (fun p : Pt => p.wr) (partsL L)
    have h3 := (pinv_parts L).len
    change (partsL L).length ≤ L.length at h3
    omega
  have hTl : (triesL L).length ≤ 1050000 := by
    have he := congrArg List.length (tries_parts hz2)
    rw [List.length_map, List.length_map] at he
    have h3 := (pinv_parts L).len
    change (partsL L).length ≤ L.length at h3
    omega
  have HTY : Hid (∀ k (h1 : k < (triesL L).length), ∃ (h2 : k < (partsL L).length) (a b : Nat), TyAt F.length L ((triesL L)[k]) ((partsL L)[k]) a b) := fun k h1 => try_at hz2 hin k h1
  have hwrg : wrgA F.length L = (-1, 0) := by unfold wrgA wrgB; rw [if_pos hp, if_pos hm]
  have k0 := (Keeps.refl (fun _ => False) w).alloc (.cells (odV 0 0) 28)
  have b0 : (w.alloc (.cells (odV 0 0) 28)).heap[w.heap.size]? = some (.cells (odV 0 0) 28 (0, 0)) := (MapKept.heap_alloc w _).1
  have WR := rwrg_ok va vc F.length hF0 hF1 v L (by omega) hz (w.alloc (.cells (odV 0 0) 28)) (hv.keeps k0)
  rw [hwrg] at WR
  have HST : Hid (∀ X, Keeps (fun _ => False) w X → Calls Tryd.prog 17 #[.slice va F.length vc, v] X fun ex w' => ∃ (u : Value) (R : List Sl), ex = .returned u ∧ R.length = W.length + 1 ∧ OwnR sC 1 22 w' X.heap.size u R ∧ (∀ j (hj : j < R.length), OwnR wC 1 35 w' X.heap.size (R[j]).v (stN F W j)) ∧ Keeps (fun _ => False) X w') := fun X kx => rstates_any (.slice va F.length vc) F hF1 hF0 v L (by omega) hz2 hin W hW hWl X (hF.keeps wC_ne kx) (hv.els.keeps ev_ne kx)
  have HWT : Hid (∀ X, Keeps (fun _ => False) w X → Calls Tryd.prog 18 #[v] X fun ex w' => ∃ u, ex = .returned u ∧ NR w' X.heap.size u (W.map (·.la)) ∧ Keeps (fun _ => False) X w') := fun X kx => by
    have := rwriting_any v L (by omega) hz2 X (hv.els.keeps ev_ne kx)
    rw [wpos_wr hz2 hW] at this
    exact this
  have HTR : Hid (∀ X, Keeps (fun _ => False) w X → Calls Tryd.prog 19 #[v] X fun ex w' => ∃ tv, ex = .returned (.tuple #[tv, .agg #[.int .i64 (-1), .int .i64 0]]) ∧ OwnR Ty.cl 7 38 w' X.heap.size tv (triesL L) ∧ Keeps (fun _ => False) X w') := fun X kx => by
    have := rtries_any v L X (hv.keeps kx)
    rw [hz, if_pos rfl, ← hTB] at this
    exact this
  have HV : Hid (∀ X, Keeps (fun _ => False) w X → ElsAt Ev.cl 6 X v L) := fun X kx => hv.els.keeps ev_ne kx
  obtain ⟨ha, hc, rfl, hcap⟩ := hv.els.shape
  unfold odV at k0 b0 WR ⊢
  have HH : Hid (WrOf (partsL L) W) := hW
  obtain ⟨T, hT⟩ : ∃ T, T = triesL L := ⟨_, rfl⟩
  rw [← hT] at HTY HTR hTl ⊢
  obtain ⟨P, hP⟩ : ∃ P, P = partsL L := ⟨_, rfl⟩
  rw [← hP] at HTY HH ⊢
  clear hv hF hz hp hm hW hin hz2 hTB hT hP hwrg
  go_enter Tryd.func7, Tryd.ntmps7
  go_wp2_with fail
  refine WR.mono ?_
  rintro ex w1 ⟨rfl, k1⟩
  clear WR
  have K1 := k0.trans k1
  have B1 := (k1.block _ (lt_of_block b0) (fun f => f)).trans b0
  have kA := (Keeps.refl (fun _ => False) w1).alloc (.cells #[.int .i64 (-1), .int .i64 0] 28)
  have bA := (MapKept.heap_alloc w1 (.cells #[.int .i64 (-1), .int .i64 0] 28)).1
  have B2 := (kA.block _ (lt_of_block B1) (fun f => f)).trans B1
  have hlt1 := lt_of_block B1
  have KA := K1.trans kA
  have ST := HST.out _ KA
  obtain ⟨ob7, hob⟩ : ∃ b, b = w1.heap.size := ⟨_, rfl⟩
  rw [← hob] at bA hlt1
  obtain ⟨A, hA⟩ : ∃ A, A = w1.alloc (.cells #[.int .i64 (-1), .int .i64 0] 28) := ⟨_, rfl⟩
  rw [← hA] at bA B2 KA ST
  clear HST K1 B1 kA k0 b0 k1
  go_wp2_with fail
  rw [← hA]
  try rw [← hob]
  clear hA hob
  refine ST.mono ?_
  rintro ex w2 ⟨vS, R, rfl, hRl, hR, hRe, k2⟩
  clear ST
  have K2 := KA.trans k2
  have WT := HWT.out w2 K2
  clear HWT
  obtain ⟨sa, sc, rfl⟩ := hR.form
  obtain ⟨rn, hrn⟩ : ∃ rn, rn = R.length := ⟨_, rfl⟩
  rw [← hrn] at hR ⊢
  have HR2 : Hid (rn = R.length ∧ R.length = W.length + 1) := ⟨hrn, hRl⟩
  clear hrn hRl
  go_wp2_with fail
  refine WT.mono ?_
  rintro ex w3 ⟨vL, rfl, hNR, k3⟩
  clear WT
  have K3 := K2.trans k3
  have TR := HTR.out w3 K3
  clear HTR
  obtain ⟨N, hN⟩ : ∃ N, N = W.length := ⟨_, rfl⟩
  have hNl : (W.map (·.la)).length = N := by rw [List.length_map, hN]
  obtain ⟨la_, lc, rfl⟩ := hNR.form
  rw [hNl] at hNR ⊢
  have HN : Hid (N = W.length ∧ (W.map (·.la)).length = N) := ⟨hN, hNl⟩
  have hN6 : N ≤ 1050000 := by omega
  clear hN hNl hWl
  go_wp2_with fail
  refine TR.mono ?_
  rintro ex w4 ⟨vT, rfl, hTo, k4⟩
  clear TR
  obtain ⟨ta, tc, rfl⟩ := hTo.form
  have K4 := K3.trans k4
  have kE := (Keeps.refl (fun _ => False) w4).alloc (.cells #[.int .i64 (-1), .int .i64 0] 28)
  have KE := K4.trans kE
  have k2E := ((k3.trans k4).trans kE)
  have k3E := k4.trans kE
  have kAE := k2.trans k2E
  obtain ⟨E, hE⟩ : ∃ E, E = w4.alloc (.cells #[.int .i64 (-1), .int .i64 0] 28) := ⟨_, rfl⟩
  rw [← hE] at kE KE k2E k3E kAE
  have HB : Hid (∀ X, Keeps (fun _ => False) E X → X.heap[w.heap.size]? = some (.cells #[.int .i64 0, .int .i64 0] 28 (0, 0)) ∧ X.heap[ob7]? = some (.cells #[.int .i64 (-1), .int .i64 0] 28 (0, 0))) := fun X q => ⟨((kAE.trans q).block _ (lt_of_block B2) (fun f => f)).trans B2, ((kAE.trans q).block _ (lt_of_block bA) (fun f => f)).trans bA⟩
  have hRE := (hR.keeps k2E (fun _ _ f => f)).lowE (b := w.heap.size) KA.size
  have hReE : ∀ j (hj : j < R.length), OwnR wC 1 35 E w.heap.size (R[j]).v (stN F W j) := fun j hj => ((hRe j hj).keeps k2E (fun _ _ f => f)).lowE KA.size
  have hNRE := (hNR.keeps k3E (fun _ _ f => f)).lowE (b := w.heap.size) K2.size
  have hToE := (hTo.keeps kE (fun _ _ f => f)).lowE (b := w.heap.size) K3.size
  have HX : Hid (∀ bs X, E.heap.size ≤ bs → Keeps (fun q => q = bs) E X → OwnR sC 1 22 X w.heap.size (.slice sa rn sc) R ∧ (∀ j (hj : j < R.length), OwnR wC 1 35 X w.heap.size (R[j]).v (stN F W j)) ∧ NR X w.heap.size (.slice la_ N lc) (W.map (·.la)) ∧ OwnR Ty.cl 7 38 X w.heap.size (.slice ta T.length tc) T) := fun bs X hbs kx =>
    ⟨hRE.keeps kx (fun g hg e => by have := (own_block hRE.own hg).1; omega), fun j hj => (hReE j hj).keeps kx (fun g hg e => by have := (own_block (hReE j hj).own hg).1; omega), hNRE.keeps kx (fun g hg e => by have := (own_block hNRE.own hg).1; omega), hToE.keeps kx (fun g hg e => by have := (own_block hToE.own hg).1; omega)⟩
  have O0 : SR E E.heap.size (.slice none 0 0) (sgK F W T P 0) := OwnR.nil _ _ _ _
  clear hRE hReE hNRE hToE hR hRe hNR hTo kE k2E k3E kAE K2 K3 K4 k2 k3 k4 bA B2 KA
  go_wp2_with fail
  rw [← hE]
  clear hE
  go_loopw [11, 12] (fun u11 u12 wr => ∃ (i : Nat), u12 = .int .i64 i ∧ i ≤ T.length ∧ Hid (SR wr E.heap.size u11 (sgK F W T P i)) ∧ Keeps (fun _ => False) E wr) (fun _ u12 _ => T.length - (intOf u12).toNat)
  case atStart => exact ⟨0, rfl, Nat.zero_le _, O0, Keeps.refl _ _⟩
  case round =>
    clear O0
    obtain ⟨i, rfl, hi, hO, kr⟩ := hrel
    generalize wr = Wo at *
    obtain ⟨oa, oc, rfl⟩ := hO.out.form
    rw [sgK_len] at hO ⊢
    have hwi : IntKind.i64.wrap ((i : Int) + 1) = (i : Int) + 1 := by rw [IntKind.wrap_i64]; omega
    by_cases hlt : i < T.length
    · have hii : (i : Int) < T.length := by omega
      have hi0 : (0 : Int) ≤ i := by omega
      obtain ⟨h2, a, b, hty⟩ := HTY.out i hlt
      have hsK := sgK_succ F W T P i hlt h2
      obtain ⟨gt, ot, e1, hct⟩ := ((HX.out E.heap.size Wo (Nat.le_refl _) (kr.mono (fun _ _ f => f.elim))).2.2.2.els ty_len).at i hlt
      subst e1
      have hgtE : gt < E.heap.size := by
        obtain ⟨gt2, tc2, cur2, e2, -, hgb2, -⟩ := (HX.out E.heap.size E (Nat.le_refl _) (Keeps.refl _ _)).2.2.2.at (by omega)
        simp only [Value.slice.injEq, Option.some.injEq, Addr.mk.injEq, and_true] at e2
        rw [e2.1.1]
        exact lt_of_block hgb2
      have HCT : Hid (∀ bs X, E.heap.size ≤ bs → Keeps (fun q => q = bs) E X → X.cell? ⟨gt, ot + i * 7 + 1, none⟩ = some (.int .i64 (a : Int)) ∧ X.cell? ⟨gt, ot + i * 7 + 2, none⟩ = some (.int .i64 (b : Int))) := fun bs X hbs kx => by
        obtain ⟨g', o', e, h1⟩ := ((HX.out bs X hbs kx).2.2.2.els ty_len).at i hlt
        simp only [Option.some.injEq, Addr.mk.injEq, and_true] at e
        obtain ⟨rfl, rfl⟩ := e
        refine ⟨?_, ?_⟩
        · rw [← hty.fi]; exact h1 1 _ rfl
        · rw [← hty.la]; exact h1 2 _ rfl
      generalize ht : T[i]'hlt = t at *
      clear ht
      obtain ⟨tth, tfi, tla, tsn, thow, trd, twr⟩ := t
      obtain ⟨f1, f2, hab, hbL, hrs, hinr, hrl⟩ := hty
      dsimp only at f1 f2 hrs
      subst f1 f2
      generalize (P[i]'h2).rs = rs at *
      have y0 := hct 0 _ rfl
      have y1 := hct 1 _ rfl
      have y2 := hct 2 _ rfl
      have y3 := hct 3 _ rfl
      have y4 := hct 4 _ rfl
      have y5 := hct 5 _ rfl
      have y6 := hct 6 _ rfl
      dsimp only at y0 y1 y2 y3 y4 y5 y6
      simp only [Nat.add_zero] at y0
      have kS := (Keeps.refl (fun _ => False) Wo).alloc (.cells #[.int .i64 tth, .int .i64 (a : Int), .int .i64 (b : Int), .int .u64 tsn, .int .i64 thow, .int .i64 trd, .int .i64 twr, .int .i64 0, .int .i64 0, .int .i64 (-1)] 40)
      have bS := (MapKept.heap_alloc Wo (.cells #[.int .i64 tth, .int .i64 (a : Int), .int .i64 (b : Int), .int .u64 tsn, .int .i64 thow, .int .i64 trd, .int .i64 twr, .int .i64 0, .int .i64 0, .int .i64 (-1)] 40)).1
      have hsS : (Wo.alloc (.cells #[.int .i64 tth, .int .i64 (a : Int), .int .i64 (b : Int), .int .u64 tsn, .int .i64 thow, .int .i64 trd, .int .i64 twr, .int .i64 0, .int .i64 0, .int .i64 (-1)] 40)).heap.size = Wo.heap.size + 1 := by simp
      have RD := rreads_any (.slice ha L.length hc) L (by omega) tth tsn thow trd twr a b hab hbL (Wo.alloc (.cells #[.int .i64 tth, .int .i64 (a : Int), .int .i64 (b : Int), .int .u64 tsn, .int .i64 thow, .int .i64 trd, .int .i64 twr, .int .i64 0, .int .i64 0, .int .i64 (-1)] 40)) (HV.out _ ((KE.trans kr).trans kS))
      rw [← hrs, hsS] at RD
      have HSK : Hid (sgK F W T P (i + 1) = sgK F W T P i ++ [⟨⟨tth, (a : Int), (b : Int), tsn, thow, trd, twr⟩, (cntL W (a : Int) : Int), (cntL W ((b : Int) + 1) : Int), atU F W (cntL W (a : Int)) (cntL W ((b : Int) + 1) + 1 - cntL W (a : Int)) rs⟩]) := hsK
      obtain ⟨bs, hbs⟩ : ∃ bs, bs = Wo.heap.size := ⟨_, rfl⟩
      rw [← hbs] at bS RD
      have HBS : Hid (bs = Wo.heap.size ∧ E.heap.size ≤ bs) := ⟨hbs, by rw [hbs]; exact kr.size⟩
      have hgt : ¬ gt = bs := by have := HBS.out.2; omega
      have z0 := kS.cellB (fun f => f) y0
      have z1 := kS.cellB (fun f => f) y1
      have z2 := kS.cellB (fun f => f) y2
      have z3 := kS.cellB (fun f => f) y3
      have z4 := kS.cellB (fun f => f) y4
      have z5 := kS.cellB (fun f => f) y5
      have z6 := kS.cellB (fun f => f) y6
      obtain ⟨A, hA⟩ : ∃ A, A = Wo.alloc (.cells #[.int .i64 tth, .int .i64 (a : Int), .int .i64 (b : Int), .int .u64 tsn, .int .i64 thow, .int .i64 trd, .int .i64 twr, .int .i64 0, .int .i64 0, .int .i64 (-1)] 40) := ⟨_, rfl⟩
      rw [← hA] at kS bS RD
      have HAA : Hid (A = Wo.alloc (.cells #[.int .i64 tth, .int .i64 (a : Int), .int .i64 (b : Int), .int .u64 tsn, .int .i64 thow, .int .i64 trd, .int .i64 twr, .int .i64 0, .int .i64 0, .int .i64 (-1)] 40)) := hA
      have HBB : Hid (bs = Wo.heap.size) := hbs
      clear hct hsK hrs hsS hA hbs
      go_wp2_with fail
      rw [← HAA.out]
      try rw [← HBB.out]
      clear HAA HBB y0 y1 y2 y3 y4 y5 y6 z0 z1 z2 z3 z4 z5 z6
      refine RD.mono ?_
      rintro ex w5 ⟨uw, rfl, hUW, k5⟩
      clear RD
      obtain ⟨wa, wc, rfl⟩ := hUW.form
      have b5 := (k5.block _ (lt_of_block bS) (fun f => f)).trans bS
      have kE5 := (kr.trans kS).trans k5
      have HUW : Hid (∀ X, Keeps (fun q => q = bs) w5 X → ElsAt clC 2 X (.slice wa rs.length wc) rs) := fun X kx => (hUW.keeps kx (fun g hg e => by have := (own_block hUW.own hg).2; omega)).els cl_len
      have HEX : Hid (∀ X, Keeps (fun q => q = bs) w5 X → Keeps (fun q => q = bs) E X) := fun X kx => (kE5.mono (fun _ _ f => f.elim)).trans kx
      have HO5 : Hid (∀ X, Keeps (fun q => q = bs) w5 X → SR X E.heap.size (.slice oa i oc) (sgK F W T P i) ∧ Keeps (fun _ => False) E X) := fun X kx =>
        ⟨(hO.out.keeps (kS.trans k5) (fun _ _ f => f)).keeps kx (fun g hg e => by have := (own_block hO.out.own hg).1; have := HBS.out.1; omega), kE5.young kx (fun q e => by have := HBS.out.2; omega)⟩
      have HB0 : Hid (w5.heap[bs]? = some (.cells #[.int .i64 tth, .int .i64 (a : Int), .int .i64 (b : Int), .int .u64 tsn, .int .i64 thow, .int .i64 trd, .int .i64 twr, .int .i64 (cntU W (a : Int) 0 : Int), .int .i64 (cntU W ((b : Int) + 1) 0 : Int), .int .i64 (-1)] 40 (0, 0))) := b5
      clear hUW b5 kE5 bS kS k5 hO kr
      go_wp2_with fail
      go_loopw [15] (fun u15 wr => ∃ (k : Nat), u15 = .int .i64 k ∧ k ≤ N ∧ Hid (wr.heap[bs]? = some (.cells #[.int .i64 tth, .int .i64 (a : Int), .int .i64 (b : Int), .int .u64 tsn, .int .i64 thow, .int .i64 trd, .int .i64 twr, .int .i64 (cntU W (a : Int) k : Int), .int .i64 (cntU W ((b : Int) + 1) k : Int), .int .i64 (-1)] 40 (0, 0))) ∧ Keeps (fun q => q = bs) w5 wr) (fun u15 _ => N - (intOf u15).toNat)
      case atStart => exact ⟨0, rfl, Nat.zero_le _, HB0, Keeps.refl _ _⟩
      case round =>
        clear HB0
        obtain ⟨k, rfl, hk, hbk, kq⟩ := hrel
        have hkw : IntKind.i64.wrap ((k : Int) + 1) = (k : Int) + 1 := by rw [IntKind.wrap_i64]; omega
        by_cases hlk : k < N
        · have hki : (k : Int) < N := by omega
          have hk0 : (0 : Int) ≤ k := by omega
          have hkW : k < W.length := by rw [← HN.out.1]; exact hlk
          have hcu1 := cntU_succ W (a : Int) hkW
          have hcu2 := cntU_succ W ((b : Int) + 1) hkW
          have hcl1 := cntU_le W (a : Int) k
          have hcl2 := cntU_le W ((b : Int) + 1) k
          obtain ⟨x1, x2⟩ := HCT.out bs wr HBS.out.2 (HEX.out wr kq)
          obtain ⟨gl, lc', hgl, -, hglE, hcl⟩ := own_cellN (HX.out E.heap.size E (Nat.le_refl _) (Keeps.refl _ _)).2.2.1 HN.out.2 (by omega)
          simp only [Value.slice.injEq] at hgl
          obtain ⟨rfl, -, rfl⟩ := hgl
          have hgl2 : ¬ gl = bs := by have := HBS.out.2; omega
          have x3 := hcl wr ((HEX.out wr kq).mono (fun q _ e => by omega)) k (by rw [HN.out.2]; exact hlk)
          rw [List.getElem_map] at x3
          generalize (W[k]'hkW).la = wl at *
          have hS0 : wr.cell? ⟨gt, ot + i * 7 + 1, none⟩ = some (.int .i64 (a : Int)) ∧ wr.cell? ⟨gt, ot + i * 7 + 2, none⟩ = some (.int .i64 (b : Int)) ∧ wr.cell? ⟨gl, k, none⟩ = some (.int .i64 wl) := ⟨x1, x2, x3⟩
          have hbk2 := hbk.out
          obtain ⟨c1, hc1⟩ : ∃ c1 : Nat, c1 = cntU W (a : Int) k := ⟨_, rfl⟩
          obtain ⟨c2, hc2⟩ : ∃ c2 : Nat, c2 = cntU W ((b : Int) + 1) k := ⟨_, rfl⟩
          rw [← hc1] at hbk2 hcu1 hcl1
          rw [← hc2] at hbk2 hcu2 hcl2
          have q7 : wr.cell? ⟨bs, 7, none⟩ = some (.int .i64 (c1 : Int)) := by rw [cell_of_block hbk2]; rfl
          have q8 : wr.cell? ⟨bs, 8, none⟩ = some (.int .i64 (c2 : Int)) := by rw [cell_of_block hbk2]; rfl
          have fz7 : wr.frozen? ⟨bs, 7, none⟩ = false := frozen_of_block hbk2 _
          have fz8 : wr.frozen? ⟨bs, 8, none⟩ = false := frozen_of_block hbk2 _
          have w1' : IntKind.i64.wrap ((c1 : Int) + 1) = (c1 : Int) + 1 := by rw [IntKind.wrap_i64]; omega
          have w2' : IntKind.i64.wrap ((c2 : Int) + 1) = (c2 : Int) + 1 := by rw [IntKind.wrap_i64]; omega
          have hbs7 : ¬ bs = gt := fun e => hgt e.symm
          have hbs8 : ¬ bs = gl := fun e => hgl2 e.symm
          clear hc1 hc2 hbk hcl
          by_cases h1 : wl < (a : Int)
          · have h2 : wl ≤ (b : Int) := by omega
            rw [if_pos h1] at hcu1
            rw [if_pos (by omega)] at hcu2
            have e1 : (cntU W (a : Int) (k + 1) : Int) = (c1 : Int) + 1 := by rw [hcu1]; rfl
            have e2 : (cntU W ((b : Int) + 1) (k + 1) : Int) = (c2 : Int) + 1 := by rw [hcu2]; rfl
            have bE := block_set (block_set hbk2 7 (.int .i64 ((c1 : Int) + 1))) 8 (.int .i64 ((c2 : Int) + 1))
            have HE : Hid (∀ X : World, X.heap = ((wr.setCell ⟨bs, 7, none⟩ (.int .i64 ((c1 : Int) + 1))).setCell ⟨bs, 8, none⟩ (.int .i64 ((c2 : Int) + 1))).heap → X.heap[bs]? = some (.cells #[.int .i64 tth, .int .i64 (a : Int), .int .i64 (b : Int), .int .u64 tsn, .int .i64 thow, .int .i64 trd, .int .i64 twr, .int .i64 (cntU W (a : Int) (k + 1) : Int), .int .i64 (cntU W ((b : Int) + 1) (k + 1) : Int), .int .i64 (-1)] 40 (0, 0))) := fun X hX => by rw [hX, e1, e2]; exact bE
            have KE2 : Keeps (fun q => q = bs) w5 ((wr.setCell ⟨bs, 7, none⟩ (.int .i64 ((c1 : Int) + 1))).setCell ⟨bs, 8, none⟩ (.int .i64 ((c2 : Int) + 1))) := (kq.setCell (.inr rfl) _).setCell (.inr rfl) _
            clear bE e1 e2 hcu1 hcu2 hbk2 kq
            go_wp2_with fail
            go_region_held3 (fun W : World => W.cell? ⟨gt, ot + i * 7 + 1, none⟩ = some (.int .i64 (a : Int)) ∧ W.cell? ⟨gt, ot + i * 7 + 2, none⟩ = some (.int .i64 (b : Int)) ∧ W.cell? ⟨gl, k, none⟩ = some (.int .i64 wl)) (first | assumption | (exact hS0) | go_keep) (fail)
            go_wp2_with fail
            go_region_held3 (fun W : World => W.cell? ⟨gt, ot + i * 7 + 1, none⟩ = some (.int .i64 (a : Int)) ∧ W.cell? ⟨gt, ot + i * 7 + 2, none⟩ = some (.int .i64 (b : Int)) ∧ W.cell? ⟨gl, k, none⟩ = some (.int .i64 wl)) (first | assumption | (exact hS0) | go_keep) (fail)
            go_wp2_with fail
            go_roundw
            · exact ⟨k + 1, by simp, by omega, HE.out _ rfl, KE2.drew.drew⟩
            · simp [intOf]; omega
          · rw [if_neg h1] at hcu1
            by_cases h2 : wl ≤ (b : Int)
            · rw [if_pos (by omega)] at hcu2
              have e2 : (cntU W ((b : Int) + 1) (k + 1) : Int) = (c2 : Int) + 1 := by rw [hcu2]; rfl
              have bE := block_set hbk2 8 (.int .i64 ((c2 : Int) + 1))
              have HE : Hid (∀ X : World, X.heap = (wr.setCell ⟨bs, 8, none⟩ (.int .i64 ((c2 : Int) + 1))).heap → X.heap[bs]? = some (.cells #[.int .i64 tth, .int .i64 (a : Int), .int .i64 (b : Int), .int .u64 tsn, .int .i64 thow, .int .i64 trd, .int .i64 twr, .int .i64 (cntU W (a : Int) (k + 1) : Int), .int .i64 (cntU W ((b : Int) + 1) (k + 1) : Int), .int .i64 (-1)] 40 (0, 0))) := fun X hX => by rw [hX, hcu1, e2]; exact bE
              have KE2 : Keeps (fun q => q = bs) w5 (wr.setCell ⟨bs, 8, none⟩ (.int .i64 ((c2 : Int) + 1))) := kq.setCell (.inr rfl) _
              clear bE e2 hcu1 hcu2 hbk2 kq
              go_wp2_with fail
              go_region_held3 (fun W : World => W.cell? ⟨gt, ot + i * 7 + 1, none⟩ = some (.int .i64 (a : Int)) ∧ W.cell? ⟨gt, ot + i * 7 + 2, none⟩ = some (.int .i64 (b : Int)) ∧ W.cell? ⟨gl, k, none⟩ = some (.int .i64 wl)) (first | assumption | (exact hS0) | go_keep) (fail)
              go_wp2_with fail
              go_region_held3 (fun W : World => W.cell? ⟨gt, ot + i * 7 + 1, none⟩ = some (.int .i64 (a : Int)) ∧ W.cell? ⟨gt, ot + i * 7 + 2, none⟩ = some (.int .i64 (b : Int)) ∧ W.cell? ⟨gl, k, none⟩ = some (.int .i64 wl)) (first | assumption | (exact hS0) | go_keep) (fail)
              go_wp2_with fail
              go_roundw
              · exact ⟨k + 1, by simp, by omega, HE.out _ rfl, KE2.drew.drew⟩
              · simp [intOf]; omega
            · rw [if_neg (by omega)] at hcu2
              have HE : Hid (∀ X : World, X.heap = wr.heap → X.heap[bs]? = some (.cells #[.int .i64 tth, .int .i64 (a : Int), .int .i64 (b : Int), .int .u64 tsn, .int .i64 thow, .int .i64 trd, .int .i64 twr, .int .i64 (cntU W (a : Int) (k + 1) : Int), .int .i64 (cntU W ((b : Int) + 1) (k + 1) : Int), .int .i64 (-1)] 40 (0, 0))) := fun X hX => by rw [hX, hcu1, hcu2]; exact hbk2
              clear hcu1 hcu2 hbk2
              go_wp2_with fail
              go_region_held3 (fun W : World => W.cell? ⟨gt, ot + i * 7 + 1, none⟩ = some (.int .i64 (a : Int)) ∧ W.cell? ⟨gt, ot + i * 7 + 2, none⟩ = some (.int .i64 (b : Int)) ∧ W.cell? ⟨gl, k, none⟩ = some (.int .i64 wl)) (first | assumption | (exact hS0) | go_keep) (fail)
              go_wp2_with fail
              go_region_held3 (fun W : World => W.cell? ⟨gt, ot + i * 7 + 1, none⟩ = some (.int .i64 (a : Int)) ∧ W.cell? ⟨gt, ot + i * 7 + 2, none⟩ = some (.int .i64 (b : Int)) ∧ W.cell? ⟨gl, k, none⟩ = some (.int .i64 wl)) (first | assumption | (exact hS0) | go_keep) (fail)
              go_wp2_with fail
              go_roundw
              · exact ⟨k + 1, by simp, by omega, HE.out _ rfl, kq.drew.drew⟩
              · simp [intOf]; omega
        · obtain rfl : k = N := by omega
          have hb2 := hbk.out
          obtain ⟨fr, hfr⟩ : ∃ fr : Nat, fr = cntL W (a : Int) := ⟨_, rfl⟩
          obtain ⟨up, hup⟩ : ∃ up : Nat, up = cntL W ((b : Int) + 1) := ⟨_, rfl⟩
          have hfu : fr ≤ up := by rw [hfr, hup]; exact cntL_mono _ (by omega)
          have hupN : up ≤ k := by rw [hup, HN.out.1]; exact cntL_le _ _
          rw [HN.out.1, cntU_all, cntU_all, ← hfr, ← hup] at hb2
          rw [← hfr, ← hup] at HSK
          have q7 : wr.cell? ⟨bs, 7, none⟩ = some (.int .i64 (fr : Int)) := by rw [cell_of_block hb2]; rfl
          have HB3 : Hid (wr.heap[bs]? = some (.cells #[.int .i64 tth, .int .i64 (a : Int), .int .i64 (b : Int), .int .u64 tsn, .int .i64 thow, .int .i64 trd, .int .i64 twr, .int .i64 (fr : Int), .int .i64 (up : Int), .int .i64 (atU F W fr (fr - fr) rs)] 40 (0, 0))) := by
            unfold Hid
            rw [Nat.sub_self, atU_zero]
            exact hb2
          generalize hWr : wr = Wq at *
          clear hbk hb2 hfr hup hWr
          go_wp2_with fail
          go_loopw [16] (fun u16 wr => ∃ (n : Nat), u16 = .int .i64 n ∧ fr ≤ n ∧ n ≤ up + 1 ∧ Hid (wr.heap[bs]? = some (.cells #[.int .i64 tth, .int .i64 (a : Int), .int .i64 (b : Int), .int .u64 tsn, .int .i64 thow, .int .i64 trd, .int .i64 twr, .int .i64 (fr : Int), .int .i64 (up : Int), .int .i64 (atU F W fr (n - fr) rs)] 40 (0, 0))) ∧ Keeps (fun q => q = bs) w5 wr) (fun u16 _ => up + 1 - (intOf u16).toNat)
          case atStart => exact ⟨fr, rfl, Nat.le_refl _, by omega, HB3, kq⟩
          case round =>
            clear HB3 kq q7
            obtain ⟨n, rfl, hfn, hnu, hbn, kz⟩ := hrel
            have hnw : IntKind.i64.wrap ((n : Int) + 1) = (n : Int) + 1 := by rw [IntKind.wrap_i64]; omega
            have hb3 := hbn.out
            have z8 : wr.cell? ⟨bs, 8, none⟩ = some (.int .i64 (up : Int)) := by rw [cell_of_block hb3]; rfl
            by_cases hln : n ≤ up
            · have hni : (n : Int) ≤ (up : Int) := by omega
              have hnr : n < R.length := by rw [HR2.out.2, ← HN.out.1]; omega
              have hnr2 : (n : Int) < (rn : Int) := by have := HR2.out.1; omega
              have hn0 : (0 : Int) ≤ n := by omega
              obtain ⟨gs, sc', hgs, -, hgsE, hcs⟩ := own_cellS (HX.out E.heap.size E (Nat.le_refl _) (Keeps.refl _ _)).1 HR2.out.1 (by have := HR2.out.1; omega)
              simp only [Value.slice.injEq] at hgs
              obtain ⟨rfl, -, rfl⟩ := hgs
              have x3 := hcs wr ((HEX.out wr kz).mono (fun q _ e => by have := HBS.out.2; omega)) n hnr
              have hws := ((HX.out bs wr HBS.out.2 (HEX.out wr kz)).2.1 n hnr).els wC_len
              have hau := atU_succ F W fr (n - fr) rs
              rw [show fr + (n - fr) = n by omega] at hau
              have hnx : n + 1 - fr = (n - fr) + 1 := by omega
              generalize R[n]'hnr = s at *
              obtain ⟨na, nn, nc⟩ := s
              dsimp only [Sl.v] at x3 hws
              have SD := rstood_any (.slice na nn nc) (.slice wa rs.length wc) (stN F W n) rs (by omega) (by rw [stN_len]; exact hinr) wr hws (HUW.out wr kz)
              generalize stdL (stN F W n) rs = zb at *
              clear hcs hws
              cases zb with
              | true =>
                rw [if_pos rfl] at hau
                go_wp2_with fail
                refine SD.mono ?_
                rintro ex w6 ⟨rfl, k6⟩
                clear SD
                have b6 := (k6.block _ (lt_of_block hb3) (fun f => f)).trans hb3
                generalize atU F W fr (n - fr) rs = av at *
                have q9 : w6.cell? ⟨bs, 9, none⟩ = some (.int .i64 av) := by rw [cell_of_block b6]; rfl
                have fz9 : w6.frozen? ⟨bs, 9, none⟩ = false := frozen_of_block b6 _
                have bE := block_set b6 9 (.int .i64 (n : Int))
                have HE : Hid (∀ X : World, X.heap = (w6.setCell ⟨bs, 9, none⟩ (.int .i64 (n : Int))).heap → X.heap[bs]? = some (.cells #[.int .i64 tth, .int .i64 (a : Int), .int .i64 (b : Int), .int .u64 tsn, .int .i64 thow, .int .i64 trd, .int .i64 twr, .int .i64 (fr : Int), .int .i64 (up : Int), .int .i64 (atU F W fr (n + 1 - fr) rs)] 40 (0, 0))) := fun X hX => by rw [hX, hnx, hau]; exact bE
                have KE2 : Keeps (fun q => q = bs) w5 (w6.setCell ⟨bs, 9, none⟩ (.int .i64 (n : Int))) := (kz.trans (k6.mono (fun _ _ f => f.elim))).setCell (.inr rfl) _
                clear bE b6 hau hnx hbn hb3 kz k6 x3 z8
                go_wp2_with fail
                go_roundw
                · exact ⟨n + 1, by simp, by omega, by omega, HE.out _ rfl, KE2⟩
                · simp [intOf]; omega
              | false =>
                rw [if_neg (by decide)] at hau
                go_wp2_with fail
                refine SD.mono ?_
                rintro ex w6 ⟨rfl, k6⟩
                clear SD
                have b6 := (k6.block _ (lt_of_block hb3) (fun f => f)).trans hb3
                have HE : Hid (w6.heap[bs]? = some (.cells #[.int .i64 tth, .int .i64 (a : Int), .int .i64 (b : Int), .int .u64 tsn, .int .i64 thow, .int .i64 trd, .int .i64 twr, .int .i64 (fr : Int), .int .i64 (up : Int), .int .i64 (atU F W fr (n + 1 - fr) rs)] 40 (0, 0))) := by unfold Hid; rw [hnx, hau]; exact b6
                have KE2 : Keeps (fun q => q = bs) w5 w6 := kz.trans (k6.mono (fun _ _ f => f.elim))
                clear b6 hau hnx hbn hb3 kz k6 x3 z8
                go_wp2_with fail
                go_roundw
                · exact ⟨n + 1, by simp, by omega, by omega, HE, KE2⟩
                · simp [intOf]; omega
            · obtain rfl : n = up + 1 := by omega
              have hni : ¬ (((up + 1 : Nat) : Int) ≤ (up : Int)) := by omega
              generalize hav : atU F W fr (up + 1 - fr) rs = av at *
              obtain ⟨oF, KF⟩ := HO5.out wr kz
              obtain ⟨v', w7, r1, r2, r3⟩ := oF.push sg_len sg_one (by decide) Tryd.underlying25 info_sg rfl (by decide) (ty := 25) ⟨⟨tth, (a : Int), (b : Int), tsn, thow, trd, twr⟩, (fr : Int), (up : Int), av⟩ (cs := #[.int .i64 tth, .int .i64 (a : Int), .int .i64 (b : Int), .int .u64 tsn, .int .i64 thow, .int .i64 trd, .int .i64 twr, .int .i64 (fr : Int), .int .i64 (up : Int), .int .i64 av]) rfl (by rw [sgK_len]; omega)
              rw [← HSK.out] at r2
              have K7 := OwnR.kept r3 KF oF
              obtain ⟨⟨za, zn, zc⟩, rfl, -⟩ := sl_of r2
              dsimp only [Sl.v] at r1
              have HA : Hid (_ = _) := r1
              have HF : Hid (SR w7 E.heap.size (.slice za zn zc) (sgK F W T P (i + 1)) ∧ Keeps (fun _ => False) E w7) := ⟨r2, K7⟩
              have z0 : wr.cell? ⟨bs, 0, none⟩ = some (.int .i64 tth) := by rw [cell_of_block hb3]; rfl
              have z1 : wr.cell? ⟨bs, 1, none⟩ = some (.int .i64 (a : Int)) := by rw [cell_of_block hb3]; rfl
              have z2 : wr.cell? ⟨bs, 2, none⟩ = some (.int .i64 (b : Int)) := by rw [cell_of_block hb3]; rfl
              have z3 : wr.cell? ⟨bs, 3, none⟩ = some (.int .u64 tsn) := by rw [cell_of_block hb3]; rfl
              have z4 : wr.cell? ⟨bs, 4, none⟩ = some (.int .i64 thow) := by rw [cell_of_block hb3]; rfl
              have z5 : wr.cell? ⟨bs, 5, none⟩ = some (.int .i64 trd) := by rw [cell_of_block hb3]; rfl
              have z6 : wr.cell? ⟨bs, 6, none⟩ = some (.int .i64 twr) := by rw [cell_of_block hb3]; rfl
              have z7 : wr.cell? ⟨bs, 7, none⟩ = some (.int .i64 (fr : Int)) := by rw [cell_of_block hb3]; rfl
              have z9 : wr.cell? ⟨bs, 9, none⟩ = some (.int .i64 av) := by rw [cell_of_block hb3]; rfl
              obtain ⟨up1, hup1⟩ : ∃ u : Nat, u = up + 1 := ⟨_, rfl⟩
              rw [← hup1] at hni ⊢
              clear r1 r2 r3 oF KF K7 hbn hb3 HSK hav hup1 hnu hfn
              go_wp2_with (at_builtin; refine wpList_append_run rfl _ _ 25 rfl rfl rfl HA.out ?_)
              go_roundw
              · exact ⟨i + 1, by simp, by omega, HF.out.1, HF.out.2⟩
              · simp [intOf]; omega
    · obtain rfl : i = T.length := by omega
      obtain ⟨B2, bA⟩ := HB.out Wo kr
      have c0 : Wo.cell? ⟨w.heap.size, 0, none⟩ = some (.int .i64 0) := by rw [cell_of_block B2]; rfl
      have c1 : Wo.cell? ⟨w.heap.size, 1, none⟩ = some (.int .i64 0) := by rw [cell_of_block B2]; rfl
      have f0 : Wo.frozen? ⟨w.heap.size, 0, none⟩ = false := frozen_of_block B2 _
      have f1 : Wo.frozen? ⟨w.heap.size, 1, none⟩ = false := frozen_of_block B2 _
      have hS0 : Wo.cell? ⟨ob7, 0, none⟩ = some (.int .i64 (-1)) ∧ Wo.cell? ⟨ob7, 1, none⟩ = some (.int .i64 0) := ⟨by rw [cell_of_block bA]; rfl, by rw [cell_of_block bA]; rfl⟩
      have hne : ¬ w.heap.size = ob7 := by omega
      have BE : Hid (∀ X : World, X.heap = Wo.heap → ((X.setCell ⟨w.heap.size, 0, none⟩ (.int .i64 (-1))).setCell ⟨w.heap.size, 1, none⟩ (.int .i64 0)).heap[w.heap.size]? = some (.cells #[.int .i64 (-1), .int .i64 0] 28 (0, 0))) := fun X hX => block_set (block_set (w := X) (by rw [hX]; exact B2) 0 (.int .i64 (-1))) 1 (.int .i64 0)
      have kF := ((Keeps.refl (fun q => q = w.heap.size) Wo).setCell (p := ⟨w.heap.size, 0, none⟩) (.inr rfl) (.int .i64 (-1))).setCell (p := ⟨w.heap.size, 1, none⟩) (.inr rfl) (.int .i64 0)
      have hEs := KE.size
      have hEs2 : w.heap.size < E.heap.size := by
        have := lt_of_block (HB.out E (Keeps.refl _ _)).1
        exact this
      have HF : Hid (SR ((Wo.setCell ⟨w.heap.size, 0, none⟩ (.int .i64 (-1))).setCell ⟨w.heap.size, 1, none⟩ (.int .i64 0)) w.heap.size (.slice oa T.length oc) (sgK F W T P T.length)) := (hO.out.lowE hEs).keeps kF (fun g hg e => by have := (own_block hO.out.own hg).2; omega)
      have KF : Keeps (fun _ => False) w ((Wo.setCell ⟨w.heap.size, 0, none⟩ (.int .i64 (-1))).setCell ⟨w.heap.size, 1, none⟩ (.int .i64 0)) := (KE.trans kr).young kF (fun q e => by omega)
      clear B2 bA hO kF
      go_wp2_with fail
      go_region_held3 (fun W : World => W.cell? ⟨ob7, 0, none⟩ = some (.int .i64 (-1)) ∧ W.cell? ⟨ob7, 1, none⟩ = some (.int .i64 0)) (first | assumption | (exact hS0) | go_keep) (fail)
      go_wp2_with fail
      refine bodyPost_ret (odd_ret2 rfl _ _ w.heap.size #[.int .i64 (-1), .int .i64 0] (BE.out Wo rfl) rfl rfl) rfl ?_
      exact ⟨_, rfl, HF.out.keeps ((Keeps.refl _ _).drew) (fun _ _ f => f), KF.drew⟩
end Go.Proofs.YtjmmjkoloioddaaDoor
