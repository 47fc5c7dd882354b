
/- EventsCheck: the law's walk (package parleylaw13). No statement of the seat is proved here. -/
import Derived.Test.YtjaldfmdjnkoeaaDoorEvDk
namespace Go.Proofs.YtjaldfmdjnkoeaaDoor
open Go.RowKit Go.Shelf

theorem alloc_sz (w : World) (o : Obj) : (w.alloc o).heap.size = w.heap.size + 1 := by unfold World.alloc; exact Array.size_push _
theorem blk2 {w : World} {g : Nat} {a b : Value} {t : TypeId} {fr : Nat × Nat} (h : w.heap[g]? = some (.cells #[a, b] t fr)) : w.cell? ⟨g, 0, none⟩ = some a ∧ w.cell? ⟨g, 1, none⟩ = some b :=
  ⟨by rw [cell_of_block h]; rfl, by rw [cell_of_block h]; rfl⟩
theorem OwnR.rng {α : Type} {c : α → List Value} {sz : Nat} {t : TypeId} {w : World} {base : Nat} {v : Value} {L : List α} (h : OwnR c sz t w base v L) {lo : Nat} (hl : lo ≤ base) : ∀ g, v.ownBlock = some g → lo ≤ g ∧ g < w.heap.size := fun _ hg => ⟨Nat.le_trans hl (own_block h.own hg).2, (own_block h.own hg).1⟩
set_option maxRecDepth 100000 in
set_option maxHeartbeats 32000000 in
theorem checks_law (v : Value) (L : List Ev) (t : Int) (w : World) (hv : EvsAt w v L) (hg : Gv w) (h8 : 8 ≤ w.heap.size) :
    Calls Tryd.prog 3 #[v, .int .i64 t] w fun ex w' => ex = .returned (.bool true) ∧ Keeps (fun _ => False) w w' := by
  have hbig := hv.big
  have HG : Hid (∀ X, Keeps (fun _ => False) w X → Gv X ∧ 8 ≤ X.heap.size) := fun X k => ⟨hg.keeps k, Nat.le_trans h8 k.size⟩
  have HE : Hid (∀ X, Keeps (fun _ => False) w X → EvsAt X v L) := fun X k => hv.keeps k
  have LT : Hid (∀ X, Keeps (fun _ => False) w X → _) := fun X k => lent_any v L X (HE.out X k)
  have hwf := hv.wf
  have HT : Hid (∀ X u, Keeps (fun _ => False) w X → EvsAt X u L → Calls Tryd.prog 10 #[u] X fun ex w' => ∃ tv, ex = .returned (.tuple #[tv, .agg (odV (checkL L).1 (checkL L).2)]) ∧ OwnR Ty.cl 7 42 w' X.heap.size tv (if (checkL L).2 = 0 then begs L 0 else []) ∧ Keeps (fun _ => False) X w') := fun X u k h => by
    have := tries_any u L X h (HG.out X k).1 (HG.out X k).2 (fun hz k hk => by have := tries_few hz k (by omega); omega)
    by_cases hz : (checkL L).2 = 0
    · rw [if_pos hz] at this ⊢
      rw [tries_begs hz] at this
      exact this
    · rw [if_neg hz] at this ⊢
      exact this
  have HC : Hid (∀ X u, Keeps (fun _ => False) w X → EvsAt X u L → Calls Tryd.prog 11 #[u] X fun ex w' => ∃ tv, ex = .returned (.tuple #[tv, .agg (odV (checkL L).1 (checkL L).2)]) ∧ OwnR Ci 1 3 w' X.heap.size tv (if (checkL L).2 = 0 then commF L 0 else []) ∧ Keeps (fun _ => False) X w') := fun X u k h => commits_any u L X h (HG.out X k).1 (HG.out X k).2
  have HO : Hid (∀ X u, EvsAt X u L → Calls Tryd.prog 12 #[u, .int .i64 t] X fun ex w' => ∃ tv, ex = .returned tv ∧ OwnR Ev.cl 6 44 w' X.heap.size tv (L.filter fun e => decide (e.th = t)) ∧ Keeps (fun _ => False) X w') := fun X u h => of_any u L t X h
  have RT : Hid (∀ X, Keeps (fun _ => False) w X → Calls Tryd.prog 13 #[v] X fun ex w' => ∃ tv, ex = .returned (.tuple #[tv, .agg (odV (checkL L).1 (checkL L).2)]) ∧ OwnR Ty.cl 7 42 w' X.heap.size tv (if (checkL L).2 = 0 then begs L 0 else []) ∧ Keeps (fun _ => False) X w') := fun X k => rtries_any v L X (HE.out X k)
  have RC : Hid (∀ X, Keeps (fun _ => False) w X → Calls Tryd.prog 14 #[v] X fun ex w' => ∃ tv, ex = .returned (.tuple #[tv, .agg (odV (checkL L).1 (checkL L).2)]) ∧ OwnR Ci 1 3 w' X.heap.size tv (if (checkL L).2 = 0 then commF L 0 else []) ∧ Keeps (fun _ => False) X w') := fun X k => rcommits_any v L X (HE.out X k)
  have RO : Hid (∀ X, Keeps (fun _ => False) w X → Calls Tryd.prog 15 #[v, .int .i64 t] X fun ex w' => ∃ tv, ex = .returned tv ∧ OwnR Ev.cl 6 44 w' X.heap.size tv (L.filter fun e => decide (e.th = t)) ∧ Keeps (fun _ => False) X w') := fun X k => rof_any v L t X (HE.out X k)
  have HCK : Hid (∀ X u, Keeps (fun _ => False) w X → EvsAt X u L → Calls Tryd.prog 16 #[u] X fun ex w' => ex = .returned (.agg (odV (checkL L).1 (checkL L).2)) ∧ Keeps (fun _ => False) X w') := fun X u k h => check_any u L X h (HG.out X k).1 (HG.out X k).2
  have RCK : Hid (∀ X, Keeps (fun _ => False) w X → Calls Tryd.prog 17 #[v] X fun ex w' => ex = .returned (.agg (odV (checkL L).1 (checkL L).2)) ∧ Keeps (fun _ => False) X w') := fun X k => rcheck_any v L X (HE.out X k)
  have HTH : Hid (∀ X u, EvsAt X u L → Calls Tryd.prog 21 #[u] X fun ex w' => ex = .returned (.int .i64 (thrL L)) ∧ Keeps (fun _ => False) X w') := fun X u h => threads_any u L X h
  have RTH : Hid (∀ X, Keeps (fun _ => False) w X → Calls Tryd.prog 22 #[v] X fun ex w' => ex = .returned (.int .i64 (thrL L)) ∧ Keeps (fun _ => False) X w') := fun X k => rthreads_any v L X (HE.out X k)
  have HKN : Hid (∀ X, Keeps (fun _ => False) w X → Calls Tryd.prog 24 #[] X fun ex w' => ex = .returned (.bool true) ∧ Keeps (fun _ => False) X w') := fun X k => known_any X (HG.out X k).1 (HG.out X k).2
  have bT : 2 * (if (checkL L).2 = 0 then begs L 0 else []).length ≤ L.length + 8 := by
    by_cases hz : (checkL L).2 = 0
    · rw [if_pos hz]
      have := tries_few hz L.length (Nat.le_refl _)
      rw [List.take_length] at this
      rw [← tries_begs hz]
      exact this
    · rw [if_neg hz]; simp
  have bC : (if (checkL L).2 = 0 then commF L 0 else []).length ≤ L.length := by
    split
    · exact commF_len L 0
    · simp
  have bO : (L.filter fun e => decide (e.th = t)).length ≤ L.length := List.length_filter_le _ _
  have HWF : Hid (∀ X (b : Option Addr) (cap : Nat), ElsAt Ev.cl 6 X (.slice b (L.length + 1) cap) (L ++ [mrk]) → EvsAt X (.slice b L.length cap) L) := fun X b cap h => by
    have h5 := h.take L.length (by simp)
    rw [List.take_left' rfl] at h5
    exact ⟨h5, hwf, hbig⟩
  generalize (if (checkL L).2 = 0 then begs L 0 else []) = TL at *
  generalize (if (checkL L).2 = 0 then commF L 0 else []) = CL at *
  generalize (L.filter fun e => decide (e.th = t)) = OL at *
  generalize thrL L = tn at *
  unfold odV at HT HC RT RC HCK RCK
  generalize checkL L = cl at *
  obtain ⟨ca, ce⟩ := cl
  dsimp only at HT HC RT RC HCK RCK
  obtain ⟨av, cv, rfl, hcv⟩ := hv.els.shape
  clear hv hg h8 hwf
  go_enter Tryd.func3, Tryd.ntmps3
  go_wp2_with fail
  refine (LT.out _ (Keeps.refl _ _)).mono ?_
  rintro ex w1 ⟨mb, mc, rfl, hmc, om, K1⟩
  have HM : Hid (∀ X, Keeps (fun _ => False) w1 X → ElsAt Ev.cl 6 X (.slice mb (L.length + 1) mc) (L ++ [mrk]) ∧ EvsAt X (.slice mb L.length mc) L) := fun X k => ⟨(om.els ev_len).keeps ev_ne k, HWF.out X _ _ ((om.els ev_len).keeps ev_ne k)⟩
  go_wp2_with fail
  refine (HT.out _ _ K1 (HM.out _ (Keeps.refl _ _)).2).mono ?_
  rintro ex w2 ⟨va, rfl, oa, k2⟩
  have x2 := k2.alloc (.cells #[.int .i64 ca, .int .i64 ce] 27)
  have b2 := (MapKept.heap_alloc w2 (.cells #[.int .i64 ca, .int .i64 ce] 27)).1
  go_wp2_with fail
  refine (HT.out _ _ (K1.trans x2) (HM.out _ x2).2).mono ?_
  rintro ex w3 ⟨vb, rfl, ob, k3⟩
  have y3 := k3.alloc (.cells #[.int .i64 ca, .int .i64 ce] 27)
  have x3 := x2.trans y3
  go_wp2_with fail
  refine (HC.out _ _ (K1.trans x3) (HM.out _ x3).2).mono ?_
  rintro ex w4 ⟨vc, rfl, oc, k4⟩
  have y4 := k4.alloc (.cells #[.int .i64 ca, .int .i64 ce] 27)
  have b4 := (MapKept.heap_alloc w4 (.cells #[.int .i64 ca, .int .i64 ce] 27)).1
  have x4 := x3.trans y4
  go_wp2_with fail
  refine (HC.out _ _ (K1.trans x4) (HM.out _ x4).2).mono ?_
  rintro ex w5 ⟨vd, rfl, od, k5⟩
  have y5 := k5.alloc (.cells #[.int .i64 ca, .int .i64 ce] 27)
  have x5 := x4.trans y5
  go_wp2_with fail
  refine (HO.out _ _ (HM.out _ x5).2).mono ?_
  rintro ex w6 ⟨ve, rfl, oe, k6⟩
  have x6 := x5.trans k6
  go_wp2_with fail
  refine (HO.out _ _ (HM.out _ x6).2).mono ?_
  rintro ex w7 ⟨vf, rfl, oof, k7⟩
  have x7 := x6.trans k7
  go_wp2_with fail
  refine (RT.out _ (K1.trans x7)).mono ?_
  rintro ex w8 ⟨vt, rfl, ot, k8⟩
  have y8 := k8.alloc (.cells #[.int .i64 ca, .int .i64 ce] 27)
  have b8 := (MapKept.heap_alloc w8 (.cells #[.int .i64 ca, .int .i64 ce] 27)).1
  have x8 := x7.trans y8
  go_wp2_with fail
  refine (RC.out _ (K1.trans x8)).mono ?_
  rintro ex w9 ⟨vm, rfl, ocm, k9⟩
  have y9 := k9.alloc (.cells #[.int .i64 ca, .int .i64 ce] 27)
  have x9 := x8.trans y9
  go_wp2_with fail
  refine (RO.out _ (K1.trans x9)).mono ?_
  rintro ex w10 ⟨vo, rfl, oo, k10⟩
  have x10 := x9.trans k10
  go_wp2_with fail
  refine (HCK.out _ _ (K1.trans x10) (HM.out _ x10).2).mono ?_
  rintro ex w11 ⟨rfl, k11⟩
  have x11 := x10.trans k11
  go_wp2_with fail
  refine (RCK.out _ (K1.trans x11)).mono ?_
  rintro ex w12 ⟨rfl, k12⟩
  have x12 := x11.trans k12
  have e11 := k12
  have e10 := k11.trans e11
  have e9' := k10.trans e10
  have e9 := ((Keeps.refl (fun _ => False) w9).alloc (.cells #[.int .i64 ca, .int .i64 ce] 27)).trans e9'
  have e8' := y9.trans e9'
  have e8 := ((Keeps.refl (fun _ => False) w8).alloc (.cells #[.int .i64 ca, .int .i64 ce] 27)).trans e8'
  have e7 := k8.trans e8
  have e6 := k7.trans e7
  have e5' := k6.trans e6
  have e5 := ((Keeps.refl (fun _ => False) w5).alloc (.cells #[.int .i64 ca, .int .i64 ce] 27)).trans e5'
  have e4' := k5.trans e5
  have e4 := ((Keeps.refl (fun _ => False) w4).alloc (.cells #[.int .i64 ca, .int .i64 ce] 27)).trans e4'
  have e3' := k4.trans e4
  have e3 := ((Keeps.refl (fun _ => False) w3).alloc (.cells #[.int .i64 ca, .int .i64 ce] 27)).trans e3'
  have e2' := k3.trans e3
  have e2 := ((Keeps.refl (fun _ => False) w2).alloc (.cells #[.int .i64 ca, .int .i64 ce] 27)).trans e2'
  obtain ⟨o0, o1⟩ := blk2 ((e2'.block _ (lt_of_block b2) (fun f => f)).trans b2)
  obtain ⟨p0, p1⟩ := blk2 ((e4'.block _ (lt_of_block b4) (fun f => f)).trans b4)
  obtain ⟨q0, q1⟩ := blk2 ((e8'.block _ (lt_of_block b8) (fun f => f)).trans b8)
  have n2 := k2.size
  have n3 := k3.size
  have n4 := k4.size
  have n5 := k5.size
  have n6 := k6.size
  have n7 := k7.size
  have n8 := k8.size
  have n9 := k9.size
  have n10 := k10.size
  have n12 := e10.size
  simp only [alloc_sz] at n3 n4 n5 n6 n9 n10
  have ra := oa.rng (Nat.le_refl _)
  have rb := ob.rng (Nat.le_refl _)
  have rc := oc.rng (Nat.le_refl _)
  have rd := od.rng (Nat.le_refl _)
  have re := oe.rng (Nat.le_refl _)
  have rf := oof.rng (Nat.le_refl _)
  have rt := ot.rng (Nat.le_refl _)
  have rm := ocm.rng (Nat.le_refl _)
  have ro := oo.rng (Nat.le_refl _)
  have rM := om.rng (Nat.le_refl _)
  simp only [alloc_sz] at rb rc rd re rm ro
  have oa' := oa.keeps e2 (fun _ _ f => f)
  have ob' := ob.keeps e3 (fun _ _ f => f)
  have oc' := oc.keeps e4 (fun _ _ f => f)
  have od' := od.keeps e5 (fun _ _ f => f)
  have oe' := oe.keeps e6 (fun _ _ f => f)
  have of' := oof.keeps e7 (fun _ _ f => f)
  have ot' := ot.keeps e8 (fun _ _ f => f)
  have om' := ocm.keeps e9 (fun _ _ f => f)
  have oo' := oo.keeps e10 (fun _ _ f => f)
  have K12 := K1.trans x12
  have SA := rsametries_any va vt TL (by omega) w12 (oa'.els ty_len) (ot'.els ty_len)
  clear k2 k3 k4 k5 k6 k7 k8 k9 k10 k11 k12 y3 y4 y5 y8 y9 x2 x3 x4 x5 x6 x7 x8 x9 x10 x11 e2 e2' e3 e3' e4 e4' e5 e5' e6 e7 e8 e8' e9 e9' e10 e11 b2 b4 b8 oa ob oc od oe oof ot ocm oo HT HC HO RT RC RO HCK RCK LT
  go_wp2_with fail
  refine SA.mono ?_
  rintro ex w13 ⟨rfl, k13⟩
  clear SA
  have SC := rsameints_any vc vm CL (by omega) w13 ((oc'.els ci_len).keeps ci_ne k13) ((om'.els ci_len).keeps ci_ne k13)
  go_wp2_with fail
  refine SC.mono ?_
  rintro ex w14 ⟨rfl, k14⟩
  clear SC
  have j14 := k13.trans k14
  have SE := rsame_any ve vo OL (by omega) w14 ((oe'.els ev_len).keeps ev_ne j14) ((oo'.els ev_len).keeps ev_ne j14)
  go_wp2_with fail
  refine SE.mono ?_
  rintro ex w15 ⟨rfl, k15⟩
  clear SE
  have j15 := j14.trans k15
  go_wp2_with fail
  refine (HTH.out _ _ (HM.out _ (x12.trans j15)).2).mono ?_
  rintro ex w16 ⟨rfl, k16⟩
  have j16 := j15.trans k16
  go_wp2_with fail
  refine (RTH.out _ (K12.trans j16)).mono ?_
  rintro ex w17 ⟨rfl, k17⟩
  have j17 := j16.trans k17
  have LF : Hid (∀ X, ElsAt Ev.cl 6 X (.slice mb (L.length + 1) mc) (L ++ [mrk]) → Keeps (fun _ => False) w X → _) := fun X h k => left_any (.slice av L.length cv) L mb mc hmc X h (HE.out X k).els (by omega)
  go_wp2_with fail
  refine (LF.out _ (HM.out _ (x12.trans j17)).1 (K12.trans j17)).mono ?_
  rintro ex Y ⟨rfl, k18⟩
  have j18 := j17.trans k18
  have KY := K12.trans j18
  clear o0 o1 p0 p1 q0 q1 HTH RTH
  obtain ⟨Pr, hPr⟩ : ∃ Pr : Nat → Prop, Pr = fun g => (Value.slice mb (L.length + 1) mc).ownBlock = some g ∨ vb.ownBlock = some g ∨ vd.ownBlock = some g ∨ vf.ownBlock = some g ∨ vt.ownBlock = some g ∨ vm.ownBlock = some g ∨ vo.ownBlock = some g := ⟨_, rfl⟩
  have nY := j18.size
  have ST0 : Sta Pr w.heap.size Y.heap.size Y Y va vc ve TL CL OL := by
    refine ⟨⟨(oa'.keeps j18 (fun _ _ f => f)).low (by have := K1.size; omega), (oc'.keeps j18 (fun _ _ f => f)).low (by have := K1.size; simp only [alloc_sz]; omega), (oe'.keeps j18 (fun _ _ f => f)).low (by have := K1.size; simp only [alloc_sz]; omega), fun g h1 h2 => ?_, fun g h1 h2 => ?_, fun g h1 h2 => ?_⟩, fun g h1 h2 => ?_, fun g h1 h2 => ?_, fun g h1 h2 => ?_, Keeps.refl _ _, fun g h2 => ?_, Nat.le_refl _⟩
    · have := ra g h1; have := rc g h2; omega
    · have := ra g h1; have := re g h2; omega
    · have := rc g h1; have := re g h2; omega
    · rw [hPr] at h2
      have := ra g h1
      rcases h2 with q | q | q | q | q | q | q
      · have := rM g q; omega
      · have := rb g q; omega
      · have := rd g q; omega
      · have := rf g q; omega
      · have := rt g q; omega
      · have := rm g q; omega
      · have := ro g q; omega
    · rw [hPr] at h2
      have := rc g h1
      rcases h2 with q | q | q | q | q | q | q
      · have := rM g q; omega
      · have := rb g q; omega
      · have := rd g q; omega
      · have := rf g q; omega
      · have := rt g q; omega
      · have := rm g q; omega
      · have := ro g q; omega
    · rw [hPr] at h2
      have := re g h1
      rcases h2 with q | q | q | q | q | q | q
      · have := rM g q; omega
      · have := rb g q; omega
      · have := rd g q; omega
      · have := rf g q; omega
      · have := rt g q; omega
      · have := rm g q; omega
      · have := ro g q; omega
    · rw [hPr] at h2
      rcases h2 with q | q | q | q | q | q | q
      · have := rM g q; omega
      · have := rb g q; omega
      · have := rd g q; omega
      · have := rf g q; omega
      · have := rt g q; omega
      · have := rm g q; omega
      · have := ro g q; omega
  have HP : Hid (∀ X, Keeps (fun q => ¬ Pr q ∧ w.heap.size ≤ q) Y X → ElsAt Ev.cl 6 X (.slice mb (L.length + 1) mc) (L ++ [mrk]) ∧ (ElsAt Ty.cl 7 X vb TL ∧ ElsAt Ci 1 X vd CL ∧ ElsAt Ev.cl 6 X vf OL) ∧ (ElsAt Ty.cl 7 X vt TL ∧ ElsAt Ci 1 X vm CL ∧ ElsAt Ev.cl 6 X vo OL)) := fun X k => by
    have hp : ∀ q, ((Value.slice mb (L.length + 1) mc).ownBlock = some q ∨ vb.ownBlock = some q ∨ vd.ownBlock = some q ∨ vf.ownBlock = some q ∨ vt.ownBlock = some q ∨ vm.ownBlock = some q ∨ vo.ownBlock = some q) → ¬ (¬ Pr q ∧ w.heap.size ≤ q) := fun q h1 h2 => h2.1 (by rw [hPr]; exact h1)
    exact ⟨(((om.keeps x12 (fun _ _ f => f)).keeps j18 (fun _ _ f => f)).keeps k (fun g hg => hp g (.inl hg))).els ev_len,
      ⟨((ob'.keeps j18 (fun _ _ f => f)).keeps k (fun g hg => hp g (.inr (.inl hg)))).els ty_len, ((od'.keeps j18 (fun _ _ f => f)).keeps k (fun g hg => hp g (.inr (.inr (.inl hg))))).els ci_len, ((of'.keeps j18 (fun _ _ f => f)).keeps k (fun g hg => hp g (.inr (.inr (.inr (.inl hg)))))).els ev_len⟩,
      ⟨((ot'.keeps j18 (fun _ _ f => f)).keeps k (fun g hg => hp g (.inr (.inr (.inr (.inr (.inl hg))))))).els ty_len, ((om'.keeps j18 (fun _ _ f => f)).keeps k (fun g hg => hp g (.inr (.inr (.inr (.inr (.inr (.inl hg)))))))).els ci_len, ((oo'.keeps j18 (fun _ _ f => f)).keeps k (fun g hg => hp g (.inr (.inr (.inr (.inr (.inr (.inr hg)))))))).els ev_len⟩⟩
  have HST : Hid (Sta Pr w.heap.size Y.heap.size Y Y va vc ve TL CL OL) := ST0
  obtain ⟨aa, ka, hva⟩ := oa'.form
  obtain ⟨ac, kc, hvc⟩ := oc'.form
  obtain ⟨ae, ke, hve⟩ := oe'.form
  have HKY : Hid (Keeps (fun _ => False) w Y) := KY
  clear ST0 hPr ra rb rc rd re rf rt rm ro rM n2 n3 n4 n5 n6 n7 n8 n9 n10 n12 nY oa' ob' oc' od' oe' of' ot' om' oo' k13 k14 k15 k16 k17 k18 j14 j15 j16 j17 j18 K12 x12 K1 om HM HWF KY
  subst hva hvc hve
  go_wp2_with fail
  go_loopw [21] (fun u wr => ∃ (k : Nat) (A' : List Ty), u = .int .i64 k ∧ k ≤ TL.length ∧ A'.length = TL.length ∧ Hid (Sta Pr w.heap.size Y.heap.size Y wr (.slice aa TL.length ka) (.slice ac CL.length kc) (.slice ae OL.length ke) A' CL OL)) (fun u _ => TL.length - (intOf u).toNat)
  case atStart => exact ⟨0, TL, rfl, Nat.zero_le _, rfl, HST⟩
  case round =>
    clear HST
    obtain ⟨k, M, rfl, hk, hM, hh⟩ := hrel
    by_cases hlt : k < TL.length
    · have hkM : k < M.length := by omega
      have hki : (k : Int) < TL.length := by omega
      have hk0 : (0 : Int) ≤ k := by omega
      have oM := hh.out.tri.a
      obtain ⟨g, cap, cur, hv, hg, hbk, hcur⟩ := oM.at (by omega)
      simp only [Value.slice.injEq] at hv
      obtain ⟨rfl, -, rfl⟩ := hv
      have c0 : wr.cell? ⟨g, k * 7, none⟩ = some (.int .i64 (M[k]'hkM).th) := by
        obtain ⟨g', off', hx, q⟩ := (oM.els ty_len).at k hkM
        simp only [Option.some.injEq, Addr.mk.injEq, and_true] at hx
        obtain ⟨rfl, rfl⟩ := hx
        have := q 0 _ rfl
        simpa using this
      have hfz : wr.frozen? ⟨g, k * 7, none⟩ = false := frozen_of_block hbk _
      have oN := oM.set ty_len k 0 ⟨-9, (M[k]'hkM).fi, (M[k]'hkM).la, (M[k]'hkM).sn, (M[k]'hkM).how, (M[k]'hkM).rd, (M[k]'hkM).wr⟩ (.int .i64 (-9)) hkM (by decide) rfl
      have fin : Hid (Sta Pr w.heap.size Y.heap.size Y (wr.setCell ⟨g, k * 7, none⟩ (.int .i64 (-9))) (.slice (some ⟨g, 0, none⟩) TL.length ka) (.slice ac CL.length kc) (.slice ae OL.length ke) (M.set k ⟨-9, (M[k]'hkM).fi, (M[k]'hkM).la, (M[k]'hkM).sn, (M[k]'hkM).how, (M[k]'hkM).rd, (M[k]'hkM).wr⟩) CL OL) := hh.out.growA Grew.cell oN
      clear hh oM oN hbk hcur
      go_wp2_with fail
      go_roundw
      · exact ⟨k + 1, M.set k _, by simp, by omega, by simpa using hM, fin⟩
      · simp [intOf]; omega
    · obtain rfl : k = TL.length := by omega
      clear hk hlt
      go_wp2_with fail
      go_loopw [22] (fun u wr => ∃ (k : Nat) (C' : List Int), u = .int .i64 k ∧ k ≤ CL.length ∧ C'.length = CL.length ∧ Hid (Sta Pr w.heap.size Y.heap.size Y wr (.slice aa TL.length ka) (.slice ac CL.length kc) (.slice ae OL.length ke) M C' OL)) (fun u _ => CL.length - (intOf u).toNat)
      case atStart => exact ⟨0, CL, rfl, Nat.zero_le _, rfl, hh⟩
      case round =>
        clear hh
        obtain ⟨k, N, rfl, hk, hN, hh⟩ := hrel
        by_cases hlt : k < CL.length
        · have hkM : k < N.length := by omega
          have hki : (k : Int) < CL.length := by omega
          have hk0 : (0 : Int) ≤ k := by omega
          have oM := hh.out.tri.c
          obtain ⟨g, cap, cur, hv, hg, hbk, hcur⟩ := oM.at (by omega)
          simp only [Value.slice.injEq] at hv
          obtain ⟨rfl, -, rfl⟩ := hv
          have c0 : wr.cell? ⟨g, k * 1, none⟩ = some (.int .i64 (N[k]'hkM)) := by
            obtain ⟨g', off', hx, q⟩ := (oM.els ci_len).at k hkM
            simp only [Option.some.injEq, Addr.mk.injEq, and_true] at hx
            obtain ⟨rfl, rfl⟩ := hx
            have := q 0 _ rfl
            simpa using this
          have hfz : wr.frozen? ⟨g, k * 1, none⟩ = false := frozen_of_block hbk _
          have oN := oM.set ci_len k 0 (-9) (.int .i64 (-9)) hkM (by decide) rfl
          have fin : Hid (Sta Pr w.heap.size Y.heap.size Y (wr.setCell ⟨g, k * 1, none⟩ (.int .i64 (-9))) (.slice aa TL.length ka) (.slice (some ⟨g, 0, none⟩) CL.length kc) (.slice ae OL.length ke) M (N.set k (-9)) OL) := hh.out.growC Grew.cell oN
          simp only [Nat.mul_one] at c0 hfz fin
          clear hh oM oN hbk hcur
          go_wp2_with fail
          go_roundw
          · exact ⟨k + 1, N.set k _, by simp, by omega, by simpa using hN, fin⟩
          · simp [intOf]; omega
        · obtain rfl : k = CL.length := by omega
          clear hk hlt
          go_wp2_with fail
          go_loopw [23] (fun u wr => ∃ (k : Nat) (E' : List Ev), u = .int .i64 k ∧ k ≤ OL.length ∧ E'.length = OL.length ∧ Hid (Sta Pr w.heap.size Y.heap.size Y wr (.slice aa TL.length ka) (.slice ac CL.length kc) (.slice ae OL.length ke) M N E')) (fun u _ => OL.length - (intOf u).toNat)
          case atStart => exact ⟨0, OL, rfl, Nat.zero_le _, rfl, hh⟩
          case round =>
            clear hh
            obtain ⟨k, E, rfl, hk, hE, hh⟩ := hrel
            by_cases hlt : k < OL.length
            · have hkM : k < E.length := by omega
              have hki : (k : Int) < OL.length := by omega
              have hk0 : (0 : Int) ≤ k := by omega
              have oM := hh.out.tri.e
              obtain ⟨g, cap, cur, hv, hg, hbk, hcur⟩ := oM.at (by omega)
              simp only [Value.slice.injEq] at hv
              obtain ⟨rfl, -, rfl⟩ := hv
              have c0 : wr.cell? ⟨g, k * 6, none⟩ = some (.int .i64 (E[k]'hkM).th) := by
                obtain ⟨g', off', hx, q⟩ := (oM.els ev_len).at k hkM
                simp only [Option.some.injEq, Addr.mk.injEq, and_true] at hx
                obtain ⟨rfl, rfl⟩ := hx
                have := q 0 _ rfl
                simpa using this
              have hfz : wr.frozen? ⟨g, k * 6, none⟩ = false := frozen_of_block hbk _
              have oN := oM.set ev_len k 0 ⟨-9, (E[k]'hkM).kd, (E[k]'hkM).ad, (E[k]'hkM).wd, (E[k]'hkM).own, (E[k]'hkM).er⟩ (.int .i64 (-9)) hkM (by decide) rfl
              have fin : Hid (Sta Pr w.heap.size Y.heap.size Y (wr.setCell ⟨g, k * 6, none⟩ (.int .i64 (-9))) (.slice aa TL.length ka) (.slice ac CL.length kc) (.slice (some ⟨g, 0, none⟩) OL.length ke) M N (E.set k ⟨-9, (E[k]'hkM).kd, (E[k]'hkM).ad, (E[k]'hkM).wd, (E[k]'hkM).own, (E[k]'hkM).er⟩)) := hh.out.growE Grew.cell oN
              clear hh oM oN hbk hcur
              go_wp2_with fail
              go_roundw
              · exact ⟨k + 1, E.set k _, by simp, by omega, by simpa using hE, fin⟩
              · simp [intOf]; omega
            · obtain rfl : k = OL.length := by omega
              clear hk hlt
              go_wp2_with fail
              go_loopw [6, 10, 14, 24] (fun xa xc xe u wr => ∃ (k : Nat) (A' : List Ty) (C' : List Int) (E' : List Ev), u = .int .i64 k ∧ k ≤ 20 ∧ A'.length = TL.length + k ∧ C'.length = CL.length + k ∧ E'.length = OL.length + k ∧ Hid (Sta Pr w.heap.size Y.heap.size Y wr xa xc xe A' C' E')) (fun _ _ _ u _ => 20 - (intOf u).toNat)
              case atStart => exact ⟨0, M, N, E, rfl, by omega, hM, hN, hE, hh⟩
              case round =>
                clear hh hM hN hE
                obtain ⟨k, A, C, E, rfl, hk, hA, hC, hE, hh⟩ := hrel
                obtain ⟨ba, ca', hxa⟩ := hh.out.tri.a.form
                obtain ⟨bc, cc', hxc⟩ := hh.out.tri.c.form
                obtain ⟨be, ce', hxe⟩ := hh.out.tri.e.form
                by_cases hlt : k < 20
                · obtain ⟨v1, z1, r1, g1, t1⟩ := hh.out.tri.a.push (P := Tryd.prog) (ts := 24) (ty := 24) ty_len ty_one (by decide) Tryd.underlying24 info_ty rfl (by decide) ty0 (cs := #[.int .i64 0, .int .i64 0, .int .i64 0, .int .u64 0, .int .i64 0, .int .i64 0, .int .i64 0]) rfl (by omega)
                  have h1 := hh.out.growA t1 g1
                  obtain ⟨v2, z2, r2, g2, t2⟩ := h1.tri.c.push (P := Tryd.prog) (ts := 30) (ty := 30) ci_len ci_one (by decide) Tryd.underlying30 info_int rfl (by decide) (-9) (cs := #[.int .i64 (-9)]) rfl (by omega)
                  have h2 := h1.growC t2 g2
                  obtain ⟨v3, z3, r3, g3, t3⟩ := h2.tri.e.push (P := Tryd.prog) (ts := 22) (ty := 22) ev_len ev_one (by decide) Tryd.underlying22 info_ev rfl (by decide) ev0 (cs := #[.int .i64 0, .int .i64 0, .int .u64 0, .int .u64 0, .bool false, .int .i64 0]) rfl (by omega)
                  have h3 := h2.growE t3 g3
                  have R1 : Hid (_ = _) := r1
                  have R2 : Hid (_ = _) := r2
                  have R3 : Hid (_ = _) := r3
                  have fin : Hid (Sta Pr w.heap.size Y.heap.size Y z3 v1 v2 v3 (A ++ [ty0]) (C ++ [-9]) (E ++ [ev0])) := h3
                  subst hxa hxc hxe
                  have hL : Hid (A.length = TL.length + k ∧ C.length = CL.length + k ∧ E.length = OL.length + k) := ⟨hA, hC, hE⟩
                  clear hh h1 h2 h3 r1 r2 r3 g1 g2 g3 t1 t2 t3 hA hC hE
                  go_wp2_with (first | (have q1 := R1.out; at_builtin; refine wpList_append_run rfl _ _ 24 rfl rfl rfl q1 ?_; clear q1 R1) | (have q2 := R2.out; at_builtin; refine wpList_append_run rfl _ _ 30 rfl rfl rfl q2 ?_; clear q2 R2) | (have q3 := R3.out; at_builtin; refine wpList_append_run rfl _ _ 22 rfl rfl rfl q3 ?_; clear q3 R3))
                  go_roundw
                  · exact ⟨k + 1, A ++ [ty0], C ++ [-9], E ++ [ev0], by simp, by omega, by have := hL.out.1; simp; omega, by have := hL.out.2.1; simp; omega, by have := hL.out.2.2; simp; omega, fin⟩
                  · simp [intOf]; omega
                · obtain rfl : k = 20 := by omega
                  have kr := hh.out.keeps
                  have KR : Keeps (fun _ => False) w wr := HKY.out.young kr (fun q hq => hq.2)
                  obtain ⟨P1, P2, P3⟩ := HP.out _ kr
                  have d1 : decide ((A.length : Int) < 20) = false := decide_eq_false (by omega)
                  have d2 : decide ((C.length : Int) < 20) = false := decide_eq_false (by omega)
                  have d3 : decide ((E.length : Int) < 20) = false := decide_eq_false (by omega)
                  have LF2 := LF.out _ P1 KR
                  have HQ : Hid (∀ X, Keeps (fun _ => False) wr X → (ElsAt Ty.cl 7 X vb TL ∧ ElsAt Ci 1 X vd CL ∧ ElsAt Ev.cl 6 X vf OL) ∧ (ElsAt Ty.cl 7 X vt TL ∧ ElsAt Ci 1 X vm CL ∧ ElsAt Ev.cl 6 X vo OL)) := fun X q => ⟨⟨P2.1.keeps ty_ne q, P2.2.1.keeps ci_ne q, P2.2.2.keeps ev_ne q⟩, ⟨P3.1.keeps ty_ne q, P3.2.1.keeps ci_ne q, P3.2.2.keeps ev_ne q⟩⟩
                  subst hxa hxc hxe
                  clear hh kr P1 P2 P3 LF HP
                  go_wp2_with fail
                  refine LF2.mono ?_
                  rintro ex u1 ⟨rfl, j1⟩
                  have SA := rsametries_any vb vt TL (by omega) u1 (HQ.out _ j1).1.1 (HQ.out _ j1).2.1
                  go_wp2_with fail
                  refine SA.mono ?_
                  rintro ex u2 ⟨rfl, l2⟩
                  have j2 := j1.trans l2
                  have SC := rsameints_any vd vm CL (by omega) u2 (HQ.out _ j2).1.2.1 (HQ.out _ j2).2.2.1
                  go_wp2_with fail
                  refine SC.mono ?_
                  rintro ex u3 ⟨rfl, l3⟩
                  have j3 := j2.trans l3
                  have SE := rsame_any vf vo OL (by omega) u3 (HQ.out _ j3).1.2.2 (HQ.out _ j3).2.2.2
                  go_wp2_with fail
                  refine SE.mono ?_
                  rintro ex u4 ⟨rfl, l4⟩
                  have j4 := j3.trans l4
                  go_wp2_with fail
                  refine (HKN.out _ (KR.trans j4)).mono ?_
                  rintro ex u5 ⟨rfl, l5⟩
                  go_wp2_with fail
                  go_ret
                  exact ⟨rfl, (KR.trans j4).trans l5⟩
end Go.Proofs.YtjaldfmdjnkoeaaDoor
