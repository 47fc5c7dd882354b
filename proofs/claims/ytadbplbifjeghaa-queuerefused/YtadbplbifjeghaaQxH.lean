
/- The document's Take and Drop (layer 23). No statement of the seat is proved here. -/
import Derived.Test.YtadbplbifjeghaaQxG
namespace Go.Proofs.Ytadbplbifjeghaa
open Go.RowKit

set_option maxRecDepth 100000 in
set_option maxHeartbeats 4000000 in
theorem rqtake_none {b : Nat} (e : Qe) (w : World) (he : EAt w e) (h0 : e.ns = []) :
    Calls Try.prog 24 #[.pointer (some ⟨e.p, 0, none⟩), .pointer (some ⟨b, 0, none⟩)] w fun er w' => er = .returned (.tuple #[.int .u64 0, .bool false]) ∧ w' = w := by
  obtain ⟨p, vn, vw, qa, ns, ws⟩ := e
  dsimp only at h0 ⊢
  subst h0
  have c1 := he.c1
  dsimp only at c1
  obtain ⟨an, cn, hv⟩ := he.rn.form
  dsimp only at hv
  simp only [List.length_nil] at hv
  subst hv
  clear he
  go_enter Try.func24, Try.ntmps24
  go_wp2_with fail
  go_ret2
  exact ⟨rfl, rfl⟩
/-- What Take leaves. -/
def TakePost (e : Qe) (ns ws : List Int) (b g c : Nat) (r1 : Wd) (w w' : World) : Prop :=
  ∃ vn' vw', EAt w' ⟨e.p, vn', vw', e.a, ns, ws⟩ ∧ WdAt w' b g c r1 ∧ Keeps (fun i => two b g i ∨ i = e.p) w w' ∧ vb vn' = vb e.vn ∧ vb vw' = vb e.vw
theorem take_fin {b g c : Nat} {r1 : Wd} {e : Qe} {ns ws : List Int} {w w1 : World} {vn' vw' : Value} (h1 : WdAt w1 b g c r1) (he : EAt w1 e) (k1 : Keeps (two b g) w w1) (hd : ∀ i ∈ e.fp, ¬ two b g i) (hnd : e.fp.Nodup) (hn : Rw w1 vn' ns) (hw : Rw w1 vw' ws) (en : vb vn' = vb e.vn) (ew : vb vw' = vb e.vw) :
    TakePost e ns ws b g c r1 w ((w1.setCell ⟨e.p, 1, none⟩ vn').setCell ⟨e.p, 2, none⟩ vw') := by
  have hpn : e.p ∉ (vb e.vn).toList ++ (vb e.vw).toList := (List.nodup_cons.1 hnd).1
  have hpvn : vb vn' ≠ some e.p := fun q => hpn (List.mem_append_left _ (by rw [← en, q]; simp))
  have hpvw : vb vw' ≠ some e.p := fun q => hpn (List.mem_append_right _ (by rw [← ew, q]; simp))
  have ks : Keeps (fun i => i = e.p) w1 (w1.setCell ⟨e.p, 1, none⟩ vn') := (Keeps.refl (fun i => i = e.p) w1).setCell (p := ⟨e.p, 1, none⟩) (.inr rfl) _
  have kt : Keeps (fun i => i = e.p) w1 ((w1.setCell ⟨e.p, 1, none⟩ vn').setCell ⟨e.p, 2, none⟩ vw') := ks.setCell (p := ⟨e.p, 2, none⟩) (.inr rfl) _
  have hpb : ¬ two b g e.p := hd _ List.mem_cons_self
  refine ⟨vn', vw', ⟨block_set (block_set he.bx 1 _) 2 _, hn.keeps kt (fun i q1 q2 => by subst q2; exact hpvn q1), hw.keeps kt (fun i q1 q2 => by subst q2; exact hpvw q1)⟩, h1.kept kt (fun q => hpb (.inl q.symm)) (fun q => hpb (.inr q.symm)), (k1.mono fun _ _ q => .inl q).trans (kt.mono fun _ _ q => .inr q), en, ew⟩
set_option maxRecDepth 100000 in
set_option maxHeartbeats 4000000 in
theorem rqtake_one {b g c : Nat} {r r1 : Wd} {n x e1 : Int} {ns ws : List Int} (heq : Hid (r.give 0 n 2 = (e1, r1))) (hn : isW n) (e : Qe) (hns : e.ns = n :: ns) (hws : e.ws = x :: ws) (w : World) (h : WdAt w b g c r) (he : EAt w e) (hd : ∀ i ∈ e.fp, ¬ two b g i) (hnd : e.fp.Nodup) :
    Calls Try.prog 24 #[.pointer (some ⟨e.p, 0, none⟩), .pointer (some ⟨b, 0, none⟩)] w fun er w' => er = .returned (.tuple #[.int .u64 x, .bool true]) ∧ TakePost e ns ws b g c r1 w w' := by
  obtain ⟨p, vn, vw, qa, nsx, wsx⟩ := e
  dsimp only at hns hws ⊢
  subst hns
  subst hws
  have hpn : p ∉ (vb vn).toList ++ (vb vw).toList := (List.nodup_cons.1 hnd).1
  have hpvn : vb vn ≠ some p := fun e => hpn (List.mem_append_left _ (by rw [e]; simp))
  have hpvw : vb vw ≠ some p := fun e => hpn (List.mem_append_right _ (by rw [e]; simp))
  obtain ⟨gn, on, kn, rfl, hkn, cn0, rn'⟩ := he.rn.cut
  obtain ⟨gw, ow, kw, rfl, hkw, cw0, rw'⟩ := he.rw.cut
  have c1 := he.c1
  have c2 := he.c2
  dsimp only at c1 c2
  have HH := hid (And.intro h he)
  have HD := hid (And.intro hd hnd)
  have HRW := hid (And.intro rn' rw')
  clear h he hd hnd rn' rw' hpn hpvn hpvw
  by_cases hk1 : kn = 1
  · by_cases hk2 : kw = 1
    · skip
      rw [if_pos hk1, if_pos hk2, show kn - 1 = 0 by omega, show kw - 1 = 0 by omega] at HRW
      go_enter Try.func24, Try.ntmps24
      go_wp2_with fail
      have hh := HH.out.1
      refine (rgive_r heq hn hh).mono ?_
      rintro e_ w1 ⟨rfl, h1, k1⟩
      have hE1 := HH.out.2.keeps k1 HD.out.1
      have d1 := hE1.c1
      have d2 := hE1.c2
      have f1 := hE1.fz 1
      have f2 := hE1.fz 2
      dsimp only at d1 d2 f1 f2
      have mn : ∀ i, vb (Value.slice (some ⟨gn, on, none⟩) (ns.length + 1) kn) = some i → i ∈ Qe.fp ⟨p, .slice (some ⟨gn, on, none⟩) (ns.length + 1) kn, .slice (some ⟨gw, ow, none⟩) (ws.length + 1) kw, qa, n :: ns, x :: ws⟩ := fun i e => List.mem_cons_of_mem _ (List.mem_append_left _ (by rw [e]; simp))
      have mw : ∀ i, vb (Value.slice (some ⟨gw, ow, none⟩) (ws.length + 1) kw) = some i → i ∈ Qe.fp ⟨p, .slice (some ⟨gn, on, none⟩) (ns.length + 1) kn, .slice (some ⟨gw, ow, none⟩) (ws.length + 1) kw, qa, n :: ns, x :: ws⟩ := fun i e => List.mem_cons_of_mem _ (List.mem_append_right _ (by rw [e]; simp))
      have HFIN := hid (take_fin h1 hE1 k1 HD.out.1 HD.out.2 (HRW.out.1.keeps k1 (fun i q1 q2 => HD.out.1 i (mn i q1) q2)) (HRW.out.2.keeps k1 (fun i q1 q2 => HD.out.1 i (mw i q1) q2)) rfl rfl)
      clear hh h1 k1 HH heq hE1 HRW HD mn mw
      go_wp2_with fail
      go_ret2
      exact ⟨rfl, HFIN.out⟩
    · skip
      rw [if_pos hk1, if_neg hk2, show kn - 1 = 0 by omega] at HRW
      go_enter Try.func24, Try.ntmps24
      go_wp2_with fail
      have hh := HH.out.1
      refine (rgive_r heq hn hh).mono ?_
      rintro e_ w1 ⟨rfl, h1, k1⟩
      have hE1 := HH.out.2.keeps k1 HD.out.1
      have d1 := hE1.c1
      have d2 := hE1.c2
      have f1 := hE1.fz 1
      have f2 := hE1.fz 2
      dsimp only at d1 d2 f1 f2
      have mn : ∀ i, vb (Value.slice (some ⟨gn, on, none⟩) (ns.length + 1) kn) = some i → i ∈ Qe.fp ⟨p, .slice (some ⟨gn, on, none⟩) (ns.length + 1) kn, .slice (some ⟨gw, ow, none⟩) (ws.length + 1) kw, qa, n :: ns, x :: ws⟩ := fun i e => List.mem_cons_of_mem _ (List.mem_append_left _ (by rw [e]; simp))
      have mw : ∀ i, vb (Value.slice (some ⟨gw, ow, none⟩) (ws.length + 1) kw) = some i → i ∈ Qe.fp ⟨p, .slice (some ⟨gn, on, none⟩) (ns.length + 1) kn, .slice (some ⟨gw, ow, none⟩) (ws.length + 1) kw, qa, n :: ns, x :: ws⟩ := fun i e => List.mem_cons_of_mem _ (List.mem_append_right _ (by rw [e]; simp))
      have HFIN := hid (take_fin h1 hE1 k1 HD.out.1 HD.out.2 (HRW.out.1.keeps k1 (fun i q1 q2 => HD.out.1 i (mn i q1) q2)) (HRW.out.2.keeps k1 (fun i q1 q2 => HD.out.1 i (mw i q1) q2)) rfl rfl)
      clear hh h1 k1 HH heq hE1 HRW HD mn mw
      go_wp2_with fail
      go_ret2
      exact ⟨rfl, HFIN.out⟩
  · by_cases hk2 : kw = 1
    · skip
      rw [if_neg hk1, if_pos hk2, show kw - 1 = 0 by omega] at HRW
      go_enter Try.func24, Try.ntmps24
      go_wp2_with fail
      have hh := HH.out.1
      refine (rgive_r heq hn hh).mono ?_
      rintro e_ w1 ⟨rfl, h1, k1⟩
      have hE1 := HH.out.2.keeps k1 HD.out.1
      have d1 := hE1.c1
      have d2 := hE1.c2
      have f1 := hE1.fz 1
      have f2 := hE1.fz 2
      dsimp only at d1 d2 f1 f2
      have mn : ∀ i, vb (Value.slice (some ⟨gn, on, none⟩) (ns.length + 1) kn) = some i → i ∈ Qe.fp ⟨p, .slice (some ⟨gn, on, none⟩) (ns.length + 1) kn, .slice (some ⟨gw, ow, none⟩) (ws.length + 1) kw, qa, n :: ns, x :: ws⟩ := fun i e => List.mem_cons_of_mem _ (List.mem_append_left _ (by rw [e]; simp))
      have mw : ∀ i, vb (Value.slice (some ⟨gw, ow, none⟩) (ws.length + 1) kw) = some i → i ∈ Qe.fp ⟨p, .slice (some ⟨gn, on, none⟩) (ns.length + 1) kn, .slice (some ⟨gw, ow, none⟩) (ws.length + 1) kw, qa, n :: ns, x :: ws⟩ := fun i e => List.mem_cons_of_mem _ (List.mem_append_right _ (by rw [e]; simp))
      have HFIN := hid (take_fin h1 hE1 k1 HD.out.1 HD.out.2 (HRW.out.1.keeps k1 (fun i q1 q2 => HD.out.1 i (mn i q1) q2)) (HRW.out.2.keeps k1 (fun i q1 q2 => HD.out.1 i (mw i q1) q2)) rfl rfl)
      clear hh h1 k1 HH heq hE1 HRW HD mn mw
      go_wp2_with fail
      go_ret2
      exact ⟨rfl, HFIN.out⟩
    · skip
      rw [if_neg hk1, if_neg hk2] at HRW
      go_enter Try.func24, Try.ntmps24
      go_wp2_with fail
      have hh := HH.out.1
      refine (rgive_r heq hn hh).mono ?_
      rintro e_ w1 ⟨rfl, h1, k1⟩
      have hE1 := HH.out.2.keeps k1 HD.out.1
      have d1 := hE1.c1
      have d2 := hE1.c2
      have f1 := hE1.fz 1
      have f2 := hE1.fz 2
      dsimp only at d1 d2 f1 f2
      have mn : ∀ i, vb (Value.slice (some ⟨gn, on, none⟩) (ns.length + 1) kn) = some i → i ∈ Qe.fp ⟨p, .slice (some ⟨gn, on, none⟩) (ns.length + 1) kn, .slice (some ⟨gw, ow, none⟩) (ws.length + 1) kw, qa, n :: ns, x :: ws⟩ := fun i e => List.mem_cons_of_mem _ (List.mem_append_left _ (by rw [e]; simp))
      have mw : ∀ i, vb (Value.slice (some ⟨gw, ow, none⟩) (ws.length + 1) kw) = some i → i ∈ Qe.fp ⟨p, .slice (some ⟨gn, on, none⟩) (ns.length + 1) kn, .slice (some ⟨gw, ow, none⟩) (ws.length + 1) kw, qa, n :: ns, x :: ws⟩ := fun i e => List.mem_cons_of_mem _ (List.mem_append_right _ (by rw [e]; simp))
      have HFIN := hid (take_fin h1 hE1 k1 HD.out.1 HD.out.2 (HRW.out.1.keeps k1 (fun i q1 q2 => HD.out.1 i (mn i q1) q2)) (HRW.out.2.keeps k1 (fun i q1 q2 => HD.out.1 i (mw i q1) q2)) rfl rfl)
      clear hh h1 k1 HH heq hE1 HRW HD mn mw
      go_wp2_with fail
      go_ret2
      exact ⟨rfl, HFIN.out⟩
end Go.Proofs.Ytadbplbifjeghaa
