
/- The walk of room's Given (layer 24). No statement of the seat is proved here. -/
import Derived.Test.YthlbeohogfjamaaRkW
namespace Go.Proofs.Ythlbeohogfjamaa
open Go.RowKit

set_option maxRecDepth 100000 in
set_option maxHeartbeats 4000000 in
theorem given_any (b g c : Nat) (s : Wd) (a n : Int) (w : World) (h : WdAt w b g c s) :
    Calls Try.prog 21 #[.iface 24 (.pointer (some ⟨b, 0, none⟩)), .int .u64 a, .int .u64 n] w fun e w' => ∃ v, e = .returned (.tuple #[v, .int .i64 (s.given a n).1.2]) ∧ Wr w' w.heap.size v (s.given a n).1.1 ∧ WdAt w' b g c (s.given a n).2 ∧ Keeps (two b g) w w' := by
  have mg := meth_get b
  have ng := nil_get b
  have oks : s.Ok := h.ok
  have HLT : Hid (b < w.heap.size ∧ g < w.heap.size) := ⟨h.ltb, h.ltg⟩
  have HH := hid h
  clear h
  have kk : Hid (Keeps (two b g) w w) := Keeps.refl _ w
  by_cases hm : ¬ mayN n
  · skip
    have hs : s.given a n = (([], 2), s) := by unfold Wd.given; rw [if_pos hm]
    rw [hs]
    clear hs
    go_enter Try.func21, Try.ntmps21
    go_wp2_with fail
    refine (may_no b n hm _).mono ?_
    rintro e_ w_ ⟨rfl, rfl⟩
    go_wp2_with fail
    go_ret2
    exact ⟨_, rfl, Wr.nil _ _, HH.out, kk.out⟩
  · replace hm : mayN n := Classical.not_not.1 hm
    obtain ⟨⟨⟨x, e⟩, s1⟩, eq1⟩ : ∃ r, s.get (hdA a n) = r := ⟨_, rfl⟩
    have hwx : isW x := get_isW eq1 oks
    have oks1 : s1.Ok := by have q := (oks.get (hdA a n)).1; rw [eq1] at q; exact q
    have hs : s.given a n = (Gv.go 65536 ⟨[], x, e, s1⟩).fin := by unfold Wd.given; rw [if_neg (fun f => f hm), eq1]
    have HGV : Hid (_ = _) := hs
    have HE1 : Hid (_ = _) := eq1
    clear hs eq1
    have HT : Hid (∀ X : World, X.heap = w.heap → X.os = w.os → X.tape = w.tape → X.output = w.output → Calls Try.prog 119 #[.pointer (some ⟨b, 0, none⟩), .int .u64 (hdA a n)] X fun r w' => r = .returned (.tuple #[.int .u64 x, .int .i64 e]) ∧ WdAt w' b g c s1 ∧ Keeps (two b g) w w') := fun X e1 e2 e3 e4 => ((tget_r HE1 (uw_isW _) (HH.out.like e1)).mono fun r w' hq => ⟨hq.1, hq.2.1, (kk.out.like e1 e2 e3 e4).trans hq.2.2⟩)
    clear HH kk
    go_enter Try.func21, Try.ntmps21
    go_wp2_with fail
    refine (may_yes b n hm _).mono ?_
    rintro e_ w_ ⟨rfl, hw_⟩
    subst w_
    go_wp2_with fail
    go_region_held3 (fun _ : World => True) (trivial) ((first | (go_at_call 46; refine (headOf_any a n _).mono ?_; rintro e_ w_ ⟨rfl, hw_⟩; subst w_) | (go_at_call 119; refine (HT.out _ (by exact rfl) (by exact rfl) (by exact rfl) (by exact rfl)).mono ?_; rintro e_ w1 ⟨rfl, h1, k1⟩)))
    all_goals clear HT
    all_goals go_wp2_with fail
    all_goals
      go_loopw [9, 10, 11] (fun pv nx er wr => ∃ G : Gv, nx = .int .u64 G.x ∧ er = .int .i64 G.e ∧ Hid (Wr wr w.heap.size pv G.out ∧ WdAt wr b g c G.s ∧ Keeps (two b g) w wr ∧ G.out.length ≤ 65536 ∧ isW G.x ∧ G.s.Ok ∧ Gv.go (65536 - G.out.length) G = Gv.go 65536 ⟨[], x, e, s1⟩)) (fun pv _ _ _ => 65537 - lenOf pv)
      case atStart => exact ⟨⟨[], x, e, s1⟩, rfl, rfl, hid ⟨Wr.nil _ _, h1, k1, by simp, hwx, oks1, rfl⟩⟩
      case round =>
        obtain ⟨⟨O, y, f, s2⟩, rfl, rfl, hr⟩ := hrel
        try dsimp only at hr ⊢
        have hol := hr.out.2.2.2.1
        try dsimp only at hol
        obtain ⟨ao, co, rfl⟩ : ∃ ao co, u9 = .slice ao O.length co := hr.out.1.form
        clear h1 k1 hwx oks1
        by_cases hf : f = 0
        · subst hf
          by_cases hy : y = 0
          · subst hy
            have HFN : Hid (s.given a n = ((O, 0), s2)) := hid <| by
              have q := hr.out.2.2.2.2.2.2
              rw [Gv.go_stop (by unfold Gv.on; simp)] at q
              rw [HGV.out, ← q]
              unfold Gv.fin
              simp
            go_wp2_with fail
            go_ret2
            rw [HFN.out]
            exact ⟨_, rfl, hr.out.1, hr.out.2.1, hr.out.2.2.1⟩
          · by_cases hl : O.length = 65536
            · have HFN : Hid (s.given a n = (([], 2), s2)) := hid <| by
                have q := hr.out.2.2.2.2.2.2
                rw [Gv.go_stop (by unfold Gv.on; simp [hl])] at q
                rw [HGV.out, ← q]
                unfold Gv.fin
                simp [hy]
              have hli : (O.length : Int) = 65536 := by omega
              clear hl
              go_wp2_with fail
              go_ret2
              rw [HFN.out]
              exact ⟨_, rfl, Wr.nil _ _, hr.out.2.1, hr.out.2.2.1⟩
            · obtain ⟨⟨⟨y2, f2⟩, s3⟩, eq2⟩ : ∃ r, s2.get (uw (y - 1)) = r := ⟨_, rfl⟩
              have okk := hr.out.2.2.2.2.2.1
              try dsimp only at okk
              have hw2 : isW y2 := get_isW eq2 okk
              have ok3 : s3.Ok := by have q := (okk.get (uw (y - 1))).1; rw [eq2] at q; exact q
              have hK := hr.out.2.2.1
              obtain ⟨v', wa, hrun, hwr, hkp⟩ := hr.out.1.push (x := uw (y - 1)) hK.size (by show O.length < _; omega)
              have HR : Hid (_ = _) := hrun
              have hli : (O.length : Int) ≠ 65536 := by omega
              have HGO : Hid (Gv.go (65536 - (O.length + 1)) ⟨O ++ [uw (y - 1)], y2, f2, s3⟩ = Gv.go 65536 ⟨[], x, e, s1⟩) := by
                have q := hr.out.2.2.2.2.2.2
                try dsimp only at q
                rw [show 65536 - O.length = (65536 - (O.length + 1)) + 1 by omega, Gv.go_next (by unfold Gv.on; exact ⟨rfl, hy, hl⟩)] at q
                unfold Gv.step at q
                rw [eq2] at q
                exact q
              have HTW : Hid (WdAt wa b g c s2) := by
                have q := hr.out.2.1
                have hb0 : Keeps (fun g' => w.heap.size ≤ g') _ wa := hkp
                have hlt := HLT.out
                exact q.kept hb0 (by omega) (by omega)
              have HKA : Hid (Keeps (two b g) w wa ∧ Wr wa w.heap.size v' (O ++ [uw (y - 1)]) ∧ w.heap.size ≤ wa.heap.size) := hid ⟨hK.step hkp (fun i hi e => by omega), hwr, Nat.le_trans hK.size hkp.size⟩
              have HE2 : Hid (_ = _) := eq2
              clear hrun hwr hkp eq2 hr hK okk hl
              go_wp2_with (at_builtin; refine wpList_append_run rfl _ _ 34 rfl rfl rfl HR.out ?_; clear HR)
              have hh := HTW.out
              refine (tget_r HE2 (uw_isW _) hh).mono ?_
              rintro e_ w3 ⟨rfl, h3, k3⟩
              have hlt := HLT.out
              have HFF := hid (And.intro (HKA.out.1.trans k3) (HKA.out.2.1.keeps k3 (fun q e => by rcases e with rfl | rfl <;> omega)))
              have HH3 := hid h3
              obtain ⟨a', c', rfl⟩ := HFF.out.2.form
              clear hh h3 k3 hlt HKA HTW HE2
              go_wp2_with fail
              go_roundw
              case rel => exact ⟨⟨O ++ [uw (y - 1)], y2, f2, s3⟩, rfl, rfl, hid ⟨by have q := HFF.out.2; rw [List.length_append] at q; exact q, HH3.out, HFF.out.1, by simp; omega, hw2, ok3, by rw [List.length_append]; exact HGO.out⟩⟩
              case measure => simp [lenOf]; omega
        · have HFN : Hid (s.given a n = (([], f), s2)) := hid <| by
            have q := hr.out.2.2.2.2.2.2
            rw [Gv.go_stop (by unfold Gv.on; simp [hf])] at q
            rw [HGV.out, ← q]
            unfold Gv.fin
            simp [hf]
          go_wp2_with fail
          go_ret2
          rw [HFN.out]
          exact ⟨_, rfl, Wr.nil _ _, hr.out.2.1, hr.out.2.2.1⟩
end Go.Proofs.Ythlbeohogfjamaa
