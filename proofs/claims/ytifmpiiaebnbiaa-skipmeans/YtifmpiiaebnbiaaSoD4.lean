
/- The law's means, 4 (layer 22). No statement of the seat is proved here. -/
import Derived.Test.YtifmpiiaebnbiaaSoD
namespace Go.Proofs.Ytifmpiiaebnbiaa
open Go.RowKit

set_option maxRecDepth 100000 in
set_option maxHeartbeats 4000000 in
theorem means_4 {w : World} {b1 g1 c1 b2 g2 c2 : Nat} {s1 s2 : Wd} {N1 N2 : List Sn} {m : Nat} {K : List Int} {a : Option Addr} {c : Nat} (h : Me w b1 g1 c1 b2 g2 c2 w s1 s2 N1 N2 m K) (hs : s1.L = []) (hs2 : s2.L = []) (hv : Sv w b1 g1 b2 g2 (.slice a K.length c) K) (_hm : m ≤ 150) (hK : K.length ≤ 150) (kd lv ro at_ x y other : Int) (_hx : isW x) (hk : kd = 4) :
    Calls Try.prog 11 #[.pointer (some ⟨b1, 0, none⟩), .pointer (some ⟨b2, 0, none⟩), .slice a K.length c, .agg #[.int .i64 kd, .int .i64 lv, .int .u64 ro, .int .u64 at_, .int .u64 x, .int .u64 y], .int .i64 other] w fun e w' => e = .returned (.bool true) ∧ ∃ s1' s2' N1' N2', Me w b1 g1 c1 b2 g2 c2 w' s1' s2' N1' N2' (m + 1) (nxK kd K x) := by
  have hMA : Me w b1 g1 c1 b2 g2 c2 (w.alloc (stO kd lv ro at_ x y)) s1 s2 N1 N2 m K := ⟨h.d.new (keeps_new w _), h.h1, h.h2, h.k1, h.k2, h.l1, h.l2⟩
  have hb : (w.alloc (stO kd lv ro at_ x y)).heap[w.heap.size]? = some (stO kd lv ro at_ x y) := alloc_block w _
  have hn1 : ¬ own (w.alloc (stO kd lv ro at_ x y)) b1 g1 w.heap.size := fun q => by have := h.d.t.lto ((own_kept h.d.t.ltb (keeps_new w _) (fun _ _ f => f) _).1 q); omega
  have hn2 : ¬ own (w.alloc (stO kd lv ro at_ x y)) b2 g2 w.heap.size := fun q => by have := h.d.r.lto ((own_kept h.d.r.ltb (keeps_new w _) (fun _ _ f => f) _).1 q); omega
  have HB : Hid (∀ X s s', Dt (w.alloc (stO kd lv ro at_ x y)) b1 g1 c1 b2 g2 c2 X s s' → X.heap[w.heap.size]? = some (stO kd lv ro at_ x y)) := hid (fun X s s' d => (d.k.block _ (lt_of_block hb) (fun q => q.elim hn1 hn2)).trans hb)
  have HS := hid (Dt.start hMA.d.t hMA.d.r hMA.d.dj)
  have HV := hid (hv.kept h.d.t h.d.r (keeps_new w (stO kd lv ro at_ x y)))
  have HM := hid hMA
  have HPL := hid (place_any (.slice a K.length c) K x (by omega) (w.alloc (stO kd lv ro at_ x y)) HV.out.lies)
  obtain ⟨p, hp⟩ : ∃ p, plc K x = p := ⟨_, rfl⟩
  have hple : p ≤ K.length := by rw [← hp]; exact plc_le x K
  rw [hp] at HPL
  have st4 : (w.alloc (stO kd lv ro at_ x y)).cell? ⟨w.heap.size, 4, none⟩ = some (.int .u64 x) := by rw [cell_of_block hb]; rfl
  have st0 : (w.alloc (stO kd lv ro at_ x y)).cell? ⟨w.heap.size, 0, none⟩ = some (.int .i64 kd) := by rw [cell_of_block hb]; rfl
  have st1 : (w.alloc (stO kd lv ro at_ x y)).cell? ⟨w.heap.size, 1, none⟩ = some (.int .i64 lv) := by rw [cell_of_block hb]; rfl
  obtain ⟨th, hth⟩ : ∃ th, thr K x = th := ⟨_, rfl⟩
  have HT := hid hth
  have hthe : th = (decide (p < K.length) && (oat K p == x)) := by rw [← hth]; unfold thr; rw [hp]
  unfold stO at *
  have HSL := hid hs
  subst hk
  obtain ⟨t1, M1, e1, v1, q1, r1⟩ := rem_set (x := x) h.h1
  obtain ⟨t2, M2, e2, v2, q2, r2⟩ := rem_set (x := x) h.h2
  rw [h.k1, hth] at e1
  rw [h.k2, hth] at e2
  have E1 : Hid (_ = _) := e1
  have E2 : Hid (_ = _) := e2
  have HZ : Hid (∀ X, Dt w b1 g1 c1 b2 g2 c2 X t1 t2 → Me w b1 g1 c1 b2 g2 c2 X t1 t2 M1 M2 (m + 1) (nxK 4 K x)) := hid (fun X d => ⟨d, q1.up (by omega), q2.up (by omega), by rw [r1, h.k1]; rfl, by rw [r2, h.k2]; rfl, by have := v1.len; rw [hs] at this; simp at this; omega, by have := v2.len; rw [hs2] at this; simp at this; omega⟩)
  clear h hv hMA hb hn1 hn2 e1 v1 e2 v2 q1 q2 r1 r2 hs hs2
  by_cases hpl : p < K.length
  · have hpl' : (p : Int) < (K.length : Int) := by omega
    obtain ⟨a', c', e, hcell⟩ := HV.out.lies
    obtain ⟨rfl, _, rfl⟩ := Value.slice.inj e
    obtain ⟨ga, off, rfl, dk⟩ := hcell p hpl
    clear hcell e
    by_cases hpx : oat K p = x
    · have hth2 : th = true := by rw [hthe]; simp [hpl, hpx]
      rw [hpx] at dk
      subst hth2
      clear hth hthe hp
      go_enter Try.func11, Try.ntmps11
      go_wp2_with fail
      refine HPL.out.mono ?_
      rintro e_ w_ ⟨rfl, hw_⟩
      subst w_
      clear HPL
      go_wp2_with fail
      go_quiet (fail)
      go_wp2_with fail
      refine (rem_c E1 (by rw [HSL.out]; simp) (HS.out.new ((Keeps.refl _ _).drewN _)).t).mono ?_
      rintro e_ w1 ⟨rfl, k1⟩
      have D1 := hid ((HS.out.new ((Keeps.refl _ _).drewN _)).tx k1)
      have b1' := HB.out _ _ _ D1.out
      have f4 := cell_of_block b1' 4
      clear st4 st0 st1 k1 b1' E1
      go_wp2_with fail
      refine (rem_c E2 (by have := HM.out.l2; omega) D1.out.r).mono ?_
      rintro e_ w2 ⟨rfl, k2⟩
      have D2 := hid (D1.out.tp k2)
      clear k2 E2 f4
      go_wp2_with (go_at_call 8; refine (num_any _ _).mono ?_; rintro e_ w_ ⟨rfl, hw_⟩; subst w_)
      go_ret
      exact ⟨rfl, _, _, _, _, HZ.out _ (HM.out.d.trans D2.out)⟩
    · have hth2 : th = false := by rw [hthe]; simp [hpx]
      have hbq : (oat K p == x) = false := by simp [hpx]
      subst hth2
      clear hth hthe hp
      go_enter Try.func11, Try.ntmps11
      go_wp2_with fail
      refine HPL.out.mono ?_
      rintro e_ w_ ⟨rfl, hw_⟩
      subst w_
      clear HPL
      go_wp2_with fail
      go_quiet (fail)
      go_wp2_with fail
      refine (rem_c E1 (by rw [HSL.out]; simp) (HS.out.new ((Keeps.refl _ _).drewN _)).t).mono ?_
      rintro e_ w1 ⟨rfl, k1⟩
      have D1 := hid ((HS.out.new ((Keeps.refl _ _).drewN _)).tx k1)
      have b1' := HB.out _ _ _ D1.out
      have f4 := cell_of_block b1' 4
      clear st4 st0 st1 k1 b1' E1
      go_wp2_with fail
      refine (rem_c E2 (by have := HM.out.l2; omega) D1.out.r).mono ?_
      rintro e_ w2 ⟨rfl, k2⟩
      have D2 := hid (D1.out.tp k2)
      clear k2 E2 f4
      go_wp2_with (go_at_call 8; refine (num_any _ _).mono ?_; rintro e_ w_ ⟨rfl, hw_⟩; subst w_)
      go_ret
      exact ⟨rfl, _, _, _, _, HZ.out _ (HM.out.d.trans D2.out)⟩
  · have hpl' : ¬ (p : Int) < (K.length : Int) := by omega
    have hth2 : th = false := by rw [hthe]; simp [hpl]
    subst hth2
    clear hth hthe hp
    go_enter Try.func11, Try.ntmps11
    go_wp2_with fail
    refine HPL.out.mono ?_
    rintro e_ w_ ⟨rfl, hw_⟩
    subst w_
    clear HPL
    go_wp2_with fail
    go_quiet (fail)
    go_wp2_with fail
    refine (rem_c E1 (by rw [HSL.out]; simp) (HS.out.new ((Keeps.refl _ _).drewN _)).t).mono ?_
    rintro e_ w1 ⟨rfl, k1⟩
    have D1 := hid ((HS.out.new ((Keeps.refl _ _).drewN _)).tx k1)
    have b1' := HB.out _ _ _ D1.out
    have f4 := cell_of_block b1' 4
    clear st4 st0 st1 k1 b1' E1
    go_wp2_with fail
    refine (rem_c E2 (by have := HM.out.l2; omega) D1.out.r).mono ?_
    rintro e_ w2 ⟨rfl, k2⟩
    have D2 := hid (D1.out.tp k2)
    clear k2 E2 f4
    go_wp2_with (go_at_call 8; refine (num_any _ _).mono ?_; rintro e_ w_ ⟨rfl, hw_⟩; subst w_)
    go_ret
    exact ⟨rfl, _, _, _, _, HZ.out _ (HM.out.d.trans D2.out)⟩
end Go.Proofs.Ytifmpiiaebnbiaa
