
/- Walks of the closures that compare, BinarySearchFunc, ahead (layer 16). No statement of the seat is proved here. -/
import Derived.Test.YthgkbmfnidehbaaDoorOpDF
import Derived.Test.YthgkbmfnidehbaaDoorWiLM
import Derived.Test.YthgkbmfnidehbaaDoorOpB
namespace Go.Proofs.YthgkbmfnidehbaaDoor
open Go.RowKit Go.Shelf

/-- A stand: since when, which word. -/
@[reducible] def stC (p : Int × Int) : List Value := [.int .i64 p.1, .int .u64 p.2]
theorem st_len (p : Int × Int) : (stC p).length = 2 := rfl
theorem st_ne (p : Int × Int) : stC p ≠ [] := by simp
theorem st_one (p : Int × Int) : ∀ u ∈ stC p, u.oneCell' = true := by
  intro u hu
  simp at hu
  rcases hu with rfl | rfl <;> rfl
theorem info_st : (Tryd.prog.info? 104).map (fun i => (i.zero, i.size, i.bytes)) = some (some (.agg #[.int .i64 0, .int .u64 0]), 2, 16) := by kernel_rfl
theorem cmpI_lt (x y : Int) : (cmpI x y < 0) ↔ x < y := by
  unfold cmpI
  split
  · simp; assumption
  · split <;> simp <;> omega
set_option maxRecDepth 100000 in
set_option maxHeartbeats 8000000 in
theorem cmpB_any (x : Bx) (t : Int) (w : World) : Calls Tryd.prog 32 #[.agg #[.int .i64 x.p.th, .int .i64 x.p.kd, .int .i64 x.p.fi, .int .i64 x.p.la, .int .u64 x.p.nu, .bool x.p.wr, .int .i64 x.p.er, .slice x.r.a x.r.n x.r.c, .slice x.s.a x.s.n x.s.c], .int .i64 t] w fun ex w' => ex = .returned (.int .i64 (cmpI x.p.la t)) ∧ Keeps (fun _ => False) w w' := by
  have k0 := (Keeps.refl (fun _ => False) w).alloc (.cells #[.int .i64 x.p.th, .int .i64 x.p.kd, .int .i64 x.p.fi, .int .i64 x.p.la, .int .u64 x.p.nu, .bool x.p.wr, .int .i64 x.p.er, .slice x.r.a x.r.n x.r.c, .slice x.s.a x.s.n x.s.c] 58)
  have CM := fun X => cmpN_any (x.p.la) (t) X
  generalize cmpI (x.p.la) (t) = z at *
  go_enter Tryd.func32, Tryd.ntmps32
  go_wp2_with fail
  refine (CM _).mono ?_
  rintro ex w2 ⟨rfl, rfl⟩
  go_wp2_with fail
  go_ret
  exact ⟨rfl, k0⟩
set_option maxRecDepth 100000 in
set_option maxHeartbeats 8000000 in
theorem cmpBB_any (x y : Bx) (w : World) : Calls Tryd.prog 28 #[.agg #[.int .i64 x.p.th, .int .i64 x.p.kd, .int .i64 x.p.fi, .int .i64 x.p.la, .int .u64 x.p.nu, .bool x.p.wr, .int .i64 x.p.er, .slice x.r.a x.r.n x.r.c, .slice x.s.a x.s.n x.s.c], .agg #[.int .i64 y.p.th, .int .i64 y.p.kd, .int .i64 y.p.fi, .int .i64 y.p.la, .int .u64 y.p.nu, .bool y.p.wr, .int .i64 y.p.er, .slice y.r.a y.r.n y.r.c, .slice y.s.a y.s.n y.s.c]] w fun ex w' => ex = .returned (.int .i64 (cmpI x.p.la y.p.la)) ∧ Keeps (fun _ => False) w w' := by
  have k0 := (Keeps.refl (fun _ => False) w).alloc (.cells #[.int .i64 x.p.th, .int .i64 x.p.kd, .int .i64 x.p.fi, .int .i64 x.p.la, .int .u64 x.p.nu, .bool x.p.wr, .int .i64 x.p.er, .slice x.r.a x.r.n x.r.c, .slice x.s.a x.s.n x.s.c] 58)
  have k1 := (Keeps.refl (fun _ => False) (w.alloc (.cells #[.int .i64 x.p.th, .int .i64 x.p.kd, .int .i64 x.p.fi, .int .i64 x.p.la, .int .u64 x.p.nu, .bool x.p.wr, .int .i64 x.p.er, .slice x.r.a x.r.n x.r.c, .slice x.s.a x.s.n x.s.c] 58))).alloc (.cells #[.int .i64 y.p.th, .int .i64 y.p.kd, .int .i64 y.p.fi, .int .i64 y.p.la, .int .u64 y.p.nu, .bool y.p.wr, .int .i64 y.p.er, .slice y.r.a y.r.n y.r.c, .slice y.s.a y.s.n y.s.c] 58)
  have CM := fun X => cmpN_any (x.p.la) (y.p.la) X
  generalize cmpI (x.p.la) (y.p.la) = z at *
  go_enter Tryd.func28, Tryd.ntmps28
  go_wp2_with fail
  refine (CM _).mono ?_
  rintro ex w2 ⟨rfl, rfl⟩
  go_wp2_with fail
  go_ret
  exact ⟨rfl, k0.trans k1⟩
set_option maxRecDepth 100000 in
set_option maxHeartbeats 8000000 in
theorem cmpS_any (x : Int × Int) (t : Int) (w : World) : Calls Tryd.prog 48 #[.agg #[.int .i64 x.1, .int .u64 x.2], .int .i64 t] w fun ex w' => ex = .returned (.int .i64 (cmpI x.1 t)) ∧ Keeps (fun _ => False) w w' := by
  have k0 := (Keeps.refl (fun _ => False) w).alloc (.cells #[.int .i64 x.1, .int .u64 x.2] 104)
  have CM := fun X => cmpN_any (x.1) (t) X
  generalize cmpI (x.1) (t) = z at *
  go_enter Tryd.func48, Tryd.ntmps48
  go_wp2_with fail
  refine (CM _).mono ?_
  rintro ex w2 ⟨rfl, rfl⟩
  go_wp2_with fail
  go_ret
  exact ⟨rfl, k0⟩
/-- How many stand ahead of t. -/
def bsBP (X : List (Bx)) (t : Int) (w : World) (ex : Ending) (w' : World) : Prop := ∃ (c : Nat) (b : Bool), ex = .returned (.tuple #[.int .i64 (c : Int), .bool b]) ∧ c ≤ X.length ∧ (∀ j (hj : j < X.length), j < c → (X[j]).p.la < t) ∧ (∀ j (hj : j < X.length), c ≤ j → t ≤ (X[j]).p.la) ∧ Keeps (fun _ => False) w w'
set_option maxRecDepth 100000 in
set_option maxHeartbeats 8000000 in
theorem bsB_any (a : Option Addr) (cap : Nat) (X : List (Bx)) (t : Int) (hl : X.length ≤ 1100000) (hs : X.Pairwise (fun p q => p.p.la < q.p.la)) (w : World) (h : ElsAt Bx.cb 9 w (.slice a X.length cap) X) :
    Calls Tryd.prog 31 #[.slice a X.length cap, .int .i64 t, .func (.func 32) #[] #[]] w (bsBP X t w) := by
  have HV : Hid (∀ Z, Keeps (fun _ => False) w Z → ElsAt Bx.cb 9 Z (.slice a X.length cap) X) := fun Z k => h.keeps cb_ne k
  have HS : Hid (∀ i j (hi : i < X.length) (hj : j < X.length), i ≤ j → (X[i]).p.la ≤ (X[j]).p.la) := fun i j hi hj hij => by
    rcases Nat.lt_or_ge i j with q | q
    · have := List.pairwise_iff_getElem.1 hs i j hi hj q
      omega
    · obtain rfl : i = j := by omega
      exact Int.le_refl _
  have hn9 : (X.length : Int) ≤ 1100000 := by omega
  clear h hs
  go_enter Tryd.func31, Tryd.ntmps31
  go_wp2_with fail
  go_loopw [9, 10] (fun u9 u10 wr => ∃ (lo hi : Nat), u9 = .int .i64 (lo : Int) ∧ u10 = .int .i64 (hi : Int) ∧ lo ≤ hi ∧ hi ≤ X.length ∧ Hid ((∀ j (hj : j < X.length), j < lo → (X[j]).p.la < t) ∧ (∀ j (hj : j < X.length), hi ≤ j → t ≤ (X[j]).p.la)) ∧ Keeps (fun _ => False) w wr) (fun u9 u10 _ => (intOf u10).toNat - (intOf u9).toNat)
  case atStart => exact ⟨0, X.length, rfl, rfl, Nat.zero_le _, Nat.le_refl _, ⟨fun j _ q => absurd q (Nat.not_lt_zero _), fun j hj q => absurd hj (by omega)⟩, Keeps.refl _ _⟩
  case round =>
    obtain ⟨lo, hi, rfl, rfl, hlh, hin, hh, kr⟩ := hrel
    by_cases hlt : lo < hi
    · have hki : (lo : Int) < (hi : Int) := by omega
      obtain ⟨m, hm⟩ : ∃ m, m = (lo + hi) / 2 := ⟨_, rfl⟩
      have hmX : m < X.length := by omega
      obtain ⟨g, off, rfl, hc⟩ := (HV.out wr kr).at m hmX
      have HM : Hid (m = (lo + hi) / 2 ∧ lo ≤ m ∧ m < hi) := ⟨hm, by omega, by omega⟩
      have CB := cmpB_any (X[m]) t
      have hm0 : (0 : Int) ≤ (m : Int) := by omega
      have hmN : (m : Int) < (X.length : Int) := by omega
      have w1 : IntKind.i64.wrap ((lo : Int) + (hi : Int)) = (lo : Int) + (hi : Int) := by rw [IntKind.wrap_i64]; omega
      have w2 : ((lo : Int) + (hi : Int)) / 2 = (m : Int) := by omega
      have w3 : IntKind.i64.wrap ((m : Int) + 1) = (m : Int) + 1 := by rw [IntKind.wrap_i64]; omega
      generalize hx : X[m]'hmX = x at hc CB
      have HX : Hid (X[m]'hmX = x) := hx
      clear hx hm
      have y0 := hc 0 _ rfl
      have y1 := hc 1 _ rfl
      have y2 := hc 2 _ rfl
      have y3 := hc 3 _ rfl
      have y4 := hc 4 _ rfl
      have y5 := hc 5 _ rfl
      have y6 := hc 6 _ rfl
      have y7 := hc 7 _ rfl
      have y8 := hc 8 _ rfl
      simp only [Nat.add_zero] at y0
      clear hc
      by_cases hb : x.p.la < t
      · have hz : cmpI (x.p.la) t < 0 := (cmpI_lt _ _).2 hb
        generalize cmpI (x.p.la) t = z at *
        have HB : Hid (x.p.la < t) := hb
        clear hb
        go_wp2_with fail
        refine (CB _).mono ?_
        rintro ex wz ⟨rfl, kz⟩
        have kk := kr.trans kz
        clear CB kz y0 y1 y2 y3 y4 y5 y6 y7 y8
        go_wp2_with fail
        go_roundw
        · obtain ⟨q1, q2, q3⟩ := HM.out
          have e : (X[m]).p.la = x.p.la := by rw [HX.out]
          have hB := HB.out
          exact ⟨m + 1, hi, by simp, rfl, by omega, hin, ⟨fun j hj hlt => by have := HS.out j m hj hmX (by omega); omega, hh.out.2⟩, kk⟩
        · obtain ⟨q1, q2, q3⟩ := HM.out; simp [intOf]; omega
      · have hz : ¬ cmpI (x.p.la) t < 0 := fun q => hb ((cmpI_lt _ _).1 q)
        generalize cmpI (x.p.la) t = z at *
        have HB : Hid (¬ x.p.la < t) := hb
        clear hb
        go_wp2_with fail
        refine (CB _).mono ?_
        rintro ex wz ⟨rfl, kz⟩
        have kk := kr.trans kz
        clear CB kz y0 y1 y2 y3 y4 y5 y6 y7 y8
        go_wp2_with fail
        go_roundw
        · obtain ⟨q1, q2, q3⟩ := HM.out
          have e : (X[m]).p.la = x.p.la := by rw [HX.out]
          have hB := HB.out
          exact ⟨lo, m, rfl, rfl, by omega, by omega, ⟨hh.out.1, fun j hj hge => by have := HS.out m j hmX hj hge; omega⟩, kk⟩
        · obtain ⟨q1, q2, q3⟩ := HM.out; simp [intOf]; omega
    · obtain rfl : lo = hi := by omega
      by_cases hend : lo < X.length
      · obtain ⟨g, off, rfl, hc⟩ := (HV.out wr kr).at lo hend
        have CB := cmpB_any (X[lo]) t
        generalize hx : X[lo]'hend = x at *
        clear hx
        have y0 := hc 0 _ rfl
        have y1 := hc 1 _ rfl
        have y2 := hc 2 _ rfl
        have y3 := hc 3 _ rfl
        have y4 := hc 4 _ rfl
        have y5 := hc 5 _ rfl
        have y6 := hc 6 _ rfl
        have y7 := hc 7 _ rfl
        have y8 := hc 8 _ rfl
        simp only [Nat.add_zero] at y0
        have hl0 : (0 : Int) ≤ (lo : Int) := by omega
        have hlN : (lo : Int) < (X.length : Int) := by omega
        generalize cmpI (x.p.la) t = z at *
        clear hc
        go_wp2_with fail
        refine (CB _).mono ?_
        rintro ex wz ⟨rfl, kz⟩
        have kk := kr.trans kz
        clear CB kz y0 y1 y2 y3 y4 y5 y6 y7 y8
        go_wp2_with fail
        go_ret2
        exact ⟨lo, _, rfl, hin, hh.out.1, hh.out.2, kk⟩
      · have hlN : ¬ (lo : Int) < (X.length : Int) := by omega
        go_wp2_with fail
        go_ret2
        exact ⟨lo, _, rfl, hin, hh.out.1, hh.out.2, kr⟩
/-- How many stand ahead of t. -/
def bsSP (X : List (Int × Int)) (t : Int) (w : World) (ex : Ending) (w' : World) : Prop := ∃ (c : Nat) (b : Bool), ex = .returned (.tuple #[.int .i64 (c : Int), .bool b]) ∧ c ≤ X.length ∧ (∀ j (hj : j < X.length), j < c → (X[j]).1 < t) ∧ (∀ j (hj : j < X.length), c ≤ j → t ≤ (X[j]).1) ∧ Keeps (fun _ => False) w w'
set_option maxRecDepth 100000 in
set_option maxHeartbeats 8000000 in
theorem bsS_any (a : Option Addr) (cap : Nat) (X : List (Int × Int)) (t : Int) (hl : X.length ≤ 1100000) (hs : X.Pairwise (fun p q => p.1 < q.1)) (w : World) (h : ElsAt stC 2 w (.slice a X.length cap) X) :
    Calls Tryd.prog 47 #[.slice a X.length cap, .int .i64 t, .func (.func 48) #[] #[]] w (bsSP X t w) := by
  have HV : Hid (∀ Z, Keeps (fun _ => False) w Z → ElsAt stC 2 Z (.slice a X.length cap) X) := fun Z k => h.keeps st_ne k
  have HS : Hid (∀ i j (hi : i < X.length) (hj : j < X.length), i ≤ j → (X[i]).1 ≤ (X[j]).1) := fun i j hi hj hij => by
    rcases Nat.lt_or_ge i j with q | q
    · have := List.pairwise_iff_getElem.1 hs i j hi hj q
      omega
    · obtain rfl : i = j := by omega
      exact Int.le_refl _
  have hn9 : (X.length : Int) ≤ 1100000 := by omega
  clear h hs
  go_enter Tryd.func47, Tryd.ntmps47
  go_wp2_with fail
  go_loopw [9, 10] (fun u9 u10 wr => ∃ (lo hi : Nat), u9 = .int .i64 (lo : Int) ∧ u10 = .int .i64 (hi : Int) ∧ lo ≤ hi ∧ hi ≤ X.length ∧ Hid ((∀ j (hj : j < X.length), j < lo → (X[j]).1 < t) ∧ (∀ j (hj : j < X.length), hi ≤ j → t ≤ (X[j]).1)) ∧ Keeps (fun _ => False) w wr) (fun u9 u10 _ => (intOf u10).toNat - (intOf u9).toNat)
  case atStart => exact ⟨0, X.length, rfl, rfl, Nat.zero_le _, Nat.le_refl _, ⟨fun j _ q => absurd q (Nat.not_lt_zero _), fun j hj q => absurd hj (by omega)⟩, Keeps.refl _ _⟩
  case round =>
    obtain ⟨lo, hi, rfl, rfl, hlh, hin, hh, kr⟩ := hrel
    by_cases hlt : lo < hi
    · have hki : (lo : Int) < (hi : Int) := by omega
      obtain ⟨m, hm⟩ : ∃ m, m = (lo + hi) / 2 := ⟨_, rfl⟩
      have hmX : m < X.length := by omega
      obtain ⟨g, off, rfl, hc⟩ := (HV.out wr kr).at m hmX
      have HM : Hid (m = (lo + hi) / 2 ∧ lo ≤ m ∧ m < hi) := ⟨hm, by omega, by omega⟩
      have CB := cmpS_any (X[m]) t
      have hm0 : (0 : Int) ≤ (m : Int) := by omega
      have hmN : (m : Int) < (X.length : Int) := by omega
      have w1 : IntKind.i64.wrap ((lo : Int) + (hi : Int)) = (lo : Int) + (hi : Int) := by rw [IntKind.wrap_i64]; omega
      have w2 : ((lo : Int) + (hi : Int)) / 2 = (m : Int) := by omega
      have w3 : IntKind.i64.wrap ((m : Int) + 1) = (m : Int) + 1 := by rw [IntKind.wrap_i64]; omega
      generalize hx : X[m]'hmX = x at hc CB
      have HX : Hid (X[m]'hmX = x) := hx
      clear hx hm
      have y0 := hc 0 _ rfl
      have y1 := hc 1 _ rfl
      simp only [Nat.add_zero] at y0
      clear hc
      by_cases hb : x.1 < t
      · have hz : cmpI (x.1) t < 0 := (cmpI_lt _ _).2 hb
        generalize cmpI (x.1) t = z at *
        have HB : Hid (x.1 < t) := hb
        clear hb
        go_wp2_with fail
        refine (CB _).mono ?_
        rintro ex wz ⟨rfl, kz⟩
        have kk := kr.trans kz
        clear CB kz y0 y1
        go_wp2_with fail
        go_roundw
        · obtain ⟨q1, q2, q3⟩ := HM.out
          have e : (X[m]).1 = x.1 := by rw [HX.out]
          have hB := HB.out
          exact ⟨m + 1, hi, by simp, rfl, by omega, hin, ⟨fun j hj hlt => by have := HS.out j m hj hmX (by omega); omega, hh.out.2⟩, kk⟩
        · obtain ⟨q1, q2, q3⟩ := HM.out; simp [intOf]; omega
      · have hz : ¬ cmpI (x.1) t < 0 := fun q => hb ((cmpI_lt _ _).1 q)
        generalize cmpI (x.1) t = z at *
        have HB : Hid (¬ x.1 < t) := hb
        clear hb
        go_wp2_with fail
        refine (CB _).mono ?_
        rintro ex wz ⟨rfl, kz⟩
        have kk := kr.trans kz
        clear CB kz y0 y1
        go_wp2_with fail
        go_roundw
        · obtain ⟨q1, q2, q3⟩ := HM.out
          have e : (X[m]).1 = x.1 := by rw [HX.out]
          have hB := HB.out
          exact ⟨lo, m, rfl, rfl, by omega, by omega, ⟨hh.out.1, fun j hj hge => by have := HS.out m j hmX hj hge; omega⟩, kk⟩
        · obtain ⟨q1, q2, q3⟩ := HM.out; simp [intOf]; omega
    · obtain rfl : lo = hi := by omega
      by_cases hend : lo < X.length
      · obtain ⟨g, off, rfl, hc⟩ := (HV.out wr kr).at lo hend
        have CB := cmpS_any (X[lo]) t
        generalize hx : X[lo]'hend = x at *
        clear hx
        have y0 := hc 0 _ rfl
        have y1 := hc 1 _ rfl
        simp only [Nat.add_zero] at y0
        have hl0 : (0 : Int) ≤ (lo : Int) := by omega
        have hlN : (lo : Int) < (X.length : Int) := by omega
        generalize cmpI (x.1) t = z at *
        clear hc
        go_wp2_with fail
        refine (CB _).mono ?_
        rintro ex wz ⟨rfl, kz⟩
        have kk := kr.trans kz
        clear CB kz y0 y1
        go_wp2_with fail
        go_ret2
        exact ⟨lo, _, rfl, hin, hh.out.1, hh.out.2, kk⟩
      · have hlN : ¬ (lo : Int) < (X.length : Int) := by omega
        go_wp2_with fail
        go_ret2
        exact ⟨lo, _, rfl, hin, hh.out.1, hh.out.2, kr⟩
end Go.Proofs.YthgkbmfnidehbaaDoor
