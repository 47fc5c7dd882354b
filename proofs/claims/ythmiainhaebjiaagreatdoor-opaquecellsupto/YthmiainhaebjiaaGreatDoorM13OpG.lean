/-
  No statement of the seat is proved here. (Several texts in one: OpG, OpH.)
-/
import Derived.Test.YthmiainhaebjiaaGreatDoorM07OpE
import Derived.Test.YthmiainhaebjiaaGreatDoorM12EvK

/- Walks of the closures that compare, BinarySearchFunc, ahead (layer 16). No statement of the seat is proved here. -/
namespace Go.Proofs.YthmiainhaebjiaaGreatDoor
open Go.RowKit Go.Shelf

/-- A stand: since when, which word. -/
@[reducible] def stC (p : Int × Int) : List Value := [.int .i64 p.1, .int .u64 p.2]
theorem st_len (p : Int × Int) : (stC p).length = 2 := rfl
theorem st_ne (p : Int × Int) : stC p ≠ [] := by simp
theorem st_one (p : Int × Int) : ∀ u ∈ stC p, u.oneCell' = true := by
  intro u hu
  simp at hu
  rcases hu with rfl | rfl <;> rfl
theorem info_st : (Tryz.prog.info? 111).map (fun i => (i.zero, i.size, i.bytes)) = some (some (.agg #[.int .i64 0, .int .u64 0]), 2, 16) := by kernel_rfl
theorem cmpI_lt (x y : Int) : (cmpI x y < 0) ↔ x < y := by
  unfold cmpI
  split
  · simp; assumption
  · split <;> simp <;> omega
set_option maxRecDepth 100000 in
set_option maxHeartbeats 8000000 in
theorem cmpB_any (x : Bx) (t : Int) (w : World) : Calls Tryz.prog 77 #[.agg #[.int .i64 x.p.th, .int .i64 x.p.kd, .int .i64 x.p.fi, .int .i64 x.p.la, .int .u64 x.p.nu, .bool x.p.wr, .int .i64 x.p.er, .slice x.r.a x.r.n x.r.c, .slice x.s.a x.s.n x.s.c], .int .i64 t] w fun ex w' => ex = .returned (.int .i64 (cmpI x.p.la t)) ∧ Keeps (fun _ => False) w w' := by
  have k0 := (Keeps.refl (fun _ => False) w).alloc (.cells #[.int .i64 x.p.th, .int .i64 x.p.kd, .int .i64 x.p.fi, .int .i64 x.p.la, .int .u64 x.p.nu, .bool x.p.wr, .int .i64 x.p.er, .slice x.r.a x.r.n x.r.c, .slice x.s.a x.s.n x.s.c] 73)
  have CM := fun X => cmpN_any (x.p.la) (t) X
  generalize cmpI (x.p.la) (t) = z at *
  go_enter Tryz.func77, Tryz.ntmps77
  go_wp2_with fail
  refine (CM _).mono ?_
  rintro ex w2 ⟨rfl, rfl⟩
  go_wp2_with fail
  go_ret
  exact ⟨rfl, k0⟩
set_option maxRecDepth 100000 in
set_option maxHeartbeats 8000000 in
theorem cmpS_any (x : Int × Int) (t : Int) (w : World) : Calls Tryz.prog 72 #[.agg #[.int .i64 x.1, .int .u64 x.2], .int .i64 t] w fun ex w' => ex = .returned (.int .i64 (cmpI x.1 t)) ∧ Keeps (fun _ => False) w w' := by
  have k0 := (Keeps.refl (fun _ => False) w).alloc (.cells #[.int .i64 x.1, .int .u64 x.2] 111)
  have CM := fun X => cmpN_any (x.1) (t) X
  generalize cmpI (x.1) (t) = z at *
  go_enter Tryz.func72, Tryz.ntmps72
  go_wp2_with fail
  refine (CM _).mono ?_
  rintro ex w2 ⟨rfl, rfl⟩
  go_wp2_with fail
  go_ret
  exact ⟨rfl, k0⟩
/-- How many stand ahead of t. -/
def bsBP (X : List (Bx)) (t : Int) (w : World) (ex : Ending) (w' : World) : Prop := ∃ (c : Nat) (b : Bool), ex = .returned (.tuple #[.int .i64 (c : Int), .bool b]) ∧ c ≤ X.length ∧ (∀ j (hj : j < X.length), j < c → (X[j]).p.la < t) ∧ (∀ j (hj : j < X.length), c ≤ j → t ≤ (X[j]).p.la) ∧ Keeps (fun _ => False) w w'
set_option maxRecDepth 100000 in
set_option maxHeartbeats 8000000 in
theorem bsB_any (a : Option Addr) (cap : Nat) (X : List (Bx)) (t : Int) (hl : X.length ≤ 1100000) (hs : X.Pairwise (fun p q => p.p.la < q.p.la)) (w : World) (h : ElsAt Bx.cb 9 w (.slice a X.length cap) X) :
    Calls Tryz.prog 76 #[.slice a X.length cap, .int .i64 t, .func (.func 77) #[] #[]] w (bsBP X t w) := by
  have HV : Hid (∀ Z, Keeps (fun _ => False) w Z → ElsAt Bx.cb 9 Z (.slice a X.length cap) X) := fun Z k => h.keeps cb_ne k
  have HS : Hid (∀ i j (hi : i < X.length) (hj : j < X.length), i ≤ j → (X[i]).p.la ≤ (X[j]).p.la) := fun i j hi hj hij => by
    rcases Nat.lt_or_ge i j with q | q
    · have := List.pairwise_iff_getElem.1 hs i j hi hj q
      omega
    · obtain rfl : i = j := by omega
      exact Int.le_refl _
  have hn9 : (X.length : Int) ≤ 1100000 := by omega
  clear h hs
  go_enter Tryz.func76, Tryz.ntmps76
  go_wp2_with fail
  go_loopw [9, 10] (fun u9 u10 wr => ∃ (lo hi : Nat), u9 = .int .i64 (lo : Int) ∧ u10 = .int .i64 (hi : Int) ∧ lo ≤ hi ∧ hi ≤ X.length ∧ Hid ((∀ j (hj : j < X.length), j < lo → (X[j]).p.la < t) ∧ (∀ j (hj : j < X.length), hi ≤ j → t ≤ (X[j]).p.la)) ∧ Keeps (fun _ => False) w wr) (fun u9 u10 _ => (intOf u10).toNat - (intOf u9).toNat)
  case atStart => exact ⟨0, X.length, rfl, rfl, Nat.zero_le _, Nat.le_refl _, ⟨fun j _ q => absurd q (Nat.not_lt_zero _), fun j hj q => absurd hj (by omega)⟩, Keeps.refl _ _⟩
  case round =>
    obtain ⟨lo, hi, rfl, rfl, hlh, hin, hh, kr⟩ := hrel
    by_cases hlt : lo < hi
    · have hki : (lo : Int) < (hi : Int) := by omega
      obtain ⟨m, hm⟩ : ∃ m, m = (lo + hi) / 2 := ⟨_, rfl⟩
      have hmX : m < X.length := by omega
      obtain ⟨g, off, rfl, hc⟩ := (HV.out wr kr).at m hmX
      have HM : Hid (m = (lo + hi) / 2 ∧ lo ≤ m ∧ m < hi) := ⟨hm, by omega, by omega⟩
      have CB := cmpB_any (X[m]) t
      have hm0 : (0 : Int) ≤ (m : Int) := by omega
      have hmN : (m : Int) < (X.length : Int) := by omega
      have w1 : IntKind.i64.wrap ((lo : Int) + (hi : Int)) = (lo : Int) + (hi : Int) := by rw [IntKind.wrap_i64]; omega
      have w2 : ((lo : Int) + (hi : Int)) / 2 = (m : Int) := by omega
      have w3 : IntKind.i64.wrap ((m : Int) + 1) = (m : Int) + 1 := by rw [IntKind.wrap_i64]; omega
      generalize hx : X[m]'hmX = x at hc CB
      have HX : Hid (X[m]'hmX = x) := hx
      clear hx hm
      have y0 := hc 0 _ rfl
      have y1 := hc 1 _ rfl
      have y2 := hc 2 _ rfl
      have y3 := hc 3 _ rfl
      have y4 := hc 4 _ rfl
      have y5 := hc 5 _ rfl
      have y6 := hc 6 _ rfl
      have y7 := hc 7 _ rfl
      have y8 := hc 8 _ rfl
      simp only [Nat.add_zero] at y0
      clear hc
      by_cases hb : x.p.la < t
      · have hz : cmpI (x.p.la) t < 0 := (cmpI_lt _ _).2 hb
        generalize cmpI (x.p.la) t = z at *
        have HB : Hid (x.p.la < t) := hb
        clear hb
        go_wp2_with fail
        refine (CB _).mono ?_
        rintro ex wz ⟨rfl, kz⟩
        have kk := kr.trans kz
        clear CB kz y0 y1 y2 y3 y4 y5 y6 y7 y8
        go_wp2_with fail
        go_roundw
        · obtain ⟨q1, q2, q3⟩ := HM.out
          have e : (X[m]).p.la = x.p.la := by rw [HX.out]
          have hB := HB.out
          exact ⟨m + 1, hi, by simp, rfl, by omega, hin, ⟨fun j hj hlt => by have := HS.out j m hj hmX (by omega); omega, hh.out.2⟩, kk⟩
        · obtain ⟨q1, q2, q3⟩ := HM.out; simp [intOf]; omega
      · have hz : ¬ cmpI (x.p.la) t < 0 := fun q => hb ((cmpI_lt _ _).1 q)
        generalize cmpI (x.p.la) t = z at *
        have HB : Hid (¬ x.p.la < t) := hb
        clear hb
        go_wp2_with fail
        refine (CB _).mono ?_
        rintro ex wz ⟨rfl, kz⟩
        have kk := kr.trans kz
        clear CB kz y0 y1 y2 y3 y4 y5 y6 y7 y8
        go_wp2_with fail
        go_roundw
        · obtain ⟨q1, q2, q3⟩ := HM.out
          have e : (X[m]).p.la = x.p.la := by rw [HX.out]
          have hB := HB.out
          exact ⟨lo, m, rfl, rfl, by omega, by omega, ⟨hh.out.1, fun j hj hge => by have := HS.out m j hmX hj hge; omega⟩, kk⟩
        · obtain ⟨q1, q2, q3⟩ := HM.out; simp [intOf]; omega
    · obtain rfl : lo = hi := by omega
      by_cases hend : lo < X.length
      · obtain ⟨g, off, rfl, hc⟩ := (HV.out wr kr).at lo hend
        have CB := cmpB_any (X[lo]) t
        generalize hx : X[lo]'hend = x at *
        clear hx
        have y0 := hc 0 _ rfl
        have y1 := hc 1 _ rfl
        have y2 := hc 2 _ rfl
        have y3 := hc 3 _ rfl
        have y4 := hc 4 _ rfl
        have y5 := hc 5 _ rfl
        have y6 := hc 6 _ rfl
        have y7 := hc 7 _ rfl
        have y8 := hc 8 _ rfl
        simp only [Nat.add_zero] at y0
        have hl0 : (0 : Int) ≤ (lo : Int) := by omega
        have hlN : (lo : Int) < (X.length : Int) := by omega
        generalize cmpI (x.p.la) t = z at *
        clear hc
        go_wp2_with fail
        refine (CB _).mono ?_
        rintro ex wz ⟨rfl, kz⟩
        have kk := kr.trans kz
        clear CB kz y0 y1 y2 y3 y4 y5 y6 y7 y8
        go_wp2_with fail
        go_ret2
        exact ⟨lo, _, rfl, hin, hh.out.1, hh.out.2, kk⟩
      · have hlN : ¬ (lo : Int) < (X.length : Int) := by omega
        go_wp2_with fail
        go_ret2
        exact ⟨lo, _, rfl, hin, hh.out.1, hh.out.2, kr⟩
/-- How many stand ahead of t. -/
def bsSP (X : List (Int × Int)) (t : Int) (w : World) (ex : Ending) (w' : World) : Prop := ∃ (c : Nat) (b : Bool), ex = .returned (.tuple #[.int .i64 (c : Int), .bool b]) ∧ c ≤ X.length ∧ (∀ j (hj : j < X.length), j < c → (X[j]).1 < t) ∧ (∀ j (hj : j < X.length), c ≤ j → t ≤ (X[j]).1) ∧ Keeps (fun _ => False) w w'
set_option maxRecDepth 100000 in
set_option maxHeartbeats 8000000 in
theorem bsS_any (a : Option Addr) (cap : Nat) (X : List (Int × Int)) (t : Int) (hl : X.length ≤ 1100000) (hs : X.Pairwise (fun p q => p.1 < q.1)) (w : World) (h : ElsAt stC 2 w (.slice a X.length cap) X) :
    Calls Tryz.prog 71 #[.slice a X.length cap, .int .i64 t, .func (.func 72) #[] #[]] w (bsSP X t w) := by
  have HV : Hid (∀ Z, Keeps (fun _ => False) w Z → ElsAt stC 2 Z (.slice a X.length cap) X) := fun Z k => h.keeps st_ne k
  have HS : Hid (∀ i j (hi : i < X.length) (hj : j < X.length), i ≤ j → (X[i]).1 ≤ (X[j]).1) := fun i j hi hj hij => by
    rcases Nat.lt_or_ge i j with q | q
    · have := List.pairwise_iff_getElem.1 hs i j hi hj q
      omega
    · obtain rfl : i = j := by omega
      exact Int.le_refl _
  have hn9 : (X.length : Int) ≤ 1100000 := by omega
  clear h hs
  go_enter Tryz.func71, Tryz.ntmps71
  go_wp2_with fail
  go_loopw [9, 10] (fun u9 u10 wr => ∃ (lo hi : Nat), u9 = .int .i64 (lo : Int) ∧ u10 = .int .i64 (hi : Int) ∧ lo ≤ hi ∧ hi ≤ X.length ∧ Hid ((∀ j (hj : j < X.length), j < lo → (X[j]).1 < t) ∧ (∀ j (hj : j < X.length), hi ≤ j → t ≤ (X[j]).1)) ∧ Keeps (fun _ => False) w wr) (fun u9 u10 _ => (intOf u10).toNat - (intOf u9).toNat)
  case atStart => exact ⟨0, X.length, rfl, rfl, Nat.zero_le _, Nat.le_refl _, ⟨fun j _ q => absurd q (Nat.not_lt_zero _), fun j hj q => absurd hj (by omega)⟩, Keeps.refl _ _⟩
  case round =>
    obtain ⟨lo, hi, rfl, rfl, hlh, hin, hh, kr⟩ := hrel
    by_cases hlt : lo < hi
    · have hki : (lo : Int) < (hi : Int) := by omega
      obtain ⟨m, hm⟩ : ∃ m, m = (lo + hi) / 2 := ⟨_, rfl⟩
      have hmX : m < X.length := by omega
      obtain ⟨g, off, rfl, hc⟩ := (HV.out wr kr).at m hmX
      have HM : Hid (m = (lo + hi) / 2 ∧ lo ≤ m ∧ m < hi) := ⟨hm, by omega, by omega⟩
      have CB := cmpS_any (X[m]) t
      have hm0 : (0 : Int) ≤ (m : Int) := by omega
      have hmN : (m : Int) < (X.length : Int) := by omega
      have w1 : IntKind.i64.wrap ((lo : Int) + (hi : Int)) = (lo : Int) + (hi : Int) := by rw [IntKind.wrap_i64]; omega
      have w2 : ((lo : Int) + (hi : Int)) / 2 = (m : Int) := by omega
      have w3 : IntKind.i64.wrap ((m : Int) + 1) = (m : Int) + 1 := by rw [IntKind.wrap_i64]; omega
      generalize hx : X[m]'hmX = x at hc CB
      have HX : Hid (X[m]'hmX = x) := hx
      clear hx hm
      have y0 := hc 0 _ rfl
      have y1 := hc 1 _ rfl
      simp only [Nat.add_zero] at y0
      clear hc
      by_cases hb : x.1 < t
      · have hz : cmpI (x.1) t < 0 := (cmpI_lt _ _).2 hb
        generalize cmpI (x.1) t = z at *
        have HB : Hid (x.1 < t) := hb
        clear hb
        go_wp2_with fail
        refine (CB _).mono ?_
        rintro ex wz ⟨rfl, kz⟩
        have kk := kr.trans kz
        clear CB kz y0 y1
        go_wp2_with fail
        go_roundw
        · obtain ⟨q1, q2, q3⟩ := HM.out
          have e : (X[m]).1 = x.1 := by rw [HX.out]
          have hB := HB.out
          exact ⟨m + 1, hi, by simp, rfl, by omega, hin, ⟨fun j hj hlt => by have := HS.out j m hj hmX (by omega); omega, hh.out.2⟩, kk⟩
        · obtain ⟨q1, q2, q3⟩ := HM.out; simp [intOf]; omega
      · have hz : ¬ cmpI (x.1) t < 0 := fun q => hb ((cmpI_lt _ _).1 q)
        generalize cmpI (x.1) t = z at *
        have HB : Hid (¬ x.1 < t) := hb
        clear hb
        go_wp2_with fail
        refine (CB _).mono ?_
        rintro ex wz ⟨rfl, kz⟩
        have kk := kr.trans kz
        clear CB kz y0 y1
        go_wp2_with fail
        go_roundw
        · obtain ⟨q1, q2, q3⟩ := HM.out
          have e : (X[m]).1 = x.1 := by rw [HX.out]
          have hB := HB.out
          exact ⟨lo, m, rfl, rfl, by omega, by omega, ⟨hh.out.1, fun j hj hge => by have := HS.out m j hmX hj hge; omega⟩, kk⟩
        · obtain ⟨q1, q2, q3⟩ := HM.out; simp [intOf]; omega
    · obtain rfl : lo = hi := by omega
      by_cases hend : lo < X.length
      · obtain ⟨g, off, rfl, hc⟩ := (HV.out wr kr).at lo hend
        have CB := cmpS_any (X[lo]) t
        generalize hx : X[lo]'hend = x at *
        clear hx
        have y0 := hc 0 _ rfl
        have y1 := hc 1 _ rfl
        simp only [Nat.add_zero] at y0
        have hl0 : (0 : Int) ≤ (lo : Int) := by omega
        have hlN : (lo : Int) < (X.length : Int) := by omega
        generalize cmpI (x.1) t = z at *
        clear hc
        go_wp2_with fail
        refine (CB _).mono ?_
        rintro ex wz ⟨rfl, kz⟩
        have kk := kr.trans kz
        clear CB kz y0 y1
        go_wp2_with fail
        go_ret2
        exact ⟨lo, _, rfl, hin, hh.out.1, hh.out.2, kk⟩
      · have hlN : ¬ (lo : Int) < (X.length : Int) := by omega
        go_wp2_with fail
        go_ret2
        exact ⟨lo, _, rfl, hin, hh.out.1, hh.out.2, kr⟩
end Go.Proofs.YthmiainhaebjiaaGreatDoor


/- Walks of ahead, course, courseUpto (layer 16); a history's past as it lies. No statement of the seat is proved here. -/
namespace Go.Proofs.YthmiainhaebjiaaGreatDoor
open Go.RowKit Go.Shelf

/-- Courses as they lie: a map of rows. -/
structure StAt (w : World) (mb base : Nat) (f : Int → Option Sl) (S : Crs2) : Prop where
  map : MapS w mb f
  dom : ∀ a, (f a).isSome = (S a).isSome
  row : ∀ a s, f a = some s → OwnR stC 2 111 w base s.v ((S a).getD [])
  ap : ∀ a b s t q, f a = some s → f b = some t → s.v.ownBlock = some q → t.v.ownBlock = some q → a = b
  lo : mb < base
theorem StAt.keeps {w w' : World} {mb base : Nat} {f : Int → Option Sl} {S : Crs2} {T : Nat → Prop} (h : StAt w mb base f S) (k : Keeps T w w') (hm : ¬ T mb) (hs : ∀ q, base ≤ q → q < w.heap.size → ¬ T q) : StAt w' mb base f S :=
  ⟨h.map.keeps k hm, h.dom, fun a s q => (h.row a s q).keeps k (fun g hg => hs g (own_block (h.row a s q).own hg).2 (own_block (h.row a s q).own hg).1), h.ap, h.lo⟩
/-- Words as they lie. -/
@[reducible] def wC (x : Int) : List Value := [.int .u64 x]
theorem wC_len (x : Int) : (wC x).length = 1 := rfl
theorem wC_ne (x : Int) : wC x ≠ [] := by simp
theorem wC_one (x : Int) : ∀ u ∈ wC x, u.oneCell' = true := by simp [Value.oneCell']
abbrev WsAt (w : World) (v : Value) (F : List Int) : Prop := ElsAt wC 1 w v F
set_option maxRecDepth 100000 in
set_option maxHeartbeats 8000000 in
theorem course_old (pb mb base : Nat) (f : Int → Option Sl) (S : Crs2) (ad : Int) (s : Sl) (w : World) (c4 : w.cell? ⟨pb, 4, none⟩ = some (.map (some mb))) (h : StAt w mb base f S) (hf : f ad = some s) : Calls Tryz.prog 70 #[.pointer (some ⟨pb, 0, none⟩), .int .u64 ad] w fun ex w' => ex = .returned s.v ∧ w' = w := by
  have hk := h.map.look ad
  unfold lookS at hk
  rw [hf] at hk
  simp only [Option.getD_some, Option.isSome_some] at hk
  obtain ⟨sa, sn, sc⟩ := s
  dsimp only [Sl.v] at hk ⊢
  clear hf h
  go_enter Tryz.func70, Tryz.ntmps70
  go_wp2
  go_ret
  exact ⟨rfl, rfl⟩
set_option maxRecDepth 100000 in
set_option maxHeartbeats 8000000 in
theorem course_new (pb mb base : Nat) (f : Int → Option Sl) (S : Crs2) (ad : Int) (v : Value) (F : List Int) (h0 : 0 ≤ ad) (h1 : ad < F.length) (w : World) (c0 : w.cell? ⟨pb, 0, none⟩ = some v) (c4 : w.cell? ⟨pb, 4, none⟩ = some (.map (some mb))) (hF : WsAt w v F) (h : StAt w mb base f S) (hf : f ad = none) : Calls Tryz.prog 70 #[.pointer (some ⟨pb, 0, none⟩), .int .u64 ad] w fun ex w' => ex = .returned (.slice (some ⟨w.heap.size, 0, none⟩) 1 1) ∧ w' = w.alloc (.cells #[.int .i64 0, .int .u64 (wdAt F ad)] 111) := by
  have hk := h.map.look ad
  unfold lookS at hk
  rw [hf] at hk
  simp only [Option.getD_none, Option.isSome_none, sl0] at hk
  obtain ⟨j, rfl⟩ := Int.eq_ofNat_of_zero_le h0
  obtain ⟨a, cap, rfl, hcap⟩ := hF.shape
  have hj : j < F.length := by omega
  obtain ⟨g, off, rfl, hc⟩ := hF.at j hj
  have y0 := hc 0 _ rfl
  rw [Nat.mul_one, Nat.add_zero] at y0
  have hwd : wdAt F (j : Int) = F[j] := by unfold wdAt; rw [Int.toNat_natCast, List.getElem?_eq_getElem hj]; rfl
  rw [hwd]
  generalize F[j]'hj = x at *
  have hj1 : (j : Int) < (F.length : Int) := by omega
  clear hf h hF hc hwd
  go_enter Tryz.func70, Tryz.ntmps70
  go_wp2
  go_ret
  exact ⟨rfl, rfl⟩
/-- What courseUpto answers: the beginning of the course. -/
def CuPost (l : List (Int × Int)) (n : Int) (B : Nat) (w : World) (ex : Ending) (w' : World) : Prop := ∃ (a : Option Addr) (c cap : Nat), ex = .returned (.slice a c cap) ∧ (∀ g off, a = some ⟨g, off, none⟩ → g < B ∨ w.heap.size ≤ g) ∧ c ≤ l.length ∧ (∀ j (hj : j < l.length), j < c → (l[j]).1 ≤ n) ∧ (∀ j (hj : j < l.length), c ≤ j → n < (l[j]).1) ∧ ElsAt stC 2 w' (.slice a c cap) (l.take c) ∧ Keeps (fun _ => False) w w'
set_option maxRecDepth 100000 in
set_option maxHeartbeats 8000000 in
theorem courseUpto_any (pb mb base : Nat) (f : Int → Option Sl) (S : Crs2) (ad : Int) (v : Value) (F : List Int) (n : Nat) (hn : n ≤ 1200000) (h0 : 0 ≤ ad) (h1 : ad < F.length) (w : World) (c0 : w.cell? ⟨pb, 0, none⟩ = some v) (c4 : w.cell? ⟨pb, 4, none⟩ = some (.map (some mb))) (hF : WsAt w v F) (h : StAt w mb base f S) (hl : (crs F S ad).length ≤ 1100000) (hc : (crs F S ad).Pairwise (fun p q => p.1 < q.1)) (B : Nat) (hBo : ∀ a s q, f a = some s → s.v.ownBlock = some q → q < B) :
    Calls Tryz.prog 50 #[.pointer (some ⟨pb, 0, none⟩), .int .u64 ad, .int .i64 (n : Int)] w (CuPost (crs F S ad) n B w) := by
  have CO : Calls Tryz.prog 70 #[.pointer (some ⟨pb, 0, none⟩), .int .u64 ad] w fun ex w' => ∃ (a : Option Addr) (cap : Nat), ex = .returned (.slice a (crs F S ad).length cap) ∧ (∀ g off, a = some ⟨g, off, none⟩ → g < B ∨ w.heap.size ≤ g) ∧ (crs F S ad).length ≤ cap ∧ ElsAt stC 2 w' (.slice a (crs F S ad).length cap) (crs F S ad) ∧ Keeps (fun _ => False) w w' := by
    cases hf : f ad with
    | none =>
      have hS : S ad = none := by have := h.dom ad; rw [hf] at this; simpa using this.symm
      have e : crs F S ad = [(0, wdAt F ad)] := by unfold crs; rw [hS]; rfl
      rw [e]
      refine (course_new pb mb base f S ad v F h0 h1 w c0 c4 hF h hf).mono ?_
      rintro ex w' ⟨rfl, rfl⟩
      exact ⟨_, 1, rfl, fun g off e => by cases e; exact .inr (Nat.le_refl _), Nat.le_refl _, ElsAt.one (c := stC) (0, wdAt F ad) rfl (MapKept.heap_alloc w _).1, (Keeps.refl _ w).alloc _⟩
    | some s =>
      have hS : S ad = some (crs F S ad) := by
        have := h.dom ad
        rw [hf] at this
        unfold crs
        cases q : S ad with
        | none => rw [q] at this; simp at this
        | some l => rfl
      have ho := h.row ad s hf
      rw [hS, Option.getD_some] at ho
      refine (course_old pb mb base f S ad s w c4 h hf).mono ?_
      rintro ex w' ⟨rfl, rfl⟩
      have he := ho.els st_len
      obtain ⟨a, cap, hv, hcap⟩ := he.shape
      rw [hv] at he ⊢
      exact ⟨a, cap, rfl, fun g off e => .inl (hBo ad s g hf (by rw [hv, e]; rfl)), hcap, he, Keeps.refl _ _⟩
  generalize crs F S ad = l at *
  have hw1 : IntKind.i64.wrap ((n : Int) + 1) = (n : Int) + 1 := by rw [IntKind.wrap_i64]; omega
  have HL : Hid (l.Pairwise (fun p q => p.1 < q.1)) := hc
  clear h hF hc c0 c4 hBo
  go_enter Tryz.func50, Tryz.ntmps50
  go_wp2_with fail
  refine CO.mono ?_
  rintro ex w1 ⟨a, cap, rfl, hab, hcap, he, k1⟩
  clear CO
  have BS := bsS_any a cap l ((n : Int) + 1) hl HL.out w1 he
  go_wp2_with fail
  refine BS.mono ?_
  rintro ex w2 ⟨c, b, rfl, hcl, b1, b2, k2⟩
  clear BS
  have hsl : ∀ W : World, (Instr.slice 109 (.slice a l.length cap) none (some (.int .i64 (c : Int))) none).run Tryz.prog W = .ok (.slice a c cap) W := fun W => run_uptoT Tryz.underlying109 info_st W _ _ _ _ (by omega)
  have HF : Hid (CuPost l n B w (.returned (.slice a c cap)) w2) := ⟨a, c, cap, rfl, hab, hcl, fun j hj q => by have := b1 j hj q; omega, fun j hj q => by have := b2 j hj q; omega, (he.keeps st_ne k2).take c hcl, k1.trans k2⟩
  clear b1 b2 he k1 k2 HL hab
  go_wp2_with fail
  go_ret
  exact HF.out
/-- How many writing commits stand ahead of a place. -/
def AhP (Y : List Bx) (t : Int) (w : World) (ex : Ending) (w' : World) : Prop := ∃ c : Nat, ex = .returned (.int .i64 (c : Int)) ∧ c ≤ Y.length ∧ (∀ j (hj : j < Y.length), j < c → (Y[j]).p.la < t) ∧ (∀ j (hj : j < Y.length), c ≤ j → t ≤ (Y[j]).p.la) ∧ Keeps (fun _ => False) w w'
set_option maxRecDepth 100000 in
set_option maxHeartbeats 8000000 in
theorem oahead_any (pb : Nat) (v : Value) (Y : List Bx) (t : Int) (hl : Y.length ≤ 1100000) (hs : Y.Pairwise (fun p q => p.p.la < q.p.la)) (w : World) (c3 : w.cell? ⟨pb, 3, none⟩ = some v) (h : ElsAt Bx.cb 9 w v Y) : Calls Tryz.prog 60 #[.pointer (some ⟨pb, 0, none⟩), .int .i64 t] w (AhP Y t w) := by
  obtain ⟨a, cap, rfl, hcap⟩ := h.shape
  have BS := bsB_any a cap Y t hl hs w h
  clear h hs
  go_enter Tryz.func60, Tryz.ntmps60
  go_wp2_with fail
  refine BS.mono ?_
  rintro ex w2 ⟨c, b, rfl, hcl, b1, b2, k2⟩
  clear BS
  have HF : Hid (AhP Y t w (.returned (.int .i64 (c : Int))) w2) := ⟨c, rfl, hcl, b1, b2, k2⟩
  clear b1 b2 k2
  go_wp2_with fail
  go_ret
  exact HF.out
end Go.Proofs.YthmiainhaebjiaaGreatDoor
