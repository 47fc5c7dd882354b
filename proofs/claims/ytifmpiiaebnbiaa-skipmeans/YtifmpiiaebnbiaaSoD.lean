
/- The law's means: what it keeps (layer 22). No statement of the seat is proved here. -/
import Derived.Test.YtifmpiiaebnbiaaSoCM
namespace Go.Proofs.Ytifmpiiaebnbiaa
open Go.RowKit

def nxK (kd : Int) (K : List Int) (x : Int) : List Int := if kd = 3 then withK K x else if kd = 4 then outK K x else K
/-- Two sets of the same words, of two txs, apart from the plain set's row. -/
structure Me (w : World) (b1 g1 c1 b2 g2 c2 : Nat) (X : World) (s1 s2 : Wd) (N1 N2 : List Sn) (m : Nat) (K : List Int) : Prop where
  d : Dt w b1 g1 c1 b2 g2 c2 X s1 s2
  h1 : Ss s1 N1 m
  h2 : Ss s2 N2 m
  k1 : ks N1 = K
  k2 : ks N2 = K
  l1 : s1.L.length ≤ 100000
  l2 : s2.L.length ≤ 100000
def stO (kd lv ro at_ x y : Int) : Obj := .cells #[.int .i64 kd, .int .i64 lv, .int .u64 ro, .int .u64 at_, .int .u64 x, .int .u64 y] 34
theorem Ss.up {s : Wd} {N : List Sn} {m m' : Nat} (h : Ss s N m) (hm : m ≤ m') : Ss s N m' := ⟨h.c, h.ok, h.sl, h.rm, by have := h.nb; omega⟩
section
variable {w X X' : World} {b1 g1 c1 b2 g2 c2 : Nat} {s1 s2 s' : Wd} {N1 N2 N' : List Sn} {m m' : Nat} {K : List Int} {x lv : Int}
theorem Me.few (h : Me w b1 g1 c1 b2 g2 c2 X s1 s2 N1 N2 m K) (hK : K.length ≤ 190) : N1.length ≤ 190 ∧ N2.length ≤ 190 := by
  have := ks_len N1
  have := ks_len N2
  rw [h.k1] at *
  rw [h.k2] at *
  omega
theorem ins_c {b g c : Nat} {s s1 : Wd} {r : (Bool × Int)} {x level : Int} (heq : Hid (s.ins 0 20 x level = (r, s1))) (hx : isW x) (rms : s.L.length ≤ 700000) {w : World} (h : WdAt 27 w b g c s) :
    Calls Try.prog 20 #[.iface 23 (.pointer (some ⟨b, 0, none⟩)), .int .u64 0, .int .u64 20, .int .u64 x, .int .i64 level] w fun e w' => e = .returned (.tuple #[.bool r.1, .int .i64 r.2]) ∧ Hs 27 w b g c w' s1 := by
  have q := ins_any b g c s 0 20 x level ⟨by omega, by omega⟩ ⟨by omega, by omega⟩ hx (by unfold Rm; omega) w h
  rw [heq.out] at q
  exact q
theorem rem_c {b g c : Nat} {s s1 : Wd} {r : (Bool × Int)} {x : Int} (heq : Hid (s.rem 0 20 x = (r, s1))) (rms : s.L.length ≤ 700000) {w : World} (h : WdAt 27 w b g c s) :
    Calls Try.prog 22 #[.iface 23 (.pointer (some ⟨b, 0, none⟩)), .int .u64 0, .int .u64 20, .int .u64 x] w fun e w' => e = .returned (.tuple #[.bool r.1, .int .i64 r.2]) ∧ Hs 27 w b g c w' s1 := by
  have q := rem_any b g c s 0 20 x ⟨by omega, by omega⟩ (by unfold Rm; omega) w h
  rw [heq.out] at q
  exact q
theorem has_c {b g c : Nat} {s s1 : Wd} {r : (Bool × Int)} {x : Int} (heq : Hid (s.has 20 x = (r, s1))) (rms : s.L.length ≤ 700000) {w : World} (h : WdAt 27 w b g c s) :
    Calls Try.prog 24 #[.iface 23 (.pointer (some ⟨b, 0, none⟩)), .int .u64 20, .int .u64 x] w fun e w' => e = .returned (.tuple #[.bool r.1, .int .i64 r.2]) ∧ Hs 27 w b g c w' s1 := by
  have q := has_any b g c s 20 x ⟨by omega, by omega⟩ (by unfold Rm; omega) w h
  rw [heq.out] at q
  exact q
theorem first_c {b g c : Nat} {s s1 : Wd} {r : (Int × Bool × Int)} (heq : Hid (s.first 20 = (r, s1))) (rms : s.L.length ≤ 700000) {w : World} (h : WdAt 27 w b g c s) :
    Calls Try.prog 26 #[.iface 23 (.pointer (some ⟨b, 0, none⟩)), .int .u64 20] w fun e w' => e = .returned (.tuple #[.int .u64 r.1, .bool r.2.1, .int .i64 r.2.2]) ∧ Hs 27 w b g c w' s1 := by
  have q := first_any b g c s 20 ⟨by omega, by omega⟩ (by unfold Rm; omega) w h
  rw [heq.out] at q
  exact q
theorem tx_words {X : World} {b g c : Nat} {s : Wd} (h : WdAt 27 X b g c s) (hl : s.W.length = 2000) (hc : 2000 ≤ c) : X.cell? ⟨b, 0, none⟩ = some (.slice (some ⟨g, 0, none⟩) 2000 c) ∧ Lies X (.slice (some ⟨g, 20, none⟩) 8 (c - 20)) ((s.W.drop 20).take 8) := by
  obtain ⟨v, q1, _⟩ := h.lg
  have hll : ((s.W.drop 20).take 8).length = 8 := by rw [List.length_take, List.length_drop, hl]; rfl
  refine ⟨by rw [cell_of_block q1, hl]; rw [adr_pos (by omega)]; rfl, ⟨_, c - 20, by rw [hll], fun i hi => ⟨g, 20, rfl, ?_⟩⟩⟩
  rw [hll] at hi
  have q := h.wcell (20 + i) (by omega)
  rw [q]
  unfold oat
  rw [List.getElem?_take_of_lt hi, List.getElem?_drop]
theorem words8_same {W W' : List Int} (h1 : W.length = 2000) (h2 : W'.length = 2000) (h : ∀ i, i < 8 → oat W' (20 + i) = oat W (20 + i)) : (W'.drop 20).take 8 = (W.drop 20).take 8 := by
  have l1 : ((W.drop 20).take 8).length = 8 := by rw [List.length_take, List.length_drop, h1]; rfl
  have l2 : ((W'.drop 20).take 8).length = 8 := by rw [List.length_take, List.length_drop, h2]; rfl
  refine List.ext_getElem (by rw [l1, l2]) fun i hi _ => ?_
  have hi8 : i < 8 := by omega
  have q := h i hi8
  unfold oat at q
  rw [List.getElem?_eq_getElem (by omega), List.getElem?_eq_getElem (by omega)] at q
  simpa using q
theorem aft_c {b g c : Nat} {s s1 : Wd} {r : (Int × Bool × Int)} {x : Int} (heq : Hid (s.aft 20 x = (r, s1))) (rms : s.L.length ≤ 700000) {w : World} (h : WdAt 27 w b g c s) :
    Calls Try.prog 28 #[.iface 23 (.pointer (some ⟨b, 0, none⟩)), .int .u64 20, .int .u64 x] w fun e w' => e = .returned (.tuple #[.int .u64 r.1, .bool r.2.1, .int .i64 r.2.2]) ∧ Hs 27 w b g c w' s1 := by
  have q := aft_any b g c s 20 x ⟨by omega, by omega⟩ (by unfold Rm; omega) w h
  rw [heq.out] at q
  exact q
end
end Go.Proofs.Ytifmpiiaebnbiaa
