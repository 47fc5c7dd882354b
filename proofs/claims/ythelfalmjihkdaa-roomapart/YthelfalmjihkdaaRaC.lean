
/- Pure (layer 20, RoomApart): a room that is laid. No statement of the seat is proved here. -/
import Derived.Test.YthelfalmjihkdaaRaB
namespace Go.Proofs.Ythelfalmjihkdaa
open Go.RowKit

/-- What stands while a room is laid. -/
structure Lay0 (s : Wd) (fr to : Int) (K : Int) : Prop where
  lk : Lk s K
  len : s.W.length = 300
  w0 : oat s.W 0 = fr
  w1 : oat s.W 1 = to
  z : ∀ j, 2 ≤ j → oat s.W j = 0
theorem Lay0.round {s : Wd} {fr to K : Int} (h : Lay0 s fr to K) (hK : K + 1 < 4611686018427387904) (k : Nat) (hk : k < 16) : ∃ s', s.put (hdA 0 ((k : Int) + 1)) 0 = (0, s') ∧ Lay0 s' fr to (K + 1) := by
  have hm : mayN ((k : Int) + 1) := ⟨by omega, by omega⟩
  have p := put_in (s := s) (a := hdA 0 ((k : Int) + 1)) (x := 0) h.lk (by rw [hdA0 hm]; omega) (by rw [hdA0 hm, h.len]; omega)
  refine ⟨_, p, h.lk.dec hK, by show (s.W.set _ 0).length = 300; rw [List.length_set]; exact h.len, ?_, ?_, fun j hj => ?_⟩
  · show oat (s.W.set _ 0) 0 = fr
    rw [hdA0 hm, oat_ne (by omega)]; exact h.w0
  · show oat (s.W.set _ 0) 1 = to
    rw [hdA0 hm, oat_ne (by omega)]; exact h.w1
  · show oat (s.W.set _ 0) j = 0
    rw [oat_set]
    split
    · rfl
    · exact h.z j hj
theorem Lay0.rounds {s : Wd} {fr to K : Int} (h : Lay0 s fr to K) : ∀ (k : Nat), k ≤ 16 → K + k < 4611686018427387904 → ∃ s', layK 0 (0, s) k = (0, s') ∧ Lay0 s' fr to (K + k)
  | 0, _, _ => ⟨s, rfl, by simpa using h⟩
  | k + 1, hk, hK => by
    obtain ⟨s', e, h'⟩ := Lay0.rounds h k (by omega) (by omega)
    obtain ⟨s2, e2, h2⟩ := h'.round (by omega) k (by omega)
    refine ⟨s2, ?_, by rw [show K + ((k + 1 : Nat) : Int) = K + k + 1 by omega]; exact h2⟩
    show (if (layK 0 (0, s) k).1 = 0 then (layK 0 (0, s) k).2.put (hdA 0 ((k : Int) + 1)) 0 else layK 0 (0, s) k) = _
    rw [e]
    simp only [if_true]
    exact e2
theorem laid_any (Z : List Int) (hZ : Z.length = 300) (hz : ∀ j, oat Z j = 0) (fr to : Int) (h1 : 18 ≤ fr) (h2 : fr ≤ to) (h3 : to ≤ 236) : ∃ s', (⟨Z, -1, 0, 0⟩ : Wd).lay 0 fr to = (0, s') ∧ Rm s' fr to [] (fun _ => []) ∧ Lk s' 19 := by
  have k0 : Lk (⟨Z, -1, 0, 0⟩ : Wd) 1 := ⟨by show -1 ≤ (-1 : Int); omega, by show (-1 : Int) < 0; omega, by omega⟩
  have p1 := put_in (a := 0) (x := fr) k0 (by omega) (by show (0 : Int) < (Z.length : Int); rw [hZ]; omega)
  have p2 := put_in (s := { (⟨Z, -1, 0, 0⟩ : Wd).dec with W := Z.set (0 : Int).toNat fr }) (K := 2) (a := 1) (x := to) (k0.dec (by omega)) (by omega) (by show (1 : Int) < ((Z.set 0 fr).length : Int); rw [List.length_set, hZ]; omega)
  have e1 : (⟨Z, -1, 0, 0⟩ : Wd).lay1 0 fr to = (0, { ({ (⟨Z, -1, 0, 0⟩ : Wd).dec with W := Z.set (0 : Int).toNat fr } : Wd).dec with W := (Z.set (0 : Int).toNat fr).set (1 : Int).toNat to }) := by
    unfold Wd.lay1
    rw [p1]
    simp only [if_true]
    rw [endA0]
    exact p2
  have L : Lay0 { ({ (⟨Z, -1, 0, 0⟩ : Wd).dec with W := Z.set (0 : Int).toNat fr } : Wd).dec with W := (Z.set (0 : Int).toNat fr).set (1 : Int).toNat to } fr to 3 := by
    refine ⟨(k0.dec (by omega)).dec (by omega), by show ((Z.set 0 fr).set 1 to).length = 300; rw [List.length_set, List.length_set]; exact hZ, ?_, ?_, fun j hj => ?_⟩
    · show oat ((Z.set 0 fr).set 1 to) 0 = fr
      rw [oat_ne (by omega)]
      exact oat_eq (by rw [hZ]; omega)
    · show oat ((Z.set 0 fr).set 1 to) 1 = to
      exact oat_eq (by rw [List.length_set, hZ]; omega)
    · show oat ((Z.set 0 fr).set 1 to) j = 0
      rw [oat_ne (by omega), oat_ne (by omega)]
      exact hz j
  obtain ⟨s', e2, h'⟩ := L.rounds 16 (by omega) (by omega)
  refine ⟨s', ?_, ⟨h'.len, h1, h3, h'.w1, by rw [h'.w0]; omega, by rw [h'.w0]; exact h2, fun p hp => by simp at hp, fun n _ _ a ha => by simp at ha, List.Pairwise.nil, fun p hp => by simp at hp, fun n _ _ => List.Pairwise.nil, fun n m _ _ _ _ _ a ha => by simp at ha, fun n n1 n2 => h'.z (1 + n) (by omega)⟩, h'.lk⟩
  unfold Wd.lay
  rw [if_neg (by omega), e1]
  exact e2
theorem laid_room (fr to : Int) (h1 : 18 ≤ fr) (h2 : fr ≤ to) (h3 : to ≤ 236) : ∃ s', (⟨List.replicate 300 0, -1, 0, 0⟩ : Wd).lay 0 fr to = (0, s') ∧ Rm s' fr to [] (fun _ => []) ∧ Lk s' 19 :=
  laid_any _ List.length_replicate (fun j => by
    unfold oat
    rw [List.getElem?_replicate]
    split <;> rfl) fr to h1 h2 h3
end Go.Proofs.Ythelfalmjihkdaa
