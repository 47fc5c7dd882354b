
/- How much a step tells; the contracts with their answers named (layer 22). No statement of the seat is proved here. -/
import Derived.Test.YtjgibkofenkehaaSlB0
import Derived.Test.YtjgibkofenkehaaSkVM
import Derived.Test.YtjgibkofenkehaaSrF
import Derived.Test.YtjgibkofenkehaaSrC
namespace Go.Proofs.Ytjgibkofenkehaa
open Go.RowKit

section
variable {s : Wd} (h : s.Ok)
include h
theorem has_len (at_ x : Int) : (s.has at_ x).2.L.length ≤ s.L.length + 131200 := by
  obtain ⟨⟨⟨la, e⟩, s1⟩, eq⟩ : ∃ r, s.search (pLt x) at_ = r := ⟨_, rfl⟩
  have q := (SrOk.of h eq).2.2.2
  unfold Wd.has
  rw [eq]
  show s1.L.length ≤ _
  omega
theorem aft_len (at_ x : Int) : (s.aft at_ x).2.L.length ≤ s.L.length + 131200 := by
  obtain ⟨⟨⟨la, e⟩, s1⟩, eq⟩ : ∃ r, s.search (pLe x) at_ = r := ⟨_, rfl⟩
  have q := (SrOk.of h eq).2.2.2
  unfold Wd.aft
  rw [eq]
  show s1.L.length ≤ _
  omega
theorem first_len {at_ : Int} (hat : isW at_) : (s.first at_).2.L.length ≤ s.L.length + 131200 := by
  have q := (fol_ok h 0 hat).len
  obtain ⟨⟨⟨l, e⟩, n, s1⟩, eq⟩ : ∃ r, s.fol 0 at_ = r := ⟨_, rfl⟩
  unfold Wd.first
  rw [eq] at q ⊢
  have q2 : s1.L.length ≤ s.L.length + 2 := q
  show s1.L.length ≤ _
  omega
theorem ins_len (room at_ x level : Int) : (s.ins room at_ x level).2.L.length ≤ s.L.length + 131200 := by
  obtain ⟨⟨⟨la, e⟩, s1⟩, eq⟩ : ∃ r, s.search (pLt x) at_ = r := ⟨_, rfl⟩
  have q := (SrOk.of h eq).2.2.2
  have q8 := (SrOk.of h eq).2.1
  unfold Wd.ins
  rw [eq]
  dsimp only
  split
  · show s1.L.length ≤ _; omega
  · obtain ⟨⟨⟨nd, f⟩, s2⟩, eq2⟩ : ∃ r, s1.take room (uw (2 + hgt level)) = r := ⟨_, rfl⟩
    have q2 := take_len s1 room (uw (2 + hgt level))
    rw [eq2] at q2 ⊢
    have q2' : s2.L.length ≤ s1.L.length + 4 := q2
    dsimp only
    split
    · show s2.L.length ≤ _; omega
    · obtain ⟨⟨f2, s3⟩, eq3⟩ : ∃ r, s2.write nd x (hgt level) = r := ⟨_, rfl⟩
      have q3 := write_len s2 nd x (hgt level)
      rw [eq3] at q3 ⊢
      have q3' : s3.L.length ≤ s2.L.length + 2 := q3
      dsimp only
      split
      · show s3.L.length ≤ _; omega
      · obtain ⟨⟨f3, s4⟩, eq4⟩ : ∃ r, hangL nd (la.take (hgt level).toNat) (uw (nd + 2)) s3 = r := ⟨_, rfl⟩
        have q4 := hang_len nd (la.take (hgt level).toNat) (uw (nd + 2)) s3
        have q5 : (la.take (hgt level).toNat).length ≤ 8 := by rw [List.length_take]; omega
        rw [eq4] at q4 ⊢
        have q4' : s4.L.length ≤ s3.L.length + 2 * (la.take (hgt level).toNat).length := q4
        show s4.L.length ≤ _; omega
theorem rem_len (room at_ x : Int) : (s.rem room at_ x).2.L.length ≤ s.L.length + 131200 := by
  obtain ⟨⟨⟨la, e⟩, s1⟩, eq⟩ : ∃ r, s.search (pLt x) at_ = r := ⟨_, rfl⟩
  have q := (SrOk.of h eq).2.2.2
  have q8 := (SrOk.of h eq).2.1
  unfold Wd.rem
  rw [eq]
  dsimp only
  split
  · show s1.L.length ≤ _; omega
  · obtain ⟨⟨⟨n, f⟩, s2⟩, eq2⟩ : ∃ r, s1.levelOf (lk la 0).nd = r := ⟨_, rfl⟩
    have q2' : s2.L.length ≤ s1.L.length + 1 := (levelOf_ok (SrOk.of h eq).1 eq2).2.2.1
    rw [eq2]
    dsimp only
    split
    · show s2.L.length ≤ _; omega
    · obtain ⟨⟨f2, s3⟩, eq3⟩ : ∃ r, unhangL (la.take n.toNat) (uw ((lk la 0).nd + 2)) s2 = r := ⟨_, rfl⟩
      have q3 := unhang_len (la.take n.toNat) (uw ((lk la 0).nd + 2)) s2
      have q5 : (la.take n.toNat).length ≤ 8 := by rw [List.length_take]; omega
      rw [eq3] at q3 ⊢
      have q3' : s3.L.length ≤ s2.L.length + 2 * (la.take n.toNat).length := q3
      dsimp only
      split
      · show s3.L.length ≤ _; omega
      · obtain ⟨⟨f3, s4⟩, eq4⟩ : ∃ r, s3.give room (lk la 0).nd (uw (2 + n)) = r := ⟨_, rfl⟩
        have q4 := give_len s3 room (lk la 0).nd (uw (2 + n))
        rw [eq4] at q4 ⊢
        have q4' : s4.L.length ≤ s3.L.length + 3 := q4
        show s4.L.length ≤ _; omega
end
theorem eachL_len : ∀ (f : Nat) (out : List Int) (l : Lk) (e : Int) (n : Nat) (s : Wd), s.Ok → l.Ok → (eachL f out l e n s).2.L.length ≤ s.L.length + 2 * f
  | 0, out, l, e, n, s, _, _ => by show s.L.length ≤ _; omega
  | f + 1, out, l, e, n, s, hs, hl => by
    unfold eachL
    split
    · have q := fol_ok hs n (a := uw (l.nd + 2)) (uw_isW _)
      obtain ⟨⟨⟨l', e'⟩, n', s'⟩, eq⟩ : ∃ r, s.fol n (uw (l.nd + 2)) = r := ⟨_, rfl⟩
      rw [eq] at q ⊢
      have q2 : s'.L.length ≤ s.L.length + 2 := q.len
      have ih := eachL_len f (out ++ [l.k]) l' e' n' s' q.ok q.lk
      show (eachL f (out ++ [l.k]) l' e' n' s').2.L.length ≤ _
      omega
    · show s.L.length ≤ _; omega
theorem keys_len {s : Wd} (h : s.Ok) {at_ : Int} (hat : isW at_) : (s.keys at_).2.L.length ≤ s.L.length + 131200 := by
  have q := fol_ok h 0 hat
  obtain ⟨⟨⟨l, e⟩, n, s1⟩, eq⟩ : ∃ r, s.fol 0 at_ = r := ⟨_, rfl⟩
  rw [eq] at q
  have q2 : s1.L.length ≤ s.L.length + 2 := q.len
  have q3 := eachL_len FU [] l e n s1 q.ok q.lk
  have q4 : s.each at_ = eachL FU [] l e n s1 := by unfold Wd.each; rw [eq]
  obtain ⟨⟨⟨out, e'⟩, s2⟩, eq2⟩ : ∃ r, eachL FU [] l e n s1 = r := ⟨_, rfl⟩
  rw [eq2] at q3 q4
  have q5 : s2.L.length ≤ s1.L.length + 2 * FU := q3
  have q6 : 2 * FU = 131090 := rfl
  unfold Wd.keys
  rw [q4]
  dsimp only
  split <;> (show s2.L.length ≤ _; omega)
theorem rins_r {b g c : Nat} {s : Wd} {room at_ x level : Int} {b1 : Bool} {e1 : Int} {s1 : Wd} (heq : Hid (s.ins room at_ x level = ((b1, e1), s1))) (hro : isW room) (hat : isW at_) (hx : isW x) (rms : Rm s 131200) {w : World} (h : WdAt 30 w b g c s) :
    Calls Try.prog 33 #[.pointer (some ⟨b, 0, none⟩), .int .u64 room, .int .u64 at_, .int .u64 x, .int .i64 level] w fun e w' => e = .returned (.tuple #[.bool b1, .int .i64 e1]) ∧ Hs 30 w b g c w' s1 := by
  have q := rins_any b g c s room at_ x level hro hat hx rms w h
  rw [heq.out] at q
  exact q
theorem rrem_r {b g c : Nat} {s : Wd} {room at_ x : Int} {b1 : Bool} {e1 : Int} {s1 : Wd} (heq : Hid (s.rem room at_ x = ((b1, e1), s1))) (hat : isW at_) (rms : Rm s 131200) {w : World} (h : WdAt 30 w b g c s) :
    Calls Try.prog 34 #[.pointer (some ⟨b, 0, none⟩), .int .u64 room, .int .u64 at_, .int .u64 x] w fun e w' => e = .returned (.tuple #[.bool b1, .int .i64 e1]) ∧ Hs 30 w b g c w' s1 := by
  have q := rrem_any b g c s room at_ x hat rms w h
  rw [heq.out] at q
  exact q
theorem rhas_r {b g c : Nat} {s : Wd} {at_ x : Int} {b1 : Bool} {e1 : Int} {s1 : Wd} (heq : Hid (s.has at_ x = ((b1, e1), s1))) (hat : isW at_) (rms : Rm s 131090) {w : World} (h : WdAt 30 w b g c s) :
    Calls Try.prog 35 #[.pointer (some ⟨b, 0, none⟩), .int .u64 at_, .int .u64 x] w fun e w' => e = .returned (.tuple #[.bool b1, .int .i64 e1]) ∧ Hs 30 w b g c w' s1 := by
  have q := rhas_any b g c s at_ x hat rms w h
  rw [heq.out] at q
  exact q
theorem raft_r {b g c : Nat} {s : Wd} {at_ x : Int} {x1 : Int} {b1 : Bool} {e1 : Int} {s1 : Wd} (heq : Hid (s.aft at_ x = ((x1, b1, e1), s1))) (hat : isW at_) (rms : Rm s 131090) {w : World} (h : WdAt 30 w b g c s) :
    Calls Try.prog 37 #[.pointer (some ⟨b, 0, none⟩), .int .u64 at_, .int .u64 x] w fun e w' => e = .returned (.tuple #[.int .u64 x1, .bool b1, .int .i64 e1]) ∧ Hs 30 w b g c w' s1 := by
  have q := raft_any b g c s at_ x hat rms w h
  rw [heq.out] at q
  exact q
theorem aft_r {b g c : Nat} {s : Wd} {at_ x : Int} {x1 : Int} {b1 : Bool} {e1 : Int} {s1 : Wd} (heq : Hid (s.aft at_ x = ((x1, b1, e1), s1))) (hat : isW at_) (rms : Rm s 131090) {w : World} (h : WdAt 27 w b g c s) :
    Calls Try.prog 30 #[.iface 24 (.pointer (some ⟨b, 0, none⟩)), .int .u64 at_, .int .u64 x] w fun e w' => e = .returned (.tuple #[.int .u64 x1, .bool b1, .int .i64 e1]) ∧ Hs 27 w b g c w' s1 := by
  have q := aft_any b g c s at_ x hat rms w h
  rw [heq.out] at q
  exact q
theorem sfirst_r {b g c : Nat} {s : Wd} {at_ : Int} {x1 : Int} {b1 : Bool} {e1 : Int} {s1 : Wd} (heq : Hid (s.first at_ = ((x1, b1, e1), s1))) (hat : isW at_) (rms : Rm s 2) {w : World} (h : WdAt 27 w b g c s) :
    Calls Try.prog 29 #[.iface 24 (.pointer (some ⟨b, 0, none⟩)), .int .u64 at_] w fun e w' => e = .returned (.tuple #[.int .u64 x1, .bool b1, .int .i64 e1]) ∧ Hs 27 w b g c w' s1 := by
  have q := first_any b g c s at_ hat rms w h
  rw [heq.out] at q
  exact q
theorem rkeys_r {b g c : Nat} {s : Wd} {at_ e1 : Int} {L : List Int} {s1 : Wd} (heq : Hid (s.keys at_ = ((L, e1), s1))) (hat : isW at_) (rms : Rm s 131100) {w : World} (h : WdAt 30 w b g c s) :
    Calls Try.prog 38 #[.pointer (some ⟨b, 0, none⟩), .int .u64 at_] w fun e w' => ∃ v, e = .returned (.tuple #[v, .int .i64 e1]) ∧ Wr w' w.heap.size v L ∧ (∀ k, v.ownBlock = some k → ¬ own w' b g k) ∧ Hs 30 w b g c w' s1 := by
  have q := rkeys_any b g c s at_ hat rms w h
  rw [heq.out] at q
  exact q
end Go.Proofs.Ytjgibkofenkehaa
