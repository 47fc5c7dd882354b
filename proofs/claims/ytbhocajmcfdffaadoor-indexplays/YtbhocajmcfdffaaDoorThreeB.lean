/-
  The two arrays of three pointers, a copy that takes a place, and 'place'. No statement of the seat is proved here.
-/
import Derived.Test.YtbhocajmcfdffaaDoorThree
namespace Go.Proofs.YtbhocajmcfdffaaDoor
open Go.RowKit Go.Shelf

def arr3 (tp : Nat → Option Addr) : Array Value := #[.pointer (tp 0), .pointer (tp 1), .pointer (tp 2)]
def updN (f : Nat → Option Addr) (i : Nat) (a : Option Addr) : Nat → Option Addr := fun j => if j = i then a else f j
theorem arr_get (tp : Nat → Option Addr) {i : Nat} (h : i < 3) : (arr3 tp)[i]? = some (.pointer (tp i)) := by
  have : i = 0 ∨ i = 1 ∨ i = 2 := by omega
  rcases this with rfl | rfl | rfl <;> rfl
theorem arr_set (tp : Nat → Option Addr) {i : Nat} (h : i < 3) (a : Option Addr) : (arr3 tp).setIfInBounds i (.pointer a) = arr3 (updN tp i a) := by
  have : i = 0 ∨ i = 1 ∨ i = 2 := by omega
  rcases this with rfl | rfl | rfl <;> rfl

/-- The arrays. -/
structure Arr (At Ar : Nat) (tp rp : Nat → Option Addr) (X : World) : Prop where
  t : X.heap[At]? = some (.cells (arr3 tp) 26 (0, 0))
  r : X.heap[Ar]? = some (.cells (arr3 rp) 29 (0, 0))

theorem Arr.turn {At Ar : Nat} {tp rp : Nat → Option Addr} {X Y : World} (h : Arr At Ar tp rp X) (hb : ∀ (q : Nat) (c : Array Value) (t : TypeId), X.heap[q]? = some (Obj.cells c t (0, 0)) → t ∉ ownT → Y.heap[q]? = some (Obj.cells c t (0, 0))) : Arr At Ar tp rp Y :=
  ⟨hb _ _ _ h.t (by decide), hb _ _ _ h.r (by decide)⟩
theorem Arr.below {At Ar : Nat} {tp rp : Nat → Option Addr} {X Y : World} (h : Arr At Ar tp rp X) (hb : Below X.heap.size X Y) : Arr At Ar tp rp Y :=
  h.turn (fun q _ _ hq _ => (hb.block q (lt_of_block hq)).trans hq)
theorem Arr.ne {At Ar : Nat} {tp rp : Nat → Option Addr} {X : World} (h : Arr At Ar tp rp X) : At ≠ Ar := fun e => by
  have h1 := h.t
  rw [e, h.r] at h1
  injection h1 with h1
  injection h1 with _ h2
  exact absurd h2 (by decide)

theorem Tabs.copy {w X : World} {tp rp : Nat → Option Addr} {Z : Nat} (h : Tabs w X tp rp Z) (hw : Tz w) {At Ar : Nat} (ha : Arr At Ar tp rp X) (hAt : w.heap.size ≤ At) (hAr : w.heap.size ≤ Ar) {i j : Nat} (hi : i < 3) (hj : j < 3) :
    Calls Tryd.prog 12 #[.pointer (tp i)] X fun e Y => ∃ tp', e = .returned (.pointer tp') ∧ Arr At Ar tp rp Y ∧ Below X.heap.size X Y ∧
      Calls Tryd.prog 13 #[.pointer (rp i)] (Y.setCell ⟨At, j, none⟩ (.pointer tp')) fun e U => ∃ rp', e = .returned (.pointer rp') ∧ (tp' = none ↔ rp' = none) ∧ Arr At Ar (updN tp j tp') rp U ∧
        Below (Y.setCell ⟨At, j, none⟩ (.pointer tp')).heap.size (Y.setCell ⟨At, j, none⟩ (.pointer tp')) U ∧
        Tabs w (U.setCell ⟨Ar, j, none⟩ (.pointer rp')) (updN tp j tp') (updN rp j rp') Z ∧ Arr At Ar (updN tp j tp') (updN rp j rp') (U.setCell ⟨Ar, j, none⟩ (.pointer rp')) := by
  obtain ⟨hB, Own, h1, h2⟩ := h
  have hne := ha.ne
  refine ((h1 i hi).copy hw hB).mono ?_
  rintro e Y ⟨hbY, tp', rfl, hnext⟩
  have haY := ha.below hbY
  refine ⟨tp', rfl, haY, hbY, ?_⟩
  have hkV : Keeps (fun q => q = At) Y (Y.setCell ⟨At, j, none⟩ (.pointer tp')) := Keeps.setCell (S := fun q => q = At) (Keeps.refl _ Y) (p := ⟨At, j, none⟩) (.inr rfl) _
  have haV : Arr At Ar (updN tp j tp') rp (Y.setCell ⟨At, j, none⟩ (.pointer tp')) :=
    ⟨by rw [← arr_set tp hj tp']; exact block_set haY.t j _, block_other haY.r (Ne.symm hne) j _⟩
  have hltA := lt_of_block ha.t
  have hltR := lt_of_block ha.r
  refine (hnext _ At hkV (fun e => by omega) ((h1 i hi).free ha.t (by decide)) hltA).mono ?_
  rintro e U ⟨hbU, rp', rfl, hiff, Own', hOne, hOwn⟩
  have haU := haV.below hbU
  have haF : Arr At Ar (updN tp j tp') (updN rp j rp') (U.setCell ⟨Ar, j, none⟩ (.pointer rp')) :=
    ⟨block_other haU.t hne j _, by rw [← arr_set rp hj rp']; exact block_set haU.r j _⟩
  refine ⟨rp', rfl, hiff, haU, hbU, ?_, haF⟩
  have hkF : Keeps (fun q => q = Ar) U (U.setCell ⟨Ar, j, none⟩ (.pointer rp')) := Keeps.setCell (S := fun q => q = Ar) (Keeps.refl _ U) (p := ⟨Ar, j, none⟩) (.inr rfl) _
  have hk : Keeps (fun q => q = At ∨ q = Ar) X (U.setCell ⟨Ar, j, none⟩ (.pointer rp')) :=
    (((Keeps.of_below hbY (fun q => q = At ∨ q = Ar)).step hkV (fun _ _ e => .inl e)).step (Keeps.of_below hbU (fun _ => False)) (fun _ _ f => f.elim)).step hkF (fun _ _ e => .inr e)
  have hBF : Below w.heap.size w (U.setCell ⟨Ar, j, none⟩ (.pointer rp')) := hB.trans (hk.below _ hB.size (fun q e => by rcases e with rfl | rfl <;> assumption))
  refine ⟨hBF, fun m => if m = j then Own' else Own m, fun m hm => ?_, fun m k hm hk' hne' q hq hq' => ?_⟩
  · by_cases e : m = j
    · subst e
      simp only [updN, if_true]
      exact hOne.kept hkF (fun q hq e => by have := hOwn q hq; omega) hBF
    · simp only [updN, if_neg e]
      exact (h1 m hm).kept hk (fun q hq e => by
        rcases e with rfl | rfl
        · exact (h1 m hm).free ha.t (by decide) hq
        · exact (h1 m hm).free ha.r (by decide) hq) hBF
  · have hnew : ∀ m, m < 3 → ∀ q, Own' q → ¬ Own m q := fun m hm q a b => by
      have := hOwn q a
      have := (h1 m hm).lt b
      omega
    by_cases e : m = j
    · have e' : k ≠ j := fun x => hne' (e.trans x.symm)
      simp only [if_pos e] at hq
      simp only [if_neg e'] at hq'
      exact hnew k hk' q hq hq'
    · simp only [if_neg e] at hq
      by_cases e' : k = j
      · simp only [if_pos e'] at hq'
        exact hnew m hm q hq' hq
      · simp only [if_neg e'] at hq'
        exact h2 m k hm hk' hne' q hq hq'

/-- A number's place. -/
def placeN (n : Int) : Nat := (n % 3).toNat
theorem place_lt (n : Int) : placeN n < 3 := by unfold placeN; omega
set_option maxHeartbeats 400000 in
theorem place_at (n : Int) (w : World) : Calls Tryd.prog 11 #[.int .i64 n] w fun e w' => e = .returned (.int .i64 (placeN n)) ∧ w' = w := by
  have ht : -3 < n.tmod 3 ∧ n.tmod 3 < 3 ∧ (n.tmod 3 = n % 3 ∨ (n.tmod 3 = n % 3 - 3 ∧ n % 3 ≠ 0)) := by
    have h := @Int.tmod_eq_emod n 3
    split at h
    · omega
    · simp only [show ((3 : Int).natAbs : Int) = 3 from rfl] at h
      omega
  have hm : IntKind.i64.wrap (n.tmod 3) = n.tmod 3 := by rw [IntKind.wrap_i64]; omega
  by_cases h : n.tmod 3 < 0
  · have hp : n.tmod 3 + 3 = placeN n := by unfold placeN; omega
    have hm2 : IntKind.i64.wrap (n.tmod 3 + 3) = n.tmod 3 + 3 := by rw [IntKind.wrap_i64]; omega
    clear ht
    go_enter Tryd.func11, Tryd.ntmps11
    go_wp2
    go_ret
    exact ⟨by go_num, rfl⟩
  · have hp : n.tmod 3 = placeN n := by unfold placeN; omega
    clear ht
    go_enter Tryd.func11, Tryd.ntmps11
    go_wp2
    go_ret
    exact ⟨by go_num, rfl⟩
end Go.Proofs.YtbhocajmcfdffaaDoor
