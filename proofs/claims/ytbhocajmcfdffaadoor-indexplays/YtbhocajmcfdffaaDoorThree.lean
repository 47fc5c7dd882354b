/-
  Three tables of the program's beside three of the document's, each pair alike, or not there. No statement of the seat is proved here.
-/
import Derived.Test.YtbhocajmcfdffaaDoorPlayN
namespace Go.Proofs.YtbhocajmcfdffaaDoor
open Go.RowKit Go.Shelf

/-- Two pointers to tables that are alike, or to none. -/
def One (w X : World) (tp rp : Option Addr) (Own : Nat → Prop) (Z : Nat) : Prop :=
  (tp = none ∧ rp = none ∧ ∀ q, ¬ Own q) ∨ ∃ (bt br p : Nat) (K : List (Option Int)) (O : List Int) (uf : Int → Int) (Ot Or : Nat → Prop), tp = some ⟨bt, 0, none⟩ ∧ rp = some ⟨br, 0, none⟩ ∧ Pair w X bt br p K O uf Ot Or ∧ (∀ q, Own q ↔ Ot q ∨ Or q) ∧ O.length ≤ Z ∧ p ≤ 42

section
variable {w X Y : World} {tp rp : Option Addr} {Own : Nat → Prop} {Z : Nat}
theorem One.lt (h : One w X tp rp Own Z) {q : Nat} (hq : Own q) : q < X.heap.size := by
  rcases h with ⟨_, _, h⟩ | ⟨bt, br, p, K, O, uf, Ot, Or, _, _, hP, hO, _⟩
  · exact (h q hq).elim
  · rcases (hO q).1 hq with e | e
    · exact hP.t.lt e
    · exact hP.r.lt e
theorem One.mono {Z' : Nat} (h : One w X tp rp Own Z) (hZ : Z ≤ Z') : One w X tp rp Own Z' := by
  rcases h with h | ⟨bt, br, p, K, O, uf, Ot, Or, h1, h2, h3, h4, h5, h6⟩
  · exact .inl h
  · exact .inr ⟨bt, br, p, K, O, uf, Ot, Or, h1, h2, h3, h4, by omega, h6⟩
/-- What turns other blocks alone leaves it be. -/
theorem One.kept {S : Nat → Prop} (h : One w X tp rp Own Z) (hk : Keeps S X Y) (hS : ∀ q, Own q → ¬ S q) (hB : Below w.heap.size w Y) : One w Y tp rp Own Z := by
  rcases h with h | ⟨bt, br, p, K, O, uf, Ot, Or, h1, h2, h3, h4, h5, h6⟩
  · exact .inl h
  · exact .inr ⟨bt, br, p, K, O, uf, Ot, Or, h1, h2, ⟨h3.t.kept hk (fun q hq => hS q ((h4 q).2 (.inl hq))), h3.r.kept hk (fun q hq => hS q ((h4 q).2 (.inr hq))), h3.bt, h3.br, h3.apart, hB⟩, h4, h5, h6⟩
theorem One.free (h : One w X tp rp Own Z) {q : Nat} {c : Array Value} {t : TypeId} {fr : Nat × Nat} (hq : X.heap[q]? = some (.cells c t fr)) (ht : t ∉ ownT) : ¬ Own q := by
  rcases h with ⟨_, _, h⟩ | ⟨bt, br, p, K, O, uf, Ot, Or, h1, h2, h3, h4, h5, h6⟩
  · exact h q
  · exact fun e => h3.free hq ht ((h4 q).1 e)
/-- A step. -/
theorem One.plays (h : One w X tp rp Own Z) (hw : Tz w) (hB : Below w.heap.size w X) (hZ : Z < 3298534883328) (kind who to leave key value : Int) :
    Calls Tryd.prog 14 #[.pointer tp, .pointer rp, stepV kind who to leave key value] X fun e Y => e = .returned (.bool true) ∧ Below w.heap.size w Y ∧ ∃ Own', One w Y tp rp Own' (Z + 1) ∧ Keeps Own X Y ∧ ∀ q, Own' q → Own q ∨ X.heap.size ≤ q := by
  rcases h with ⟨rfl, rfl, hO⟩ | ⟨bt, br, p, K, O, uf, Ot, Or, rfl, rfl, hP, hO, hl, hp⟩
  · refine (plays_nil X kind who to leave key value).mono ?_
    rintro e Y ⟨rfl, hb⟩
    exact ⟨rfl, hB.trans (hb.mono hB.size), Own, .inl ⟨rfl, rfl, hO⟩, Keeps.of_below hb _, fun q hq => .inl hq⟩
  · refine (plays_any w X bt br p K O uf Ot Or hP hw kind who to leave key value (by omega) hp).mono ?_
    rintro e Y ⟨rfl, p', K', O', uf', Ot', Or', h1, h2, h3, h4, h5⟩
    exact ⟨rfl, h1.below, fun q => Ot' q ∨ Or' q, .inr ⟨bt, br, p', K', O', uf', Ot', Or', rfl, rfl, h1, fun q => Iff.rfl, by omega, h5⟩, h2.mono (fun q _ e => (hO q).2 e), fun q hq => (h3 q hq).imp (hO q).2 id⟩
theorem One.tells (h : One w X tp rp Own Z) (hw : Tz w) (hZ : Z < 3298534883328) (key : Int) :
    Calls Tryd.prog 15 #[.pointer tp, .pointer rp, .int .u64 key] X fun e Y => e = .returned (.bool true) ∧ Below X.heap.size X Y := by
  rcases h with ⟨rfl, rfl, hO⟩ | ⟨bt, br, p, K, O, uf, Ot, Or, rfl, rfl, hP, hO, hl, hp⟩
  · exact tells_nil X key
  · exact tells_at w X bt br p K O uf Ot Or hP hw key (by omega)
/-- The program's copy: then the document's gives a pair again. -/
theorem One.copy (h : One w X tp rp Own Z) (hw : Tz w) (hB : Below w.heap.size w X) :
    Calls Tryd.prog 12 #[.pointer tp] X fun e Y => Below X.heap.size X Y ∧ ∃ tp', e = .returned (.pointer tp') ∧ ∀ (V : World) (B : Nat), Keeps (fun q => q = B) Y V → (B < w.heap.size → False) → ¬ Own B → B < X.heap.size →
      Calls Tryd.prog 13 #[.pointer rp] V fun e U => Below V.heap.size V U ∧ ∃ rp', e = .returned (.pointer rp') ∧ (tp' = none ↔ rp' = none) ∧ ∃ Own', One w U tp' rp' Own' Z ∧ ∀ q, Own' q → X.heap.size ≤ q := by
  rcases h with ⟨rfl, rfl, hO⟩ | ⟨bt, br, p, K, O, uf, Ot, Or, rfl, rfl, hP, hO, hl, hp⟩
  · refine (U.copy_no none X (.inl rfl)).mono ?_
    rintro e Y ⟨rfl, hb⟩
    refine ⟨hb, none, rfl, fun V B _ _ _ _ => ?_⟩
    refine (R.copy_nil V).mono ?_
    rintro e U ⟨rfl, rfl⟩
    exact ⟨Below.refl _ _, none, rfl, Iff.rfl, fun _ => False, .inl ⟨rfl, rfl, fun _ f => f⟩, fun _ f => f.elim⟩
  · refine (U.hold_copy bt p K O uf Ot X hP.t (hw.below hP.below)).mono ?_
    rintro e Y ⟨b', rfl, ⟨Ot', hHt, hOt⟩, hk⟩
    have hbY := hk.below _ (Nat.le_refl _) (fun _ f => f.elim)
    refine ⟨hbY, some ⟨b', 0, none⟩, rfl, fun V B hkV hBw hBO hBX => ?_⟩
    have hrY := hP.r.kept hk (fun _ _ f => f)
    have hrV := hrY.kept hkV (fun q hq e => hBO ((hO B).2 (.inr (e ▸ hq))))
    have htV := hHt.kept hkV (fun q hq e => by have := hOt q hq; omega)
    have hzV := hkV.size
    have hzY := hk.size
    have hzX := hB.size
    have h0 := hw.pos'
    have hBV : Below w.heap.size w V := (hB.trans (hbY.mono hzX)).trans (hkV.below _ (by omega) (fun q e => Nat.le_of_not_lt (e ▸ hBw)))
    refine (R.hold_copy br p K O uf Or V hrV (by omega) (by omega)).mono ?_
    rintro e U ⟨br', rfl, ⟨Or', hHr, hOr⟩, hk2⟩
    have hbU := hk2.below _ (Nat.le_refl _) (fun _ f => f.elim)
    refine ⟨hbU, some ⟨br', 0, none⟩, rfl, by simp, fun q => Ot' q ∨ Or' q, .inr ⟨b', br', p, K, O, uf, Ot', Or', rfl, rfl, ⟨htV.kept hk2 (fun _ _ f => f), hHr, fun q hq => by have := hOt q hq; omega, fun q hq => by have := hOr q hq; omega, fun q hq hu => ?_, hBV.trans (hbU.mono hBV.size)⟩, fun q => Iff.rfl, hl, hp⟩, fun q hq => ?_⟩
    · have := htV.lt hq
      have := hOr q hu
      omega
    · rcases hq with hq | hq
      · exact hOt q hq
      · have := hOr q hq; omega
end

/-- Three of them, apart. -/
def Tabs (w X : World) (tp rp : Nat → Option Addr) (Z : Nat) : Prop :=
  Below w.heap.size w X ∧ ∃ Own : Nat → Nat → Prop, (∀ i, i < 3 → One w X (tp i) (rp i) (Own i) Z) ∧ ∀ i j, i < 3 → j < 3 → i ≠ j → ∀ q, Own i q → ¬ Own j q

section
variable {w X Y : World} {tp rp : Nat → Option Addr} {Z : Nat}
theorem Tabs.plays (h : Tabs w X tp rp Z) (hw : Tz w) (hZ : Z < 3298534883328) {i : Nat} (hi : i < 3) (kind who to leave key value : Int) :
    Calls Tryd.prog 14 #[.pointer (tp i), .pointer (rp i), stepV kind who to leave key value] X fun e Y => e = .returned (.bool true) ∧ Tabs w Y tp rp (Z + 1) ∧ ∀ (q : Nat) (c : Array Value) (t : TypeId), X.heap[q]? = some (Obj.cells c t (0, 0)) → t ∉ ownT → Y.heap[q]? = some (Obj.cells c t (0, 0)) := by
  obtain ⟨hB, Own, h1, h2⟩ := h
  refine ((h1 i hi).plays hw hB hZ kind who to leave key value).mono ?_
  rintro e Y ⟨rfl, hBY, Own', h3, h4, h5⟩
  refine ⟨rfl, ⟨hBY, fun j => if j = i then Own' else Own j, fun j hj => ?_, fun j k hj hk hne q hq hq' => ?_⟩, fun q c t hq ht => h4.old hq ((h1 i hi).free hq ht)⟩
  · by_cases e : j = i
    · subst e
      simp only [if_true]
      exact h3
    · simp only [if_neg e]
      exact ((h1 j hj).kept h4 (fun q hq hq' => h2 j i hj hi e q hq hq') hBY).mono (by omega)
  · have hnew : ∀ m, m < 3 → m ≠ i → ∀ q, Own' q → ¬ Own m q := fun m hm hmi q a b => by
      rcases h5 q a with a | a
      · exact h2 m i hm hi hmi q b a
      · have := (h1 m hm).lt b; omega
    by_cases e : j = i
    · have e' : k ≠ i := fun x => hne (e.trans x.symm)
      simp only [if_pos e] at hq
      simp only [if_neg e'] at hq'
      exact hnew k hk e' q hq hq'
    · simp only [if_neg e] at hq
      by_cases e' : k = i
      · simp only [if_pos e'] at hq'
        exact hnew j hj e q hq' hq
      · simp only [if_neg e'] at hq'
        exact h2 j k hj hk hne q hq hq'
theorem Tabs.tells (h : Tabs w X tp rp Z) (hw : Tz w) (hZ : Z < 3298534883328) {i : Nat} (hi : i < 3) (key : Int) :
    Calls Tryd.prog 15 #[.pointer (tp i), .pointer (rp i), .int .u64 key] X fun e Y => e = .returned (.bool true) ∧ Below X.heap.size X Y := by
  obtain ⟨hB, Own, h1, h2⟩ := h
  exact (h1 i hi).tells hw hZ key
theorem Tabs.below (h : Tabs w X tp rp Z) (hb : Below X.heap.size X Y) : Tabs w Y tp rp Z := by
  obtain ⟨hB, Own, h1, h2⟩ := h
  have hBY := hB.trans (hb.mono hB.size)
  exact ⟨hBY, Own, fun i hi => (h1 i hi).kept (Keeps.of_below hb (fun _ => False)) (fun _ _ f => f) hBY, h2⟩
end
end Go.Proofs.YtbhocajmcfdffaaDoor
