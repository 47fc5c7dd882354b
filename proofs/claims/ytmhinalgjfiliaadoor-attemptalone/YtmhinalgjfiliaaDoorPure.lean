
/-
  A table of slots as a list: looking for a key, putting one, freeing a slot and letting keys move up; what stays true of it. No program, and no statement of the seat.
-/
import Derived.WalkKit
namespace Go.Proofs.YtmhinalgjfiliaaDoor

/-- Slot x: free, or a key. -/
def sl (K : List (Option Int)) (x : Nat) : Option Int := K[x]?.getD none
/-- Behind the last slot comes the first one. -/
def wrapN (n x : Nat) : Nat := if x < n then x else x - n
/-- How many slots of a walk from slot a lie ahead of slot x. -/
def farN (n a x : Nat) : Nat := if a ≤ x then x - a else x + n - a

theorem sl_set {K : List (Option Int)} {i : Nat} (hi : i < K.length) (v : Option Int) (x : Nat) : sl (K.set i v) x = if x = i then v else sl K x := by
  unfold sl
  rw [List.getElem?_set]
  by_cases h : i = x
  · subst h; simp [hi]
  · rw [if_neg h, if_neg (fun e => h e.symm)]

theorem sl_none_of_le {K : List (Option Int)} {x : Nat} (h : K.length ≤ x) : sl K x = none := by
  unfold sl
  rw [List.getElem?_eq_none h]
  rfl
theorem lt_of_sl {K : List (Option Int)} {x : Nat} {k : Int} (h : sl K x = some k) : x < K.length := by
  rcases Nat.lt_or_ge x K.length with h1 | h1
  · exact h1
  · rw [sl_none_of_le h1] at h; cases h
theorem get_of_lt {K : List (Option Int)} {x : Nat} (h : x < K.length) : K[x]? = some (sl K x) := by
  unfold sl
  rw [List.getElem?_eq_getElem h]
  rfl
theorem sl_replicate (n x : Nat) : sl (List.replicate n none) x = none := by
  unfold sl
  rw [List.getElem?_replicate]
  split <;> rfl

/-- The first place of a walk that meets p, in so many steps at the most. -/
def walkTo (p : Nat → Bool) (n : Nat) : Nat → Nat → Nat
  | 0, _ => 0
  | f + 1, x => if p x then 0 else walkTo p n f (wrapN n (x + 1)) + 1

theorem wrap_lt {n x : Nat} (h : x < n + n) : wrapN n x < n := by unfold wrapN; split <;> omega
theorem wrap_step {n x j : Nat} (h : x < n) (hj : j < n) : wrapN n (wrapN n (x + 1) + j) = wrapN n (x + (j + 1)) := by
  unfold wrapN
  by_cases h1 : x + 1 < n
  · rw [if_pos h1]; split <;> split <;> omega
  · rw [if_neg h1]; split <;> split <;> omega

theorem walkTo_spec (p : Nat → Bool) (n : Nat) : ∀ (f x : Nat), x < n → f ≤ n → (∃ j, j < f ∧ p (wrapN n (x + j)) = true) →
    walkTo p n f x < f ∧ p (wrapN n (x + walkTo p n f x)) = true ∧ ∀ j, j < walkTo p n f x → p (wrapN n (x + j)) = false := by
  intro f
  induction f with
  | zero => rintro x _ _ ⟨j, hj, _⟩; omega
  | succ f ih =>
    rintro x hx hf ⟨j, hj, hp⟩
    have hx0 : wrapN n (x + 0) = x := by unfold wrapN; rw [if_pos (by omega)]; rfl
    by_cases h0 : p x = true
    · have hw : walkTo p n (f + 1) x = 0 := by simp [walkTo, h0]
      rw [hw, hx0]
      exact ⟨by omega, h0, fun j hj => by omega⟩
    · have hw : walkTo p n (f + 1) x = walkTo p n f (wrapN n (x + 1)) + 1 := by simp [walkTo, h0]
      have hj0 : j ≠ 0 := by rintro rfl; rw [hx0] at hp; exact h0 hp
      obtain ⟨h1, h2, h3⟩ := ih (wrapN n (x + 1)) (wrap_lt (by omega)) (by omega) ⟨j - 1, by omega, by rw [wrap_step hx (by omega), Nat.sub_add_cancel (by omega)]; exact hp⟩
      rw [hw]
      refine ⟨by omega, ?_, ?_⟩
      · rw [wrap_step hx (by omega)] at h2; exact h2
      · intro i hi
        cases i with
        | zero => rw [hx0]; simpa using h0
        | succ i =>
          have := h3 i (by omega)
          rw [wrap_step hx (by omega)] at this
          exact this

/-- A look for k ends here. -/
def ends (K : List (Option Int)) (k : Int) (x : Nat) : Bool := match sl K x with
  | none => true
  | some k' => decide (k' = k)

theorem ends_none {K : List (Option Int)} {k : Int} {x : Nat} (h : sl K x = none) : ends K k x = true := by simp [ends, h]
theorem ends_some {K : List (Option Int)} {k k' : Int} {x : Nat} (h : sl K x = some k') : ends K k x = decide (k' = k) := by simp [ends, h]

/-- How far a look for a key goes. -/
def lookN (n : Nat) (K : List (Option Int)) (a : Nat) (k : Int) : Nat := walkTo (ends K k) n n a
/-- The slot at which it ends. -/
def slotN (n : Nat) (K : List (Option Int)) (a : Nat) (k : Int) : Nat := wrapN n (a + lookN n K a k)

theorem far_wrap {n a d : Nat} (ha : a < n) (hd : d < n) : farN n a (wrapN n (a + d)) = d := by
  unfold farN wrapN
  by_cases h : a + d < n
  · rw [if_pos h, if_pos (by omega)]; omega
  · rw [if_neg h, if_neg (by omega)]; omega
theorem wrap_far {n a x : Nat} (ha : a < n) (hx : x < n) : wrapN n (a + farN n a x) = x := by
  unfold farN wrapN
  by_cases h : a ≤ x
  · rw [if_pos h, if_pos (by omega)]; omega
  · rw [if_neg h, if_neg (by omega)]; omega
theorem far_lt {n a x : Nat} (ha : a < n) (hx : x < n) : farN n a x < n := by unfold farN; split <;> omega

/-- What stays true of a table: its slots, its keys in the order of coming. -/
structure Inv (n : Nat) (h : Int → Nat) (K : List (Option Int)) (O : List Int) : Prop where
  home : ∀ k, h k < n
  len : K.length = n
  mem : ∀ k, k ∈ O ↔ ∃ x, sl K x = some k
  inj : ∀ x y k, sl K x = some k → sl K y = some k → x = y
  nodup : O.Nodup
  probe : ∀ x y k, y < n → sl K x = some k → farN n (h k) y < farN n (h k) x → sl K y ≠ none
  cnt : K.countP Option.isSome = O.length
  few : O.length < n

section
variable {n : Nat} {h : Int → Nat} {K : List (Option Int)} {O : List Int}

theorem Inv.free (I : Inv n h K O) : ∃ z, z < n ∧ sl K z = none := by
  apply Classical.byContradiction
  intro hc
  have hall : ∀ v ∈ K, v.isSome = true := by
    intro v hv
    obtain ⟨x, hx, rfl⟩ := List.getElem_of_mem hv
    cases hv' : K[x] with
    | some _ => rfl
    | none =>
      exact absurd ⟨x, by rw [← I.len]; exact hx, by unfold sl; rw [List.getElem?_eq_getElem hx, hv']; rfl⟩ hc
  have := List.countP_eq_length.2 hall
  rw [I.cnt, I.len] at this
  have := I.few
  omega

theorem look_spec {a : Nat} (ha : a < n) (k : Int) (hz : ∃ z, z < n ∧ sl K z = none) :
    lookN n K a k < n ∧ ends K k (slotN n K a k) = true ∧ ∀ j, j < lookN n K a k → ends K k (wrapN n (a + j)) = false := by
  obtain ⟨z, hz, hn⟩ := hz
  exact walkTo_spec (ends K k) n n a ha (Nat.le_refl _) ⟨farN n a z, far_lt ha hz, by rw [wrap_far ha hz]; exact ends_none hn⟩

theorem slot_lt {a : Nat} (ha : a < n) (k : Int) (hz : ∃ z, z < n ∧ sl K z = none) : slotN n K a k < n := by
  have := (look_spec ha k hz).1
  exact wrap_lt (by omega)

theorem Inv.slot_in (I : Inv n h K O) {k : Int} (hk : k ∈ O) : sl K (slotN n K (h k) k) = some k := by
  obtain ⟨x, hx⟩ := (I.mem k).1 hk
  have hxn : x < n := by rw [← I.len]; exact lt_of_sl hx
  have hh := I.home k
  obtain ⟨h1, h2, h3⟩ := look_spec hh k I.free
  rcases Nat.lt_trichotomy (lookN n K (h k) k) (farN n (h k) x) with hlt | heq | hgt
  · have hp := I.probe x (slotN n K (h k) k) k (slot_lt hh k I.free) hx (by unfold slotN; rw [far_wrap hh h1]; exact hlt)
    cases hs : sl K (slotN n K (h k) k) with
    | none => exact absurd hs hp
    | some k' =>
      rw [ends_some hs] at h2
      rw [of_decide_eq_true h2]
  · unfold slotN
    rw [heq, wrap_far hh hxn]
    exact hx
  · have := h3 _ hgt
    rw [wrap_far hh hxn, ends_some hx] at this
    simp at this

theorem Inv.slot_out (I : Inv n h K O) {k : Int} (hk : k ∉ O) : sl K (slotN n K (h k) k) = none := by
  obtain ⟨h1, h2, h3⟩ := look_spec (I.home k) k I.free
  cases hs : sl K (slotN n K (h k) k) with
  | none => rfl
  | some k' =>
    rw [ends_some hs] at h2
    obtain rfl := of_decide_eq_true h2
    exact absurd ((I.mem k').2 ⟨_, hs⟩) hk

theorem Inv.put (I : Inv n h K O) {k : Int} (hk : k ∉ O) (hf : O.length + 1 < n) : Inv n h (K.set (slotN n K (h k) k) (some k)) (O ++ [k]) := by
  have hh := I.home k
  have hs := I.slot_out hk
  have hl := slot_lt hh k I.free
  obtain ⟨h1, h2, h3⟩ := look_spec hh k I.free
  have hset := sl_set (K := K) (i := slotN n K (h k) k) (by rw [I.len]; exact hl) (some k)
  refine ⟨I.home, by rw [List.length_set, I.len], ?_, ?_, ?_, ?_, ?_, by simp; omega⟩
  · intro q
    simp only [List.mem_append, List.mem_singleton]
    constructor
    · rintro (hq | rfl)
      · obtain ⟨x, hx⟩ := (I.mem q).1 hq
        refine ⟨x, ?_⟩
        rw [hset, if_neg (by rintro rfl; rw [hs] at hx; cases hx)]
        exact hx
      · exact ⟨slotN n K (h q) q, by rw [hset, if_pos rfl]⟩
    · rintro ⟨x, hx⟩
      rw [hset] at hx
      split at hx
      · right; injection hx with e; exact e.symm
      · left; exact (I.mem q).2 ⟨x, hx⟩
  · intro x y q hx hy
    rw [hset] at hx hy
    split at hx <;> split at hy
    · omega
    · injection hx with e; subst e; exact absurd ((I.mem k).2 ⟨_, hy⟩) hk
    · injection hy with e; subst e; exact absurd ((I.mem k).2 ⟨_, hx⟩) hk
    · exact I.inj x y q hx hy
  · rw [List.nodup_append]
    exact ⟨I.nodup, by simp, fun a ha b hb => by simp at hb; subst hb; exact fun e => hk (e ▸ ha)⟩
  · intro x y q hy hx hfar
    rw [hset] at hx ⊢
    split
    · simp
    · rename_i hne
      split at hx
      · rename_i hxe
        injection hx with e
        subst e
        rw [hxe] at hfar
        unfold slotN at hfar
        rw [far_wrap hh h1] at hfar
        have := h3 _ hfar
        rw [wrap_far hh hy] at this
        intro hn
        rw [ends_none hn] at this
        cases this
      · exact I.probe x y q hy hx hfar
  · rw [List.countP_set (by rw [I.len]; exact hl), I.cnt]
    have : K[slotN n K (h k) k]'(by rw [I.len]; exact hl) = none := by
      have := get_of_lt (K := K) (x := slotN n K (h k) k) (by rw [I.len]; exact hl)
      rw [List.getElem?_eq_getElem (by rw [I.len]; exact hl), hs] at this
      injection this
    simp [this]

theorem Inv.empty (hh : ∀ k, h k < n) (hn : 0 < n) : Inv n h (List.replicate n none) [] :=
  ⟨hh, by simp, fun k => by simp [sl_replicate], fun x y k hx => by simp [sl_replicate] at hx, by simp, fun x y k _ hx => by simp [sl_replicate] at hx, by
    simp [List.countP_replicate], by simpa using hn⟩

/-- All keys put anew, in their order. -/
def fillN (n : Nat) (h : Int → Nat) (O : List Int) : List (Option Int) := O.foldl (fun K k => K.set (slotN n K (h k) k) (some k)) (List.replicate n none)
theorem fillN_snoc (n : Nat) (h : Int → Nat) (O : List Int) (k : Int) : fillN n h (O ++ [k]) = (fillN n h O).set (slotN n (fillN n h O) (h k) k) (some k) := by simp [fillN]

theorem nodup_snoc {O : List Int} {k : Int} (h : (O ++ [k]).Nodup) : O.Nodup ∧ k ∉ O := by
  rw [List.nodup_append] at h
  exact ⟨h.1, fun hk => h.2.2 k hk k (by simp) rfl⟩

theorem Inv.fill (hh : ∀ k, h k < n) (hn : 0 < n) : ∀ (m : Nat) (O : List Int), O.length = m → O.Nodup → O.length < n → Inv n h (fillN n h O) O := by
  intro m
  induction m with
  | zero =>
    intro O hm _ _
    obtain rfl := List.eq_nil_of_length_eq_zero hm
    exact Inv.empty hh hn
  | succ m ih =>
    intro O hm hd hf
    rcases List.eq_nil_or_concat O with rfl | ⟨O', k, rfl⟩
    · simp at hm
    · rw [List.concat_eq_append] at hd hm hf ⊢
      obtain ⟨hd', hk⟩ := nodup_snoc hd
      simp at hm hf
      rw [fillN_snoc]
      exact (ih O' hm hd' (by omega)).put hk (by omega)

end
end Go.Proofs.YtmhinalgjfiliaaDoor
