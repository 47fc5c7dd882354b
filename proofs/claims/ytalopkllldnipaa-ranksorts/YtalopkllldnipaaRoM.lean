/-
  No statement of the seat is proved here. (Several texts in one: RoA, RoB.)
-/
import Derived.Test.YtalopkllldnipaaRkP

/- Calls whose tx fails at one access (layer 24), pure: how such calls are put together. No statement of the seat is proved here. -/
namespace Go.Proofs.Ytalopkllldnipaa
open Go.RowKit

theorem get_no {s : Wd} (h : s.f < 0) (a : Int) : s.get a = if (s.W.length : Int) ≤ a then ((0, 4), s.gt) else ((oat s.W a.toNat, 0), s.gt) := by
  unfold Wd.get
  rw [if_neg]
  unfold Wd.fl
  simp only [Bool.and_eq_true, decide_eq_true_eq]
  rintro ⟨q, _⟩
  have : (s.gt).f = s.f := rfl
  omega
/-- So many accesses there were. -/
def Cn (s : Wd) (k : Nat) : Prop := 0 ≤ s.g ∧ 0 ≤ s.p ∧ s.g + s.p = k
/-- The same, failing at an access. -/
def Wd.fa (s : Wd) (n : Nat) (c : Int) : Wd := { s with f := n, c := c }
theorem iw_id {x : Int} (h0 : -9223372036854775808 ≤ x) (h1 : x < 9223372036854775808) : iw x = x := by
  unfold iw wrap64; omega
/-- A call that makes j accesses, k having been made: failing at one of them it answers that error and nothing beside it, at once; failing later it goes as ever. -/
structure Nx {α : Type} (F : Wd → (α × Int) × Wd) (d : α) (s : Wd) (k j : Nat) : Prop where
  cn : Cn (F s).2 (k + j)
  fc : (F s).2.f = s.f
  len : (F s).2.W.length = s.W.length
  lo : ∀ (n : Nat) (c : Int), c ≠ 0 → k ≤ n → n < k + j → (F (s.fa n c)).1 = (d, c) ∧ Cn (F (s.fa n c)).2 (n + 1) ∧ (F (s.fa n c)).2.c = c
  hi : ∀ (n : Nat) (c : Int), c ≠ 0 → k + j ≤ n → F (s.fa n c) = ((F s).1, ((F s).2).fa n c)
def Ex {α : Type} (F : Wd → (α × Int) × Wd) (d : α) (s : Wd) (k B : Nat) : Prop := ∃ j, j ≤ B ∧ Nx F d s k j
theorem ex_same {α : Type} (x : α × Int) (d : α) {s : Wd} {k : Nat} (hc : Cn s k) (B : Nat) : Ex (fun s => (x, s)) d s k B :=
  ⟨0, Nat.zero_le _, hc, rfl, rfl, fun n c _ h1 h2 => by omega, fun n c _ _ => rfl⟩
theorem ex_rtn {α : Type} (x d : α) {s : Wd} {k : Nat} (hc : Cn s k) (B : Nat) : Ex (rtn x) d s k B := ex_same (x, 0) d hc B
theorem ex_err {α : Type} (d : α) (e : Int) {s : Wd} {k : Nat} (hc : Cn s k) (B : Nat) : Ex (err d e) d s k B := ex_same (d, e) d hc B
theorem ex_bnd {α β : Type} {F : Wd → (α × Int) × Wd} {G : α → Wd → (β × Int) × Wd} {d : α} {d' : β} {s : Wd} {k B1 B2 : Nat} (h1 : Ex F d s k B1)
    (h2 : ∀ x k', (F s).1 = (x, 0) → k ≤ k' → k' ≤ k + B1 → Cn (F s).2 k' → (F s).2.f = s.f → (F s).2.W.length = s.W.length → Ex (G x) d' (F s).2 k' B2) : Ex (bnd F G d') d' s k (B1 + B2) := by
  obtain ⟨j1, hj1, n1⟩ := h1
  by_cases he : (F s).1.2 = 0
  · obtain ⟨j2, hj2, n2⟩ := h2 (F s).1.1 (k + j1) (Prod.ext rfl he) (by omega) (by omega) n1.cn n1.fc n1.len
    have e : bnd F G d' s = G (F s).1.1 (F s).2 := if_neg (fun q => q he)
    refine ⟨j1 + j2, by omega, ?_, ?_, ?_, ?_, ?_⟩
    · rw [e, ← Nat.add_assoc]; exact n2.cn
    · rw [e]; exact n2.fc.trans n1.fc
    · rw [e]; exact n2.len.trans n1.len
    · intro n c hc hk hn
      by_cases hlt : n < k + j1
      · have q := n1.lo n c hc hk hlt
        unfold bnd
        rw [q.1]
        simp only [ne_eq, hc, not_false_eq_true, if_true]
        exact ⟨trivial, q.2⟩
      · have q := n1.hi n c hc (by omega)
        have q2 := n2.lo n c hc (by omega) (by omega)
        have e2 : bnd F G d' (s.fa n c) = G (F s).1.1 ((F s).2.fa n c) := by
          unfold bnd
          rw [q]
          exact if_neg (fun z => z he)
        rw [e2]
        exact q2
    · intro n c hc hn
      have q := n1.hi n c hc (by omega)
      have q2 := n2.hi n c hc (by omega)
      have e2 : bnd F G d' (s.fa n c) = G (F s).1.1 ((F s).2.fa n c) := by
        unfold bnd
        rw [q]
        exact if_neg (fun z => z he)
      rw [e2, e]
      exact q2
  · have e : bnd F G d' s = ((d', (F s).1.2), (F s).2) := if_pos he
    refine ⟨j1, by omega, ?_, ?_, ?_, ?_, ?_⟩
    · rw [e]; exact n1.cn
    · rw [e]; exact n1.fc
    · rw [e]; exact n1.len
    · intro n c hc hk hn
      have q := n1.lo n c hc hk hn
      unfold bnd
      rw [q.1]
      simp only [ne_eq, hc, not_false_eq_true, if_true]
      exact ⟨trivial, q.2⟩
    · intro n c hc hn
      have q := n1.hi n c hc hn
      rw [e]
      unfold bnd
      rw [q]
      exact if_pos he
theorem ex_mono {α : Type} {F : Wd → (α × Int) × Wd} {d : α} {s : Wd} {k B B' : Nat} (h : Ex F d s k B) (hb : B ≤ B') : Ex F d s k B' := by
  obtain ⟨j, hj, q⟩ := h
  exact ⟨j, Nat.le_trans hj hb, q⟩
theorem ex_eq {α : Type} {F G : Wd → (α × Int) × Wd} (e : ∀ s, F s = G s) {d : α} {s : Wd} {k B : Nat} (h : Ex G d s k B) : Ex F d s k B := by
  have : F = G := funext e
  rw [this]; exact h
theorem fl_lo {s : Wd} {k : Nat} (h : s.g + s.p = ((k + 1 : Nat) : Int)) (hk : k < 1152921504606846976) : s.fl = decide (0 ≤ s.f ∧ s.f ≤ k) := by
  unfold Wd.fl
  have q : iw ((k + 1 : Nat) : Int) = ((k + 1 : Nat) : Int) := iw_id (by omega) (by omega)
  have q2 : iw (((k + 1 : Nat) : Int) - 1) = k := by rw [iw_id (by omega) (by omega)]; omega
  rw [h, q, q2]
  by_cases h1 : 0 ≤ s.f <;> by_cases h2 : s.f ≤ k <;> simp [h1, h2]
theorem ex_get {s : Wd} {k : Nat} (hf : s.f < 0) (hc : Cn s k) (hk : k < 1152921504606846976) (a : Int) : Ex (fun s => s.get a) 0 s k 1 := by
  obtain ⟨h1, h2, h3⟩ := hc
  have hg : iw (s.g + 1) = s.g + 1 := iw_id (by omega) (by omega)
  have hfl : ∀ (n : Int) (c : Int), (({ s with f := n, c := c } : Wd).gt).fl = decide (0 ≤ n ∧ n ≤ k) := by
    intro n c
    have q := fl_lo (s := ({ s with f := n, c := c } : Wd).gt) (k := k) (by show iw (s.g + 1) + s.p = _; rw [hg]; omega) hk
    exact q
  have hcn : ∀ (n : Int) (c : Int), Cn (({ s with f := n, c := c } : Wd).gt) (k + 1) := by
    intro n c
    exact ⟨by show 0 ≤ iw (s.g + 1); rw [hg]; omega, h2, by show iw (s.g + 1) + s.p = _; rw [hg]; omega⟩
  have hs : s.get a = if (s.W.length : Int) ≤ a then ((0, 4), s.gt) else ((oat s.W a.toNat, 0), s.gt) := get_no hf a
  refine ⟨1, Nat.le_refl _, ?_, ?_, ?_, ?_, ?_⟩
  · rw [hs]; split <;> exact hcn s.f s.c
  · rw [hs]; split <;> rfl
  · rw [hs]; split <;> rfl
  · intro n c hc0 hkn hn
    obtain rfl : n = k := by omega
    have q : (s.fa n c).get a = ((0, c), (s.fa n c).gt) := by
      unfold Wd.get
      rw [if_pos]
      · rfl
      · exact (hfl n c).trans (by simp)
    show ((s.fa n c).get a).1 = _ ∧ _
    rw [q]
    exact ⟨rfl, hcn n c, rfl⟩
  · intro n c hc0 hn
    have q : (s.fa n c).get a = if (s.W.length : Int) ≤ a then ((0, 4), (s.fa n c).gt) else ((oat s.W a.toNat, 0), (s.fa n c).gt) := by
      unfold Wd.get
      rw [if_neg]
      · rfl
      · rw [show ((s.fa n c).gt).fl = decide (0 ≤ (n : Int) ∧ (n : Int) ≤ k) from hfl n c]
        simp
        omega
    show (s.fa n c).get a = _
    rw [q, hs]
    split <;> rfl
theorem put_no {s : Wd} (h : s.f < 0) (a x : Int) : s.put a x = if (s.W.length : Int) ≤ a then (4, s.pt) else (0, { s.pt with W := s.W.set a.toNat x }) := by
  unfold Wd.put
  rw [if_neg]
  unfold Wd.fl
  simp only [Bool.and_eq_true, decide_eq_true_eq]
  rintro ⟨q, _⟩
  have : (s.pt).f = s.f := rfl
  omega
theorem ex_put {s : Wd} {k : Nat} (hf : s.f < 0) (hc : Cn s k) (hk : k < 1152921504606846976) (a x : Int) : Ex (putU a x) () s k 1 := by
  obtain ⟨h1, h2, h3⟩ := hc
  have hg : iw (s.p + 1) = s.p + 1 := iw_id (by omega) (by omega)
  have hfl : ∀ (n : Int) (c : Int), (({ s with f := n, c := c } : Wd).pt).fl = decide (0 ≤ n ∧ n ≤ k) := by
    intro n c
    exact fl_lo (s := ({ s with f := n, c := c } : Wd).pt) (k := k) (by show s.g + iw (s.p + 1) = _; rw [hg]; omega) hk
  have hcn : ∀ (W : List Int) (n : Int) (c : Int), Cn { (({ s with f := n, c := c } : Wd).pt) with W := W } (k + 1) := by
    intro W n c
    exact ⟨h1, by show 0 ≤ iw (s.p + 1); rw [hg]; omega, by show s.g + iw (s.p + 1) = _; rw [hg]; omega⟩
  have hs := put_no hf a x
  refine ⟨1, Nat.le_refl _, ?_, ?_, ?_, ?_, ?_⟩
  · unfold putU; rw [hs]; split
    · exact hcn s.W s.f s.c
    · exact hcn _ s.f s.c
  · unfold putU; rw [hs]; split <;> rfl
  · unfold putU; rw [hs]; split
    · rfl
    · simp
  · intro n c hc0 hkn hn
    obtain rfl : n = k := by omega
    have q : (s.fa n c).put a x = (c, (s.fa n c).pt) := by
      unfold Wd.put
      rw [if_pos]
      · rfl
      · exact (hfl n c).trans (by simp)
    unfold putU
    rw [q]
    exact ⟨rfl, hcn s.W n c, rfl⟩
  · intro n c hc0 hn
    have q : (s.fa n c).put a x = if (s.W.length : Int) ≤ a then (4, (s.fa n c).pt) else (0, { (s.fa n c).pt with W := s.W.set a.toNat x }) := by
      unfold Wd.put
      rw [if_neg]
      · rfl
      · rw [show ((s.fa n c).pt).fl = decide (0 ≤ (n : Int) ∧ (n : Int) ≤ k) from hfl n c]
        simp
        omega
    unfold putU
    rw [q, hs]
    split <;> rfl
/-- Below this many accesses nothing goes round. -/
def TOP : Nat := 1152921504606846976
end Go.Proofs.Ytalopkllldnipaa


/- Room's calls, and rank's parts, failing at one access (layer 24), pure. No statement of the seat is proved here. -/
namespace Go.Proofs.Ytalopkllldnipaa
open Go.RowKit

def frC (x y : Int) : Int := if x < y then uw (y - x) else 0
section
variable {s : Wd} {k : Nat}
theorem ex_takeG (hf : s.f < 0) (hc : Cn s k) (hk : k + 2 < TOP) (h p : Int) : Ex (fun s => s.takeG h p) 0 s k 2 := by
  refine ex_eq (G := bnd (fun s => s.get p) (fun x => bnd (putU h x) (fun _ => rtn p) 0) 0) (fun s => ?_) ?_
  · unfold Wd.takeG bnd putU rtn
    simp only [ne_eq]
  · refine ex_bnd (B1 := 1) (B2 := 1) (ex_get hf hc (by unfold TOP at hk; omega) p) (fun x k' _ h1 h2 hc' hf' _ => ?_)
    exact ex_bnd (B1 := 1) (B2 := 0) (ex_put (by rw [hf']; exact hf) hc' (by unfold TOP at hk; omega) h x) (fun _ k'' _ _ _ hc'' _ _ => ex_rtn _ _ hc'' 0)
theorem ex_takeN (hf : s.f < 0) (hc : Cn s k) (hk : k + 3 < TOP) (a n : Int) : Ex (fun s => s.takeN a n) 0 s k 3 := by
  refine ex_eq (G := bnd (fun s => s.get a) (fun x => bnd (fun s => s.get (endA a)) (fun y => if frC x y < n then err 0 9 else bnd (putU a (uw (x + n))) (fun _ => rtn x) 0) 0) 0) (fun s => ?_) ?_
  · unfold Wd.takeN Wd.free bnd putU rtn err
    by_cases h1 : (s.get a).1.2 = 0
    · by_cases h2 : ((s.get a).2.get (endA a)).1.2 = 0
      · simp only [ne_eq, h1, h2, not_true_eq_false, if_false]
        by_cases h3 : frC (s.get a).1.1 ((s.get a).2.get (endA a)).1.1 < n
        · rw [if_pos h3]; exact if_pos h3
        · rw [if_neg h3]; exact if_neg h3
      · simp [h1, h2]
    · simp [h1]
  · refine ex_bnd (B1 := 1) (B2 := 2) (ex_get hf hc (by unfold TOP at hk; omega) a) (fun x k' _ h1 h2 hc' hf' _ => ?_)
    refine ex_bnd (B1 := 1) (B2 := 1) (ex_get (by rw [hf']; exact hf) hc' (by unfold TOP at hk; omega) (endA a)) (fun y k'' _ h3 h4 hc'' hf'' _ => ?_)
    split
    · exact ex_err _ _ hc'' 1
    · exact ex_bnd (B1 := 1) (B2 := 0) (ex_put (by rw [hf'', hf']; exact hf) hc'' (by unfold TOP at hk; omega) a _) (fun _ k3 _ _ _ hc3 _ _ => ex_rtn _ _ hc3 0)
theorem ex_take (hf : s.f < 0) (hc : Cn s k) (hk : k + 4 < TOP) (a : Int) {n : Int} (hm : mayN n) : Ex (fun s => s.take a n) 0 s k 4 := by
  refine ex_eq (G := bnd (fun s => s.get (hdA a n)) (fun x => if x = 0 then (fun s => s.takeN a n) else (fun s => s.takeG (hdA a n) (uw (x - 1)))) 0) (fun s => ?_) ?_
  · unfold Wd.take bnd
    simp only [hm, not_true_eq_false, if_false]
    split
    · rfl
    · split <;> rfl
  · refine ex_bnd (B1 := 1) (B2 := 3) (ex_get hf hc (by unfold TOP at hk; omega) _) (fun x k' _ h1 h2 hc' hf' _ => ?_)
    split
    · exact ex_takeN (by rw [hf']; exact hf) hc' (by omega) a n
    · exact ex_mono (ex_takeG (by rw [hf']; exact hf) hc' (by omega) _ _) (by omega)
theorem ex_give (hf : s.f < 0) (hc : Cn s k) (hk : k + 3 < TOP) (r a : Int) {n : Int} (hm : mayN n) : Ex (giveU r a n) () s k 3 := by
  refine ex_eq (G := bnd (fun s => s.get (hdA r n)) (fun x => bnd (putU a x) (fun _ => putU (hdA r n) (uw (a + 1))) ()) ()) (fun s => ?_) ?_
  · unfold giveU Wd.give bnd putU
    simp only [hm, not_true_eq_false, if_false]
    by_cases h1 : (s.get (hdA r n)).1.2 = 0
    · by_cases h2 : ((s.get (hdA r n)).2.put a (s.get (hdA r n)).1.1).1 = 0
      · simp [h1, h2]
      · simp [h1, h2]
    · simp [h1]
  · refine ex_bnd (B1 := 1) (B2 := 2) (ex_get hf hc (by unfold TOP at hk; omega) _) (fun x k' _ h1 h2 hc' hf' _ => ?_)
    exact ex_bnd (B1 := 1) (B2 := 1) (ex_put (by rw [hf']; exact hf) hc' (by unfold TOP at hk; omega) a x) (fun _ k'' _ _ _ hc'' hf'' _ => ex_put (by rw [hf'', hf']; exact hf) hc'' (by unfold TOP at hk; omega) _ _)
end
theorem getK_df (a : Int) (s : Wd) : ∀ n, (getK a s n).1.2 ≠ 0 → (getK a s n).1.1 = []
  | 0, h => absurd rfl h
  | n + 1, h => by
    have ih := getK_df a s n
    unfold getK at h ⊢
    split
    · exact ih ‹_›
    · split
      · rfl
      · rename_i h1 h2
        rw [if_neg h1, if_neg h2] at h
        exact absurd rfl h
theorem getK_bnd (a : Int) (n : Nat) (s : Wd) : getK a s (n + 1) = bnd (fun s => getK a s n) (fun l => bnd (fun s => s.get (uw (a + n))) (fun x => rtn (l ++ [x])) []) [] s := by
  show (if (getK a s n).1.2 ≠ 0 then getK a s n else _) = _
  by_cases h1 : (getK a s n).1.2 = 0
  · by_cases h2 : ((getK a s n).2.get (uw (a + n))).1.2 = 0
    · simp [bnd, rtn, h1, h2]
    · simp [bnd, h1, h2]
  · have q := getK_df a s n h1
    unfold bnd
    rw [if_pos h1, if_pos h1]
    exact Prod.ext (Prod.ext q rfl) rfl
theorem ex_getK (a : Int) : ∀ (n : Nat) (s : Wd) (k : Nat), s.f < 0 → Cn s k → k + n < TOP → Ex (fun s => getK a s n) [] s k n
  | 0, s, k, _, hc, _ => ex_same ([], 0) [] hc 0
  | n + 1, s, k, hf, hc, hk => by
    refine ex_eq (getK_bnd a n) ?_
    refine ex_bnd (ex_getK a n s k hf hc (by omega)) (fun l k' _ h1 h2 hc' hf' _ => ?_)
    exact ex_bnd (B1 := 1) (B2 := 0) (ex_get (by rw [hf']; exact hf) hc' (by unfold TOP at hk; omega) _) (fun _ _ _ _ _ hc'' _ _ => ex_rtn _ _ hc'' 0)
def putKU (a : Int) (l : List Int) (n : Nat) : Wd → (Unit × Int) × Wd := fun s => (((), (putK a l s n).1), (putK a l s n).2)
theorem putK_bnd (a : Int) (l : List Int) (n : Nat) (s : Wd) : putKU a l (n + 1) s = bnd (putKU a l n) (fun _ => putU (uw (a + n)) (oat l n)) () s := by
  have e : putK a l s (n + 1) = if (putK a l s n).1 ≠ 0 then putK a l s n else (putK a l s n).2.put (uw (a + n)) (oat l n) := rfl
  unfold putKU bnd putU
  rw [e]
  by_cases h1 : (putK a l s n).1 = 0 <;> simp [h1]
theorem ex_putK (a : Int) (l : List Int) : ∀ (n : Nat) (s : Wd) (k : Nat), s.f < 0 → Cn s k → k + n < TOP → Ex (putKU a l n) () s k n
  | 0, s, k, _, hc, _ => ex_same ((), 0) () hc 0
  | n + 1, s, k, hf, hc, hk => by
    refine ex_eq (putK_bnd a l n) ?_
    exact ex_bnd (ex_putK a l n s k hf hc (by omega)) (fun _ k' _ h1 h2 hc' hf' _ => ex_put (by rw [hf']; exact hf) hc' (by unfold TOP at hk; omega) _ _)
def chgKU (a : Int) (o l : List Int) (n : Nat) : Wd → (Unit × Int) × Wd := fun s => (((), (chgK a o l s n).1), (chgK a o l s n).2)
theorem chgK_bnd (a : Int) (o l : List Int) (n : Nat) (s : Wd) : chgKU a o l (n + 1) s = bnd (chgKU a o l n) (fun _ => if oat l n = oat o n then rtn () else putU (uw (a + n)) (oat l n)) () s := by
  have e : chgK a o l s (n + 1) = if (chgK a o l s n).1 ≠ 0 then chgK a o l s n else if oat l n = oat o n then chgK a o l s n else (chgK a o l s n).2.put (uw (a + n)) (oat l n) := rfl
  unfold chgKU bnd putU rtn
  rw [e]
  by_cases h1 : (chgK a o l s n).1 = 0
  · by_cases h2 : oat l n = oat o n <;> simp [h1, h2]
  · simp [h1]
theorem ex_chgK (a : Int) (o l : List Int) : ∀ (n : Nat) (s : Wd) (k : Nat), s.f < 0 → Cn s k → k + n < TOP → Ex (chgKU a o l n) () s k n
  | 0, s, k, _, hc, _ => ex_same ((), 0) () hc 0
  | n + 1, s, k, hf, hc, hk => by
    refine ex_eq (chgK_bnd a o l n) ?_
    refine ex_bnd (ex_chgK a o l n s k hf hc (by omega)) (fun _ k' _ h1 h2 hc' hf' _ => ?_)
    split
    · exact ex_rtn _ _ hc' 1
    · exact ex_put (by rw [hf']; exact hf) hc' (by unfold TOP at hk; omega) _ _
section
variable {s : Wd} {k : Nat}
theorem ex_gets (hf : s.f < 0) (hc : Cn s k) (a : Int) (n : Nat) (hk : k + n < TOP) : Ex (getsF a n) [] s k n := ex_getK a n s k hf hc hk
theorem ex_puts (hf : s.f < 0) (hc : Cn s k) (a : Int) (l : List Int) (hk : k + l.length < TOP) : Ex (putsU a l) () s k l.length := ex_putK a l l.length s k hf hc hk
theorem ex_chg (hf : s.f < 0) (hc : Cn s k) (a : Int) (o l : List Int) (hk : k + l.length < TOP) : Ex (chgU a o l) () s k l.length := ex_chgK a o l l.length s k hf hc hk
theorem ex_tre (hf : s.f < 0) (hc : Cn s k) (hk : k + 5 < TOP) (x : Int) : Ex (treF x) none s k 5 := by
  unfold treF
  split
  · exact ex_rtn _ _ hc 5
  · exact ex_bnd (B1 := 5) (B2 := 0) (ex_gets hf hc _ 5 hk) (fun _ _ _ _ _ hc' _ _ => ex_rtn _ _ hc' 0)
theorem ex_bra (hf : s.f < 0) (hc : Cn s k) (hk : k + 1 < TOP) (x : Int) : Ex (braF x) (0, 0) s k 1 := by
  unfold braF
  split
  · exact ex_rtn _ _ hc 1
  · exact ex_bnd (B1 := 1) (B2 := 0) (ex_get hf hc (by unfold TOP at hk; omega) _) (fun _ _ _ _ _ hc' _ _ => ex_rtn _ _ hc' 0)
theorem newC_len (t : Tr) (l r : Int × Int) : (newC t l r).length = 5 := by unfold newC; split <;> rfl
theorem ex_bin (hf : s.f < 0) (hc : Cn s k) (hk : k + 5 < TOP) (t : Tr) (l r : Int × Int) : Ex (binF t l r) t s k 5 := by
  have q := ex_chg hf hc t.at_ t.c (newC t l r) (by rw [newC_len]; exact hk)
  rw [newC_len] at q
  exact ex_bnd (B1 := 5) (B2 := 0) q (fun _ _ _ _ _ hc' _ _ => ex_rtn _ _ hc' 0)
end
theorem ex_uni (T : Wd → (Int × Int) × Wd) (BT : Nat) (hT : ∀ (s : Wd) (k : Nat), s.f < 0 → Cn s k → k + BT < TOP → Ex T 0 s k BT) : ∀ (n : Nat) (a b : Option Tr) (s : Wd) (k : Nat), s.f < 0 → Cn s k → k + (11 * n + BT) < TOP → Ex (uni T n a b) (none, 0) s k (11 * n + BT) := by
  intro n
  induction n with
  | zero =>
    intro a b s k hf hc hk
    cases a with
    | none =>
      rw [uni]
      exact ex_mono (ex_bnd (B1 := BT) (B2 := 0) (hT s k hf hc (by omega)) (fun _ _ _ _ _ hc' _ _ => ex_rtn _ _ hc' 0)) (by omega)
    | some a =>
      cases b with
      | none =>
        rw [uni]
        exact ex_mono (ex_bnd (B1 := BT) (B2 := 0) (hT s k hf hc (by omega)) (fun _ _ _ _ _ hc' _ _ => ex_rtn _ _ hc' 0)) (by omega)
      | some b =>
        rw [uni]
        exact ex_err _ _ hc _
  | succ n ih =>
    intro a b s k hf hc hk
    cases a with
    | none =>
      rw [uni]
      exact ex_mono (ex_bnd (B1 := BT) (B2 := 0) (hT s k hf hc (by omega)) (fun _ _ _ _ _ hc' _ _ => ex_rtn _ _ hc' 0)) (by omega)
    | some a =>
      cases b with
      | none =>
        rw [uni]
        exact ex_mono (ex_bnd (B1 := BT) (B2 := 0) (hT s k hf hc (by omega)) (fun _ _ _ _ _ hc' _ _ => ex_rtn _ _ hc' 0)) (by omega)
      | some b =>
        rw [uni]
        refine ex_mono (ex_bnd (B1 := 1) (B2 := 5 + (11 * n + BT + 5)) (ex_bra hf hc (by omega) _) (fun l k1 _ _ g1 hc1 hf1 _ => ?_)) (by omega)
        refine ex_bnd (B1 := 5) (B2 := 11 * n + BT + 5) (ex_tre (by rw [hf1]; exact hf) hc1 (by omega) _) (fun r k2 _ _ g2 hc2 hf2 _ => ?_)
        refine ex_bnd (B1 := 11 * n + BT) (B2 := 5) (ih _ _ _ _ (by rw [hf2, hf1]; exact hf) hc2 (by omega)) (fun p k3 _ _ g3 hc3 hf3 _ => ?_)
        exact ex_bnd (B1 := 5) (B2 := 0) (ex_bin (by rw [hf3, hf2, hf1]; exact hf) hc3 (by omega) _ _ _) (fun _ _ _ _ _ hc4 _ _ => ex_rtn _ _ hc4 0)
end Go.Proofs.Ytalopkllldnipaa
