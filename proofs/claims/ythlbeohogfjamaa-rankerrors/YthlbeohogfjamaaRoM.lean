/-
  No statement of the seat is proved here. (Several texts in one: RoA, RoB, RoC.)
-/
import Derived.Test.YthlbeohogfjamaaRkP

/- Calls whose tx fails at one access (layer 24), pure: how such calls are put together. No statement of the seat is proved here. -/
namespace Go.Proofs.Ythlbeohogfjamaa
open Go.RowKit

theorem get_no {s : Wd} (h : s.f < 0) (a : Int) : s.get a = if (s.W.length : Int) ≤ a then ((0, 4), s.gt) else ((oat s.W a.toNat, 0), s.gt) := by
  unfold Wd.get
  rw [if_neg]
  unfold Wd.fl
  simp only [Bool.and_eq_true, decide_eq_true_eq]
  rintro ⟨q, _⟩
  have : (s.gt).f = s.f := rfl
  omega
/-- So many accesses there were. -/
def Cn (s : Wd) (k : Nat) : Prop := 0 ≤ s.g ∧ 0 ≤ s.p ∧ s.g + s.p = k
/-- The same, failing at an access. -/
def Wd.fa (s : Wd) (n : Nat) (c : Int) : Wd := { s with f := n, c := c }
theorem iw_id {x : Int} (h0 : -9223372036854775808 ≤ x) (h1 : x < 9223372036854775808) : iw x = x := by
  unfold iw wrap64; omega
/-- A call that makes j accesses, k having been made: failing at one of them it answers that error and nothing beside it, at once; failing later it goes as ever. -/
structure Nx {α : Type} (F : Wd → (α × Int) × Wd) (d : α) (s : Wd) (k j : Nat) : Prop where
  cn : Cn (F s).2 (k + j)
  fc : (F s).2.f = s.f
  len : (F s).2.W.length = s.W.length
  lo : ∀ (n : Nat) (c : Int), c ≠ 0 → k ≤ n → n < k + j → (F (s.fa n c)).1 = (d, c) ∧ Cn (F (s.fa n c)).2 (n + 1) ∧ (F (s.fa n c)).2.c = c
  hi : ∀ (n : Nat) (c : Int), c ≠ 0 → k + j ≤ n → F (s.fa n c) = ((F s).1, ((F s).2).fa n c)
def Ex {α : Type} (F : Wd → (α × Int) × Wd) (d : α) (s : Wd) (k B : Nat) : Prop := ∃ j, j ≤ B ∧ Nx F d s k j
theorem ex_same {α : Type} (x : α × Int) (d : α) {s : Wd} {k : Nat} (hc : Cn s k) (B : Nat) : Ex (fun s => (x, s)) d s k B :=
  ⟨0, Nat.zero_le _, hc, rfl, rfl, fun n c _ h1 h2 => by omega, fun n c _ _ => rfl⟩
theorem ex_rtn {α : Type} (x d : α) {s : Wd} {k : Nat} (hc : Cn s k) (B : Nat) : Ex (rtn x) d s k B := ex_same (x, 0) d hc B
theorem ex_err {α : Type} (d : α) (e : Int) {s : Wd} {k : Nat} (hc : Cn s k) (B : Nat) : Ex (err d e) d s k B := ex_same (d, e) d hc B
theorem ex_bnd {α β : Type} {F : Wd → (α × Int) × Wd} {G : α → Wd → (β × Int) × Wd} {d : α} {d' : β} {s : Wd} {k B1 B2 : Nat} (h1 : Ex F d s k B1)
    (h2 : ∀ x k', (F s).1 = (x, 0) → k ≤ k' → k' ≤ k + B1 → Cn (F s).2 k' → (F s).2.f = s.f → (F s).2.W.length = s.W.length → Ex (G x) d' (F s).2 k' B2) : Ex (bnd F G d') d' s k (B1 + B2) := by
  obtain ⟨j1, hj1, n1⟩ := h1
  by_cases he : (F s).1.2 = 0
  · obtain ⟨j2, hj2, n2⟩ := h2 (F s).1.1 (k + j1) (Prod.ext rfl he) (by omega) (by omega) n1.cn n1.fc n1.len
    have e : bnd F G d' s = G (F s).1.1 (F s).2 := if_neg (fun q => q he)
    refine ⟨j1 + j2, by omega, ?_, ?_, ?_, ?_, ?_⟩
    · rw [e, ← Nat.add_assoc]; exact n2.cn
    · rw [e]; exact n2.fc.trans n1.fc
    · rw [e]; exact n2.len.trans n1.len
    · intro n c hc hk hn
      by_cases hlt : n < k + j1
      · have q := n1.lo n c hc hk hlt
        unfold bnd
        rw [q.1]
        simp only [ne_eq, hc, not_false_eq_true, if_true]
        exact ⟨trivial, q.2⟩
      · have q := n1.hi n c hc (by omega)
        have q2 := n2.lo n c hc (by omega) (by omega)
        have e2 : bnd F G d' (s.fa n c) = G (F s).1.1 ((F s).2.fa n c) := by
          unfold bnd
          rw [q]
          exact if_neg (fun z => z he)
        rw [e2]
        exact q2
    · intro n c hc hn
      have q := n1.hi n c hc (by omega)
      have q2 := n2.hi n c hc (by omega)
      have e2 : bnd F G d' (s.fa n c) = G (F s).1.1 ((F s).2.fa n c) := by
        unfold bnd
        rw [q]
        exact if_neg (fun z => z he)
      rw [e2, e]
      exact q2
  · have e : bnd F G d' s = ((d', (F s).1.2), (F s).2) := if_pos he
    refine ⟨j1, by omega, ?_, ?_, ?_, ?_, ?_⟩
    · rw [e]; exact n1.cn
    · rw [e]; exact n1.fc
    · rw [e]; exact n1.len
    · intro n c hc hk hn
      have q := n1.lo n c hc hk hn
      unfold bnd
      rw [q.1]
      simp only [ne_eq, hc, not_false_eq_true, if_true]
      exact ⟨trivial, q.2⟩
    · intro n c hc hn
      have q := n1.hi n c hc hn
      rw [e]
      unfold bnd
      rw [q]
      exact if_pos he
theorem ex_mono {α : Type} {F : Wd → (α × Int) × Wd} {d : α} {s : Wd} {k B B' : Nat} (h : Ex F d s k B) (hb : B ≤ B') : Ex F d s k B' := by
  obtain ⟨j, hj, q⟩ := h
  exact ⟨j, Nat.le_trans hj hb, q⟩
theorem ex_eq {α : Type} {F G : Wd → (α × Int) × Wd} (e : ∀ s, F s = G s) {d : α} {s : Wd} {k B : Nat} (h : Ex G d s k B) : Ex F d s k B := by
  have : F = G := funext e
  rw [this]; exact h
theorem fl_lo {s : Wd} {k : Nat} (h : s.g + s.p = ((k + 1 : Nat) : Int)) (hk : k < 1152921504606846976) : s.fl = decide (0 ≤ s.f ∧ s.f ≤ k) := by
  unfold Wd.fl
  have q : iw ((k + 1 : Nat) : Int) = ((k + 1 : Nat) : Int) := iw_id (by omega) (by omega)
  have q2 : iw (((k + 1 : Nat) : Int) - 1) = k := by rw [iw_id (by omega) (by omega)]; omega
  rw [h, q, q2]
  by_cases h1 : 0 ≤ s.f <;> by_cases h2 : s.f ≤ k <;> simp [h1, h2]
theorem ex_get {s : Wd} {k : Nat} (hf : s.f < 0) (hc : Cn s k) (hk : k < 1152921504606846976) (a : Int) : Ex (fun s => s.get a) 0 s k 1 := by
  obtain ⟨h1, h2, h3⟩ := hc
  have hg : iw (s.g + 1) = s.g + 1 := iw_id (by omega) (by omega)
  have hfl : ∀ (n : Int) (c : Int), (({ s with f := n, c := c } : Wd).gt).fl = decide (0 ≤ n ∧ n ≤ k) := by
    intro n c
    have q := fl_lo (s := ({ s with f := n, c := c } : Wd).gt) (k := k) (by show iw (s.g + 1) + s.p = _; rw [hg]; omega) hk
    exact q
  have hcn : ∀ (n : Int) (c : Int), Cn (({ s with f := n, c := c } : Wd).gt) (k + 1) := by
    intro n c
    exact ⟨by show 0 ≤ iw (s.g + 1); rw [hg]; omega, h2, by show iw (s.g + 1) + s.p = _; rw [hg]; omega⟩
  have hs : s.get a = if (s.W.length : Int) ≤ a then ((0, 4), s.gt) else ((oat s.W a.toNat, 0), s.gt) := get_no hf a
  refine ⟨1, Nat.le_refl _, ?_, ?_, ?_, ?_, ?_⟩
  · rw [hs]; split <;> exact hcn s.f s.c
  · rw [hs]; split <;> rfl
  · rw [hs]; split <;> rfl
  · intro n c hc0 hkn hn
    obtain rfl : n = k := by omega
    have q : (s.fa n c).get a = ((0, c), (s.fa n c).gt) := by
      unfold Wd.get
      rw [if_pos]
      · rfl
      · exact (hfl n c).trans (by simp)
    show ((s.fa n c).get a).1 = _ ∧ _
    rw [q]
    exact ⟨rfl, hcn n c, rfl⟩
  · intro n c hc0 hn
    have q : (s.fa n c).get a = if (s.W.length : Int) ≤ a then ((0, 4), (s.fa n c).gt) else ((oat s.W a.toNat, 0), (s.fa n c).gt) := by
      unfold Wd.get
      rw [if_neg]
      · rfl
      · rw [show ((s.fa n c).gt).fl = decide (0 ≤ (n : Int) ∧ (n : Int) ≤ k) from hfl n c]
        simp
        omega
    show (s.fa n c).get a = _
    rw [q, hs]
    split <;> rfl
theorem put_no {s : Wd} (h : s.f < 0) (a x : Int) : s.put a x = if (s.W.length : Int) ≤ a then (4, s.pt) else (0, { s.pt with W := s.W.set a.toNat x }) := by
  unfold Wd.put
  rw [if_neg]
  unfold Wd.fl
  simp only [Bool.and_eq_true, decide_eq_true_eq]
  rintro ⟨q, _⟩
  have : (s.pt).f = s.f := rfl
  omega
theorem ex_put {s : Wd} {k : Nat} (hf : s.f < 0) (hc : Cn s k) (hk : k < 1152921504606846976) (a x : Int) : Ex (putU a x) () s k 1 := by
  obtain ⟨h1, h2, h3⟩ := hc
  have hg : iw (s.p + 1) = s.p + 1 := iw_id (by omega) (by omega)
  have hfl : ∀ (n : Int) (c : Int), (({ s with f := n, c := c } : Wd).pt).fl = decide (0 ≤ n ∧ n ≤ k) := by
    intro n c
    exact fl_lo (s := ({ s with f := n, c := c } : Wd).pt) (k := k) (by show s.g + iw (s.p + 1) = _; rw [hg]; omega) hk
  have hcn : ∀ (W : List Int) (n : Int) (c : Int), Cn { (({ s with f := n, c := c } : Wd).pt) with W := W } (k + 1) := by
    intro W n c
    exact ⟨h1, by show 0 ≤ iw (s.p + 1); rw [hg]; omega, by show s.g + iw (s.p + 1) = _; rw [hg]; omega⟩
  have hs := put_no hf a x
  refine ⟨1, Nat.le_refl _, ?_, ?_, ?_, ?_, ?_⟩
  · unfold putU; rw [hs]; split
    · exact hcn s.W s.f s.c
    · exact hcn _ s.f s.c
  · unfold putU; rw [hs]; split <;> rfl
  · unfold putU; rw [hs]; split
    · rfl
    · simp
  · intro n c hc0 hkn hn
    obtain rfl : n = k := by omega
    have q : (s.fa n c).put a x = (c, (s.fa n c).pt) := by
      unfold Wd.put
      rw [if_pos]
      · rfl
      · exact (hfl n c).trans (by simp)
    unfold putU
    rw [q]
    exact ⟨rfl, hcn s.W n c, rfl⟩
  · intro n c hc0 hn
    have q : (s.fa n c).put a x = if (s.W.length : Int) ≤ a then (4, (s.fa n c).pt) else (0, { (s.fa n c).pt with W := s.W.set a.toNat x }) := by
      unfold Wd.put
      rw [if_neg]
      · rfl
      · rw [show ((s.fa n c).pt).fl = decide (0 ≤ (n : Int) ∧ (n : Int) ≤ k) from hfl n c]
        simp
        omega
    unfold putU
    rw [q, hs]
    split <;> rfl
/-- Below this many accesses nothing goes round. -/
def TOP : Nat := 1152921504606846976
end Go.Proofs.Ythlbeohogfjamaa


/- Room's calls, and rank's parts, failing at one access (layer 24), pure. No statement of the seat is proved here. -/
namespace Go.Proofs.Ythlbeohogfjamaa
open Go.RowKit

def frC (x y : Int) : Int := if x < y then uw (y - x) else 0
section
variable {s : Wd} {k : Nat}
theorem ex_takeG (hf : s.f < 0) (hc : Cn s k) (hk : k + 2 < TOP) (h p : Int) : Ex (fun s => s.takeG h p) 0 s k 2 := by
  refine ex_eq (G := bnd (fun s => s.get p) (fun x => bnd (putU h x) (fun _ => rtn p) 0) 0) (fun s => ?_) ?_
  · unfold Wd.takeG bnd putU rtn
    simp only [ne_eq]
  · refine ex_bnd (B1 := 1) (B2 := 1) (ex_get hf hc (by unfold TOP at hk; omega) p) (fun x k' _ h1 h2 hc' hf' _ => ?_)
    exact ex_bnd (B1 := 1) (B2 := 0) (ex_put (by rw [hf']; exact hf) hc' (by unfold TOP at hk; omega) h x) (fun _ k'' _ _ _ hc'' _ _ => ex_rtn _ _ hc'' 0)
theorem ex_takeN (hf : s.f < 0) (hc : Cn s k) (hk : k + 3 < TOP) (a n : Int) : Ex (fun s => s.takeN a n) 0 s k 3 := by
  refine ex_eq (G := bnd (fun s => s.get a) (fun x => bnd (fun s => s.get (endA a)) (fun y => if frC x y < n then err 0 9 else bnd (putU a (uw (x + n))) (fun _ => rtn x) 0) 0) 0) (fun s => ?_) ?_
  · unfold Wd.takeN Wd.free bnd putU rtn err
    by_cases h1 : (s.get a).1.2 = 0
    · by_cases h2 : ((s.get a).2.get (endA a)).1.2 = 0
      · simp only [ne_eq, h1, h2, not_true_eq_false, if_false]
        by_cases h3 : frC (s.get a).1.1 ((s.get a).2.get (endA a)).1.1 < n
        · rw [if_pos h3]; exact if_pos h3
        · rw [if_neg h3]; exact if_neg h3
      · simp [h1, h2]
    · simp [h1]
  · refine ex_bnd (B1 := 1) (B2 := 2) (ex_get hf hc (by unfold TOP at hk; omega) a) (fun x k' _ h1 h2 hc' hf' _ => ?_)
    refine ex_bnd (B1 := 1) (B2 := 1) (ex_get (by rw [hf']; exact hf) hc' (by unfold TOP at hk; omega) (endA a)) (fun y k'' _ h3 h4 hc'' hf'' _ => ?_)
    split
    · exact ex_err _ _ hc'' 1
    · exact ex_bnd (B1 := 1) (B2 := 0) (ex_put (by rw [hf'', hf']; exact hf) hc'' (by unfold TOP at hk; omega) a _) (fun _ k3 _ _ _ hc3 _ _ => ex_rtn _ _ hc3 0)
theorem ex_take (hf : s.f < 0) (hc : Cn s k) (hk : k + 4 < TOP) (a : Int) {n : Int} (hm : mayN n) : Ex (fun s => s.take a n) 0 s k 4 := by
  refine ex_eq (G := bnd (fun s => s.get (hdA a n)) (fun x => if x = 0 then (fun s => s.takeN a n) else (fun s => s.takeG (hdA a n) (uw (x - 1)))) 0) (fun s => ?_) ?_
  · unfold Wd.take bnd
    simp only [hm, not_true_eq_false, if_false]
    split
    · rfl
    · split <;> rfl
  · refine ex_bnd (B1 := 1) (B2 := 3) (ex_get hf hc (by unfold TOP at hk; omega) _) (fun x k' _ h1 h2 hc' hf' _ => ?_)
    split
    · exact ex_takeN (by rw [hf']; exact hf) hc' (by omega) a n
    · exact ex_mono (ex_takeG (by rw [hf']; exact hf) hc' (by omega) _ _) (by omega)
theorem ex_give (hf : s.f < 0) (hc : Cn s k) (hk : k + 3 < TOP) (r a : Int) {n : Int} (hm : mayN n) : Ex (giveU r a n) () s k 3 := by
  refine ex_eq (G := bnd (fun s => s.get (hdA r n)) (fun x => bnd (putU a x) (fun _ => putU (hdA r n) (uw (a + 1))) ()) ()) (fun s => ?_) ?_
  · unfold giveU Wd.give bnd putU
    simp only [hm, not_true_eq_false, if_false]
    by_cases h1 : (s.get (hdA r n)).1.2 = 0
    · by_cases h2 : ((s.get (hdA r n)).2.put a (s.get (hdA r n)).1.1).1 = 0
      · simp [h1, h2]
      · simp [h1, h2]
    · simp [h1]
  · refine ex_bnd (B1 := 1) (B2 := 2) (ex_get hf hc (by unfold TOP at hk; omega) _) (fun x k' _ h1 h2 hc' hf' _ => ?_)
    exact ex_bnd (B1 := 1) (B2 := 1) (ex_put (by rw [hf']; exact hf) hc' (by unfold TOP at hk; omega) a x) (fun _ k'' _ _ _ hc'' hf'' _ => ex_put (by rw [hf'', hf']; exact hf) hc'' (by unfold TOP at hk; omega) _ _)
end
theorem getK_df (a : Int) (s : Wd) : ∀ n, (getK a s n).1.2 ≠ 0 → (getK a s n).1.1 = []
  | 0, h => absurd rfl h
  | n + 1, h => by
    have ih := getK_df a s n
    unfold getK at h ⊢
    split
    · exact ih ‹_›
    · split
      · rfl
      · rename_i h1 h2
        rw [if_neg h1, if_neg h2] at h
        exact absurd rfl h
theorem getK_bnd (a : Int) (n : Nat) (s : Wd) : getK a s (n + 1) = bnd (fun s => getK a s n) (fun l => bnd (fun s => s.get (uw (a + n))) (fun x => rtn (l ++ [x])) []) [] s := by
  show (if (getK a s n).1.2 ≠ 0 then getK a s n else _) = _
  by_cases h1 : (getK a s n).1.2 = 0
  · by_cases h2 : ((getK a s n).2.get (uw (a + n))).1.2 = 0
    · simp [bnd, rtn, h1, h2]
    · simp [bnd, h1, h2]
  · have q := getK_df a s n h1
    unfold bnd
    rw [if_pos h1, if_pos h1]
    exact Prod.ext (Prod.ext q rfl) rfl
theorem ex_getK (a : Int) : ∀ (n : Nat) (s : Wd) (k : Nat), s.f < 0 → Cn s k → k + n < TOP → Ex (fun s => getK a s n) [] s k n
  | 0, s, k, _, hc, _ => ex_same ([], 0) [] hc 0
  | n + 1, s, k, hf, hc, hk => by
    refine ex_eq (getK_bnd a n) ?_
    refine ex_bnd (ex_getK a n s k hf hc (by omega)) (fun l k' _ h1 h2 hc' hf' _ => ?_)
    exact ex_bnd (B1 := 1) (B2 := 0) (ex_get (by rw [hf']; exact hf) hc' (by unfold TOP at hk; omega) _) (fun _ _ _ _ _ hc'' _ _ => ex_rtn _ _ hc'' 0)
def putKU (a : Int) (l : List Int) (n : Nat) : Wd → (Unit × Int) × Wd := fun s => (((), (putK a l s n).1), (putK a l s n).2)
theorem putK_bnd (a : Int) (l : List Int) (n : Nat) (s : Wd) : putKU a l (n + 1) s = bnd (putKU a l n) (fun _ => putU (uw (a + n)) (oat l n)) () s := by
  have e : putK a l s (n + 1) = if (putK a l s n).1 ≠ 0 then putK a l s n else (putK a l s n).2.put (uw (a + n)) (oat l n) := rfl
  unfold putKU bnd putU
  rw [e]
  by_cases h1 : (putK a l s n).1 = 0 <;> simp [h1]
theorem ex_putK (a : Int) (l : List Int) : ∀ (n : Nat) (s : Wd) (k : Nat), s.f < 0 → Cn s k → k + n < TOP → Ex (putKU a l n) () s k n
  | 0, s, k, _, hc, _ => ex_same ((), 0) () hc 0
  | n + 1, s, k, hf, hc, hk => by
    refine ex_eq (putK_bnd a l n) ?_
    exact ex_bnd (ex_putK a l n s k hf hc (by omega)) (fun _ k' _ h1 h2 hc' hf' _ => ex_put (by rw [hf']; exact hf) hc' (by unfold TOP at hk; omega) _ _)
def chgKU (a : Int) (o l : List Int) (n : Nat) : Wd → (Unit × Int) × Wd := fun s => (((), (chgK a o l s n).1), (chgK a o l s n).2)
theorem chgK_bnd (a : Int) (o l : List Int) (n : Nat) (s : Wd) : chgKU a o l (n + 1) s = bnd (chgKU a o l n) (fun _ => if oat l n = oat o n then rtn () else putU (uw (a + n)) (oat l n)) () s := by
  have e : chgK a o l s (n + 1) = if (chgK a o l s n).1 ≠ 0 then chgK a o l s n else if oat l n = oat o n then chgK a o l s n else (chgK a o l s n).2.put (uw (a + n)) (oat l n) := rfl
  unfold chgKU bnd putU rtn
  rw [e]
  by_cases h1 : (chgK a o l s n).1 = 0
  · by_cases h2 : oat l n = oat o n <;> simp [h1, h2]
  · simp [h1]
theorem ex_chgK (a : Int) (o l : List Int) : ∀ (n : Nat) (s : Wd) (k : Nat), s.f < 0 → Cn s k → k + n < TOP → Ex (chgKU a o l n) () s k n
  | 0, s, k, _, hc, _ => ex_same ((), 0) () hc 0
  | n + 1, s, k, hf, hc, hk => by
    refine ex_eq (chgK_bnd a o l n) ?_
    refine ex_bnd (ex_chgK a o l n s k hf hc (by omega)) (fun _ k' _ h1 h2 hc' hf' _ => ?_)
    split
    · exact ex_rtn _ _ hc' 1
    · exact ex_put (by rw [hf']; exact hf) hc' (by unfold TOP at hk; omega) _ _
section
variable {s : Wd} {k : Nat}
theorem ex_gets (hf : s.f < 0) (hc : Cn s k) (a : Int) (n : Nat) (hk : k + n < TOP) : Ex (getsF a n) [] s k n := ex_getK a n s k hf hc hk
theorem ex_puts (hf : s.f < 0) (hc : Cn s k) (a : Int) (l : List Int) (hk : k + l.length < TOP) : Ex (putsU a l) () s k l.length := ex_putK a l l.length s k hf hc hk
theorem ex_chg (hf : s.f < 0) (hc : Cn s k) (a : Int) (o l : List Int) (hk : k + l.length < TOP) : Ex (chgU a o l) () s k l.length := ex_chgK a o l l.length s k hf hc hk
theorem ex_tre (hf : s.f < 0) (hc : Cn s k) (hk : k + 5 < TOP) (x : Int) : Ex (treF x) none s k 5 := by
  unfold treF
  split
  · exact ex_rtn _ _ hc 5
  · exact ex_bnd (B1 := 5) (B2 := 0) (ex_gets hf hc _ 5 hk) (fun _ _ _ _ _ hc' _ _ => ex_rtn _ _ hc' 0)
theorem ex_bra (hf : s.f < 0) (hc : Cn s k) (hk : k + 1 < TOP) (x : Int) : Ex (braF x) (0, 0) s k 1 := by
  unfold braF
  split
  · exact ex_rtn _ _ hc 1
  · exact ex_bnd (B1 := 1) (B2 := 0) (ex_get hf hc (by unfold TOP at hk; omega) _) (fun _ _ _ _ _ hc' _ _ => ex_rtn _ _ hc' 0)
theorem newC_len (t : Tr) (l r : Int × Int) : (newC t l r).length = 5 := by unfold newC; split <;> rfl
theorem ex_bin (hf : s.f < 0) (hc : Cn s k) (hk : k + 5 < TOP) (t : Tr) (l r : Int × Int) : Ex (binF t l r) t s k 5 := by
  have q := ex_chg hf hc t.at_ t.c (newC t l r) (by rw [newC_len]; exact hk)
  rw [newC_len] at q
  exact ex_bnd (B1 := 5) (B2 := 0) q (fun _ _ _ _ _ hc' _ _ => ex_rtn _ _ hc' 0)
end
theorem ex_uni (T : Wd → (Int × Int) × Wd) (BT : Nat) (hT : ∀ (s : Wd) (k : Nat), s.f < 0 → Cn s k → k + BT < TOP → Ex T 0 s k BT) : ∀ (n : Nat) (a b : Option Tr) (s : Wd) (k : Nat), s.f < 0 → Cn s k → k + (11 * n + BT) < TOP → Ex (uni T n a b) (none, 0) s k (11 * n + BT) := by
  intro n
  induction n with
  | zero =>
    intro a b s k hf hc hk
    cases a with
    | none =>
      rw [uni]
      exact ex_mono (ex_bnd (B1 := BT) (B2 := 0) (hT s k hf hc (by omega)) (fun _ _ _ _ _ hc' _ _ => ex_rtn _ _ hc' 0)) (by omega)
    | some a =>
      cases b with
      | none =>
        rw [uni]
        exact ex_mono (ex_bnd (B1 := BT) (B2 := 0) (hT s k hf hc (by omega)) (fun _ _ _ _ _ hc' _ _ => ex_rtn _ _ hc' 0)) (by omega)
      | some b =>
        rw [uni]
        exact ex_err _ _ hc _
  | succ n ih =>
    intro a b s k hf hc hk
    cases a with
    | none =>
      rw [uni]
      exact ex_mono (ex_bnd (B1 := BT) (B2 := 0) (hT s k hf hc (by omega)) (fun _ _ _ _ _ hc' _ _ => ex_rtn _ _ hc' 0)) (by omega)
    | some a =>
      cases b with
      | none =>
        rw [uni]
        exact ex_mono (ex_bnd (B1 := BT) (B2 := 0) (hT s k hf hc (by omega)) (fun _ _ _ _ _ hc' _ _ => ex_rtn _ _ hc' 0)) (by omega)
      | some b =>
        rw [uni]
        refine ex_mono (ex_bnd (B1 := 1) (B2 := 5 + (11 * n + BT + 5)) (ex_bra hf hc (by omega) _) (fun l k1 _ _ g1 hc1 hf1 _ => ?_)) (by omega)
        refine ex_bnd (B1 := 5) (B2 := 11 * n + BT + 5) (ex_tre (by rw [hf1]; exact hf) hc1 (by omega) _) (fun r k2 _ _ g2 hc2 hf2 _ => ?_)
        refine ex_bnd (B1 := 11 * n + BT) (B2 := 5) (ih _ _ _ _ (by rw [hf2, hf1]; exact hf) hc2 (by omega)) (fun p k3 _ _ g3 hc3 hf3 _ => ?_)
        exact ex_bnd (B1 := 5) (B2 := 0) (ex_bin (by rw [hf3, hf2, hf1]; exact hf) hc3 (by omega) _ _ _) (fun _ _ _ _ _ hc4 _ _ => ex_rtn _ _ hc4 0)
end Go.Proofs.Ythlbeohogfjamaa


/- Rank's calls, failing at one access (layer 24), pure. No statement of the seat is proved here. -/
namespace Go.Proofs.Ythlbeohogfjamaa
open Go.RowKit

theorem may5 : mayN 5 := by unfold mayN; decide
theorem may2 : mayN 2 := by unfold mayN; decide
section
variable {s : Wd} {k : Nat}
theorem ex_turn0 (s : Wd) (k : Nat) (_ : s.f < 0) (hc : Cn s k) (_ : k + 0 < TOP) : Ex turn0 0 s k 0 := ex_rtn _ _ hc 0
theorem ex_lay (r : Int) (l : List Int) (hl : l.length = 5) (s : Wd) (k : Nat) (hf : s.f < 0) (hc : Cn s k) (hk : k + 9 < TOP) : Ex (layF r l) 0 s k 9 := by
  refine ex_bnd (B1 := 4) (B2 := 5) (ex_take hf hc (by omega) r may5) (fun n k' _ h1 h2 hc' hf' _ => ?_)
  have q := ex_puts (by rw [hf']; exact hf) hc' n l (by rw [hl]; omega)
  rw [hl] at q
  exact ex_bnd (B1 := 5) (B2 := 0) q (fun _ _ _ _ _ hc'' _ _ => ex_rtn _ _ hc'' 0)
theorem ex_mld (hf : s.f < 0) (hc : Cn s k) (hk : k + 1418 < TOP) (a b : Int) : Ex (mldF a b) 0 s k 1418 := by
  unfold mldF
  split
  · exact ex_rtn _ _ hc _
  · split
    · exact ex_rtn _ _ hc _
    · refine ex_bnd (B1 := 5) (B2 := 1413) (ex_tre hf hc (by omega) a) (fun x k1 _ _ g1 hc1 hf1 _ => ?_)
      refine ex_bnd (B1 := 5) (B2 := 1408) (ex_tre (by rw [hf1]; exact hf) hc1 (by omega) b) (fun y k2 _ _ g2 hc2 hf2 _ => ?_)
      exact ex_bnd (B1 := 1408) (B2 := 0) (ex_uni turn0 0 ex_turn0 128 x y _ k2 (by rw [hf2, hf1]; exact hf) hc2 (by omega)) (fun _ _ _ _ _ hc3 _ _ => ex_rtn _ _ hc3 0)
theorem ex_hep (hf : s.f < 0) (hc : Cn s k) (hk : k + 2 < TOP) (h : Int) : Ex (hepF h) (0, 0) s k 2 := by
  refine ex_bnd (B1 := 2) (B2 := 0) (ex_gets hf hc h 2 hk) (fun l k1 _ _ _ hc1 _ _ => ?_)
  split
  · exact ex_err _ _ hc1 0
  · exact ex_rtn _ _ hc1 0
theorem ex_bec (hf : s.f < 0) (hc : Cn s k) (hk : k + 2 < TOP) (h : Int) (had : Int × Int) (n r : Int) : Ex (becU h had n r) () s k 2 := ex_chg hf hc h [had.1, had.2] [n, r] hk
theorem ex_fol (hf : s.f < 0) (hc : Cn s k) (hk : k + 5 < TOP) (n : Int) (p : Option Tr) (x : Int) (F : List Tr) : Ex (folF n p x F) none s k 5 := by
  unfold folF
  split
  · exact ex_rtn _ _ hc 5
  · split
    · exact ex_err _ _ hc 5
    · refine ex_bnd (B1 := 5) (B2 := 0) (ex_tre hf hc hk x) (fun q k1 _ _ _ hc1 _ _ => ?_)
      cases q with
      | none => exact ex_err _ _ hc1 0
      | some t =>
        show Ex (if reK (oat t.c 0) = true ∧ (∀ u, p = some u → ¬ befE t.ent u.ent) then rtn (some t) else err none 340) none _ k1 0
        split
        · exact ex_rtn _ _ hc1 0
        · exact ex_err _ _ hc1 0
theorem ex_chi (hf : s.f < 0) (hc : Cn s k) (hk : k + 10 < TOP) (n : Int) (t : Tr) (F : List Tr) : Ex (chiF n t F) [] s k 10 := by
  refine ex_bnd (B1 := 5) (B2 := 5) (ex_fol hf hc (by omega) n (some t) _ F) (fun l k1 _ _ g1 hc1 hf1 _ => ?_)
  refine ex_bnd (B1 := 5) (B2 := 0) (ex_fol (by rw [hf1]; exact hf) hc1 (by omega) n (some t) _ _) (fun r k2 _ _ _ hc2 _ _ => ?_)
  split
  · exact ex_err _ _ hc2 0
  · exact ex_rtn _ _ hc2 0
end
theorem ex_wlk (n : Int) : ∀ (j i : Nat) (F : List Tr) (s : Wd) (k : Nat), s.f < 0 → Cn s k → k + 10 * j < TOP → Ex (wlkF n j i F) [] s k (10 * j) := by
  intro j
  induction j with
  | zero => intro i F s k hf hc hk; exact ex_err _ _ hc _
  | succ j ih =>
    intro i F s k hf hc hk
    unfold wlkF
    cases h : F[i]? with
    | none => exact ex_rtn _ _ hc _
    | some t =>
      exact ex_mono (ex_bnd (B1 := 10) (B2 := 10 * j) (ex_chi hf hc (by omega) n t F) (fun F1 k1 _ _ _ hc1 hf1 _ => ih _ F1 _ k1 (by rw [hf1]; exact hf) hc1 (by omega))) (by omega)
def BA : Nat := 21474836500
section
variable {s : Wd} {k : Nat}
theorem ex_allF (hf : s.f < 0) (hc : Cn s k) (hk : k + BA < TOP) (h : Int) : Ex (allF h) [] s k BA := by
  unfold BA at hk ⊢
  refine ex_bnd (B1 := 2) (B2 := 21474836498) (ex_hep hf hc (by omega) h) (fun p k1 _ _ g1 hc1 hf1 _ => ?_)
  split
  · exact ex_err _ _ hc1 _
  · refine ex_bnd (B1 := 5) (B2 := 21474836493) (ex_fol (by rw [hf1]; exact hf) hc1 (by omega) p.1 none p.2 []) (fun r k2 _ _ g2 hc2 hf2 _ => ?_)
    refine ex_mono (ex_bnd (B1 := 10 * 2147483649) (B2 := 0) (ex_wlk p.1 2147483649 0 r.toList _ k2 (by rw [hf2, hf1]; exact hf) hc2 (by omega)) (fun F k3 _ _ _ hc3 _ _ => ?_)) (by omega)
    split
    · exact ex_err _ _ hc3 0
    · exact ex_rtn _ _ hc3 0
theorem allF_few {h : Int} {F : List Tr} {s s1 : Wd} (e : allF h s = ((F, 0), s1)) : F.length ≤ 2147483647 := by
  obtain ⟨⟨⟨p, f⟩, s2⟩, e2⟩ : ∃ r, hepF h s = r := ⟨_, rfl⟩
  unfold allF at e
  by_cases hf : f = 0
  · subst hf
    rw [bnd_ok e2] at e
    split at e
    · unfold err at e; simp at e
    · rename_i hp
      obtain ⟨⟨⟨r, f3⟩, s3⟩, e3⟩ : ∃ q, folF p.1 none p.2 [] s2 = q := ⟨_, rfl⟩
      by_cases hf3 : f3 = 0
      · subst hf3
        rw [bnd_ok e3] at e
        obtain ⟨⟨⟨F4, f4⟩, s4⟩, e4⟩ : ∃ q, wlkF p.1 2147483649 0 r.toList s3 = q := ⟨_, rfl⟩
        by_cases hf4 : f4 = 0
        · subst hf4
          rw [bnd_ok e4] at e
          split at e
          · unfold err at e; simp at e
          · rename_i hl
            unfold rtn at e
            simp only [Prod.mk.injEq] at e
            rw [← e.1.1]
            omega
        · rw [bnd_no e4 hf4] at e
          simp only [Prod.mk.injEq] at e
          exact absurd e.1.2 hf4
      · rw [bnd_no e3 hf3] at e
        simp only [Prod.mk.injEq] at e
        exact absurd e.1.2 hf3
  · rw [bnd_no e2 hf] at e
    simp only [Prod.mk.injEq] at e
    exact absurd e.1.2 hf
end
theorem ex_gives (r : Int) : ∀ (L : List Int) (s : Wd) (k : Nat), s.f < 0 → Cn s k → k + 3 * L.length < TOP → Ex (givesU r L) () s k (3 * L.length)
  | [], s, k, hf, hc, hk => ex_rtn _ _ hc _
  | a :: L, s, k, hf, hc, hk => by
    have q : 3 * (a :: L).length = 3 + 3 * L.length := by simp; omega
    rw [q] at hk ⊢
    exact ex_bnd (ex_give hf hc (by omega) r a may5) (fun _ k' _ h1 h2 hc' hf' _ => ex_gives r L _ k' (by rw [hf']; exact hf) hc' (by omega))
def BC : Nat := 30000000000
section
variable {s : Wd} {k : Nat}
theorem ex_rpush (hf : s.f < 0) (hc : Cn s k) (hk : k + 1426 < TOP) (r h q x : Int) : Ex (Wd.rpush r h q x) () s k 1426 := by
  refine ex_bnd (B1 := 2) (B2 := 1424) (ex_hep hf hc (by omega) h) (fun p k1 _ _ g1 hc1 hf1 _ => ?_)
  refine ex_bnd (B1 := 5) (B2 := 1419) (ex_tre (by rw [hf1]; exact hf) hc1 (by omega) _) (fun t k2 _ _ g2 hc2 hf2 _ => ?_)
  refine ex_bnd (B1 := 1417) (B2 := 2) (ex_uni _ 9 (ex_lay r (lef q x).c rfl) 128 t _ _ k2 (by rw [hf2, hf1]; exact hf) hc2 (by omega)) (fun u k3 _ _ g3 hc3 hf3 _ => ?_)
  exact ex_bec (by rw [hf3, hf2, hf1]; exact hf) hc3 (by omega) _ _ _ _
theorem ex_rpop (hf : s.f < 0) (hc : Cn s k) (hk : k + 1430 < TOP) (r h : Int) : Ex (Wd.rpop r h) none s k 1430 := by
  refine ex_bnd (B1 := 2) (B2 := 1428) (ex_hep hf hc (by omega) h) (fun p k1 _ _ g1 hc1 hf1 _ => ?_)
  split
  · exact ex_rtn _ _ hc1 _
  · refine ex_bnd (B1 := 5) (B2 := 1423) (ex_tre (by rw [hf1]; exact hf) hc1 (by omega) _) (fun q k2 _ _ g2 hc2 hf2 _ => ?_)
    cases q with
    | none => exact ex_err _ _ hc2 _
    | some t =>
      show Ex (if reK (oat t.c 0) = true then bnd (mldF (oat t.c 2) (oat t.c 3)) (fun top => bnd (becU h p (uw (p.1 - 1)) top) (fun _ => bnd (giveU r t.at_ 5) (fun _ => rtn (some t.ent)) none) none) none else err none 340) none _ k2 1423
      split
      · refine ex_bnd (B1 := 1418) (B2 := 5) (ex_mld (by rw [hf2, hf1]; exact hf) hc2 (by omega) _ _) (fun z k3 _ _ g3 hc3 hf3 _ => ?_)
        refine ex_bnd (B1 := 2) (B2 := 3) (ex_bec (by rw [hf3, hf2, hf1]; exact hf) hc3 (by omega) _ _ _ _) (fun _ k4 _ _ g4 hc4 hf4 _ => ?_)
        exact ex_bnd (B1 := 3) (B2 := 0) (ex_give (by rw [hf4, hf3, hf2, hf1]; exact hf) hc4 (by omega) r _ may5) (fun _ _ _ _ _ hc5 _ _ => ex_rtn _ _ hc5 0)
      · exact ex_err _ _ hc2 _
theorem ex_rfirst (hf : s.f < 0) (hc : Cn s k) (hk : k + 3 < TOP) (h : Int) : Ex (Wd.rfirst h) none s k 3 := by
  refine ex_bnd (B1 := 1) (B2 := 2) (ex_get hf hc (by unfold TOP at hk; omega) _) (fun x k1 _ _ g1 hc1 hf1 _ => ?_)
  split
  · exact ex_rtn _ _ hc1 _
  · refine ex_bnd (B1 := 2) (B2 := 0) (ex_gets (by rw [hf1]; exact hf) hc1 _ 2 (by omega)) (fun l k2 _ _ _ hc2 _ _ => ?_)
    split
    · exact ex_rtn _ _ hc2 0
    · exact ex_err _ _ hc2 0
theorem ex_rlen (hf : s.f < 0) (hc : Cn s k) (hk : k + 1 < TOP) (h : Int) : Ex (Wd.rlen h) 0 s k 1 :=
  ex_bnd (B1 := 1) (B2 := 0) (ex_get hf hc (by unfold TOP at hk; omega) _) (fun _ _ _ _ _ hc1 _ _ => ex_rtn _ _ hc1 0)
theorem ex_rjoin (hf : s.f < 0) (hc : Cn s k) (hk : k + 1426 < TOP) (h o : Int) : Ex (Wd.rjoin h o) () s k 1426 := by
  unfold Wd.rjoin
  split
  · exact ex_err _ _ hc _
  · refine ex_bnd (B1 := 2) (B2 := 1424) (ex_hep hf hc (by omega) h) (fun m k1 _ _ g1 hc1 hf1 _ => ?_)
    refine ex_bnd (B1 := 2) (B2 := 1422) (ex_hep (by rw [hf1]; exact hf) hc1 (by omega) o) (fun t k2 _ _ g2 hc2 hf2 _ => ?_)
    refine ex_bnd (B1 := 1418) (B2 := 4) (ex_mld (by rw [hf2, hf1]; exact hf) hc2 (by omega) _ _) (fun z k3 _ _ g3 hc3 hf3 _ => ?_)
    exact ex_bnd (B1 := 2) (B2 := 2) (ex_bec (by rw [hf3, hf2, hf1]; exact hf) hc3 (by omega) _ _ _ _) (fun _ k4 _ _ g4 hc4 hf4 _ => ex_bec (by rw [hf4, hf3, hf2, hf1]; exact hf) hc4 (by omega) _ _ _ _)
theorem ex_rall (hf : s.f < 0) (hc : Cn s k) (hk : k + BA < TOP) (h : Int) : Ex (Wd.rall h) [] s k BA :=
  ex_bnd (B1 := BA) (B2 := 0) (ex_allF hf hc hk h) (fun _ _ _ _ _ hc1 _ _ => ex_rtn _ _ hc1 0)
theorem ex_rclear (hf : s.f < 0) (hc : Cn s k) (hk : k + BC < TOP) (r h : Int) : Ex (Wd.rclear r h) 0 s k BC := by
  unfold BC at hk ⊢
  refine ex_bnd (B1 := BA) (B2 := 8525163500) (ex_allF hf hc (by unfold BA; omega) h) (fun F k1 he _ g1 hc1 hf1 _ => ?_)
  have hF : F.length ≤ 2147483647 := allF_few (s := s) (s1 := (allF h s).2) (h := h) (Prod.ext he rfl)
  unfold BA at g1
  refine ex_mono (ex_bnd (B1 := 3 * (F.map Tr.at_).length) (B2 := 2) (ex_gives r _ _ k1 (by rw [hf1]; exact hf) hc1 (by rw [List.length_map]; omega)) (fun _ k2 _ _ g2 hc2 hf2 _ => ?_)) (by rw [List.length_map]; omega)
  rw [List.length_map] at g2
  split
  · exact ex_rtn _ _ hc2 _
  · exact ex_bnd (B1 := 2) (B2 := 0) (ex_puts (by rw [hf2, hf1]; exact hf) hc2 h [0, 0] (by simp; omega)) (fun _ _ _ _ _ hc3 _ _ => ex_rtn _ _ hc3 0)
end
/-- A reply's parts. -/
abbrev Rt := Option (Int × Int) × Int × List (Int × Int)
def rt0 : Rt := (none, 0, [])
def mapR {α β : Type} (g : α → β) (F : Wd → (α × Int) × Wd) : Wd → (β × Int) × Wd := fun s => ((g (F s).1.1, (F s).1.2), (F s).2)
theorem ex_map {α β : Type} {F : Wd → (α × Int) × Wd} {d : α} {s : Wd} {k B : Nat} (h : Ex F d s k B) (g : α → β) : Ex (mapR g F) (g d) s k B := by
  obtain ⟨j, hj, n⟩ := h
  refine ⟨j, hj, n.cn, n.fc, n.len, fun m c hc h1 h2 => ?_, fun m c hc h1 => ?_⟩
  · have q := n.lo m c hc h1 h2
    exact ⟨by unfold mapR; rw [q.1], q.2⟩
  · have q := n.hi m c hc h1
    unfold mapR
    rw [q]
/-- The call of a step. -/
def callF (r h o kd bits wd : Int) : Wd → (Rt × Int) × Wd :=
  if kd = 1 then mapR (fun _ => rt0) (Wd.rpush r h (ofR bits.toNat) wd)
  else if kd = 2 then mapR (fun q => (q, 0, [])) (Wd.rpop r h)
  else if kd = 3 then mapR (fun q => (q, 0, [])) (Wd.rfirst h)
  else if kd = 4 then mapR (fun x => (none, x, [])) (Wd.rlen h)
  else if kd = 5 then mapR (fun l => (none, 0, l)) (Wd.rall h)
  else if kd = 6 then mapR (fun x => (none, x, [])) (Wd.rclear r h)
  else if kd = 7 then mapR (fun _ => rt0) (Wd.rjoin h o)
  else if kd = 8 then mapR (fun _ => rt0) (Wd.rjoin h h)
  else rtn rt0
theorem ex_call {s : Wd} {k : Nat} (hf : s.f < 0) (hc : Cn s k) (hk : k + BC < TOP) (r h o kd bits wd : Int) : Ex (callF r h o kd bits wd) rt0 s k BC := by
  have b1 : BA ≤ BC := by unfold BA BC; omega
  have b2 : 1430 ≤ BC := by unfold BC; omega
  unfold callF
  split
  · exact ex_mono (ex_map (ex_rpush hf hc (by omega) _ _ _ _) (fun _ => rt0)) (by omega)
  split
  · exact ex_mono (ex_map (ex_rpop hf hc (by omega) _ _) (fun q => ((q, 0, []) : Rt))) (by omega)
  split
  · exact ex_mono (ex_map (ex_rfirst hf hc (by omega) _) (fun q => ((q, 0, []) : Rt))) (by omega)
  split
  · exact ex_mono (ex_map (ex_rlen hf hc (by omega) _) (fun x => ((none, x, []) : Rt))) (by omega)
  split
  · exact ex_mono (ex_map (ex_rall hf hc (by omega) _) (fun l => ((none, 0, l) : Rt))) (by omega)
  split
  · exact ex_mono (ex_map (ex_rclear hf hc (by omega) _ _) (fun x => ((none, x, []) : Rt))) (by omega)
  split
  · exact ex_mono (ex_map (ex_rjoin hf hc (by omega) _ _) (fun _ => rt0)) (by omega)
  split
  · exact ex_mono (ex_map (ex_rjoin hf hc (by omega) _ _) (fun _ => rt0)) (by omega)
  · exact ex_rtn _ _ hc _
/-- A call, and how it fails at each of its accesses. -/
theorem fail_call (W : List Int) (r h o kd bits wd : Int) {R : Rt} {e : Int} {s1 : Wd} (heq : callF r h o kd bits wd ⟨W, 0, 0, -1, 0⟩ = ((R, e), s1)) :
    ∃ T : Nat, T ≤ BC ∧ Cn s1 T ∧ s1.W.length = W.length ∧ (∀ (n : Nat) (c : Int), c ≠ 0 → n < T → ∃ s2, callF r h o kd bits wd ⟨W, 0, 0, n, c⟩ = ((rt0, c), s2) ∧ Cn s2 (n + 1) ∧ s2.c = c) ∧ (∀ c : Int, c ≠ 0 → ∃ s2, callF r h o kd bits wd ⟨W, 0, 0, T, c⟩ = ((R, e), s2) ∧ s2.W = s1.W) := by
  obtain ⟨T, hT, q⟩ := ex_call (s := ⟨W, 0, 0, -1, 0⟩) (k := 0) (by show (-1 : Int) < 0; decide) ⟨Int.le_refl _, Int.le_refl _, rfl⟩ (by unfold TOP BC; omega) r h o kd bits wd
  refine ⟨T, hT, ?_, ?_, ?_, ?_⟩
  · have z := q.cn
    rw [heq, Nat.zero_add] at z
    exact z
  · have z := q.len
    rw [heq] at z
    exact z
  · intro n c hc hn
    have z := q.lo n c hc (Nat.zero_le _) (by omega)
    exact ⟨(callF r h o kd bits wd ⟨W, 0, 0, n, c⟩).2, Prod.ext z.1 rfl, z.2⟩
  · intro c hc
    have z := q.hi T c hc (by omega)
    have e2 : (Wd.fa ⟨W, 0, 0, -1, 0⟩ T c) = ⟨W, 0, 0, T, c⟩ := rfl
    rw [e2, heq] at z
    exact ⟨_, z, rfl⟩
end Go.Proofs.Ythlbeohogfjamaa
