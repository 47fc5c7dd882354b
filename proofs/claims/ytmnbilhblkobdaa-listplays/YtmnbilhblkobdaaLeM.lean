/-
  No statement of the seat is proved here. (Several texts in one: LeA, LeB, LeC, LeD, LeE.)
-/
import Derived.Test.YtmnbilhblkobdaaLwM

/- Calls whose tx fails at one access (layer 21), pure: how such calls are put together. No statement of the seat is proved here. -/
namespace Go.Proofs.Ytmnbilhblkobdaa
open Go.RowKit

/-- So many accesses there were. -/
def Cn (s : Wd) (k : Nat) : Prop := 0 ≤ s.g ∧ 0 ≤ s.p ∧ s.g + s.p = k
/-- The same, failing at an access. -/
def Wd.fa (s : Wd) (n : Nat) (c : Int) : Wd := { s with f := n, c := c }
theorem iw_id {x : Int} (h0 : -9223372036854775808 ≤ x) (h1 : x < 9223372036854775808) : iw x = x := by
  unfold iw wrap64; omega
/-- A call that makes j accesses, k having been made: failing at one of them it answers that error and nothing beside it, at once; failing later it goes as ever. -/
structure Nx {α : Type} (F : Wd → (α × Int) × Wd) (d : α) (s : Wd) (k j : Nat) : Prop where
  cn : Cn (F s).2 (k + j)
  fc : (F s).2.f = s.f
  len : (F s).2.W.length = s.W.length
  lo : ∀ (n : Nat) (c : Int), c ≠ 0 → k ≤ n → n < k + j → (F (s.fa n c)).1 = (d, c) ∧ Cn (F (s.fa n c)).2 (n + 1)
  hi : ∀ (n : Nat) (c : Int), c ≠ 0 → k + j ≤ n → F (s.fa n c) = ((F s).1, ((F s).2).fa n c)
def Ex {α : Type} (F : Wd → (α × Int) × Wd) (d : α) (s : Wd) (k B : Nat) : Prop := ∃ j, j ≤ B ∧ Nx F d s k j
/-- One call, and then another one, if it went well. -/
def bnd {α β : Type} (F : Wd → (α × Int) × Wd) (G : α → Wd → (β × Int) × Wd) (d : β) : Wd → (β × Int) × Wd := fun s => if (F s).1.2 ≠ 0 then ((d, (F s).1.2), (F s).2) else G (F s).1.1 (F s).2
def rtn {α : Type} (x : α) : Wd → (α × Int) × Wd := fun s => ((x, 0), s)
def err {α : Type} (d : α) (e : Int) : Wd → (α × Int) × Wd := fun s => ((d, e), s)
def putU (a x : Int) : Wd → (Unit × Int) × Wd := fun s => (((), (s.put a x).1), (s.put a x).2)
theorem ex_same {α : Type} (x : α × Int) (d : α) {s : Wd} {k : Nat} (hc : Cn s k) (B : Nat) : Ex (fun s => (x, s)) d s k B :=
  ⟨0, Nat.zero_le _, hc, rfl, rfl, fun n c _ h1 h2 => by omega, fun n c _ _ => rfl⟩
theorem ex_rtn {α : Type} (x d : α) {s : Wd} {k : Nat} (hc : Cn s k) (B : Nat) : Ex (rtn x) d s k B := ex_same (x, 0) d hc B
theorem ex_err {α : Type} (d : α) (e : Int) {s : Wd} {k : Nat} (hc : Cn s k) (B : Nat) : Ex (err d e) d s k B := ex_same (d, e) d hc B
theorem ex_bnd {α β : Type} {F : Wd → (α × Int) × Wd} {G : α → Wd → (β × Int) × Wd} {d : α} {d' : β} {s : Wd} {k B1 B2 : Nat} (h1 : Ex F d s k B1)
    (h2 : ∀ x k', (F s).1 = (x, 0) → k ≤ k' → k' ≤ k + B1 → Cn (F s).2 k' → (F s).2.f = s.f → (F s).2.W.length = s.W.length → Ex (G x) d' (F s).2 k' B2) : Ex (bnd F G d') d' s k (B1 + B2) := by
  obtain ⟨j1, hj1, n1⟩ := h1
  by_cases he : (F s).1.2 = 0
  · obtain ⟨j2, hj2, n2⟩ := h2 (F s).1.1 (k + j1) (Prod.ext rfl he) (by omega) (by omega) n1.cn n1.fc n1.len
    have e : bnd F G d' s = G (F s).1.1 (F s).2 := if_neg (fun q => q he)
    refine ⟨j1 + j2, by omega, ?_, ?_, ?_, ?_, ?_⟩
    · rw [e, ← Nat.add_assoc]; exact n2.cn
    · rw [e]; exact n2.fc.trans n1.fc
    · rw [e]; exact n2.len.trans n1.len
    · intro n c hc hk hn
      by_cases hlt : n < k + j1
      · have q := n1.lo n c hc hk hlt
        unfold bnd
        rw [q.1]
        simp only [ne_eq, hc, not_false_eq_true, if_true]
        exact ⟨trivial, q.2⟩
      · have q := n1.hi n c hc (by omega)
        have q2 := n2.lo n c hc (by omega) (by omega)
        have e2 : bnd F G d' (s.fa n c) = G (F s).1.1 ((F s).2.fa n c) := by
          unfold bnd
          rw [q]
          exact if_neg (fun z => z he)
        rw [e2]
        exact q2
    · intro n c hc hn
      have q := n1.hi n c hc (by omega)
      have q2 := n2.hi n c hc (by omega)
      have e2 : bnd F G d' (s.fa n c) = G (F s).1.1 ((F s).2.fa n c) := by
        unfold bnd
        rw [q]
        exact if_neg (fun z => z he)
      rw [e2, e]
      exact q2
  · have e : bnd F G d' s = ((d', (F s).1.2), (F s).2) := if_pos he
    refine ⟨j1, by omega, ?_, ?_, ?_, ?_, ?_⟩
    · rw [e]; exact n1.cn
    · rw [e]; exact n1.fc
    · rw [e]; exact n1.len
    · intro n c hc hk hn
      have q := n1.lo n c hc hk hn
      unfold bnd
      rw [q.1]
      simp only [ne_eq, hc, not_false_eq_true, if_true]
      exact ⟨trivial, q.2⟩
    · intro n c hc hn
      have q := n1.hi n c hc hn
      rw [e]
      unfold bnd
      rw [q]
      exact if_pos he
theorem ex_mono {α : Type} {F : Wd → (α × Int) × Wd} {d : α} {s : Wd} {k B B' : Nat} (h : Ex F d s k B) (hb : B ≤ B') : Ex F d s k B' := by
  obtain ⟨j, hj, q⟩ := h
  exact ⟨j, Nat.le_trans hj hb, q⟩
theorem ex_eq {α : Type} {F G : Wd → (α × Int) × Wd} (e : ∀ s, F s = G s) {d : α} {s : Wd} {k B : Nat} (h : Ex G d s k B) : Ex F d s k B := by
  have : F = G := funext e
  rw [this]; exact h
theorem fl_lo {s : Wd} {k : Nat} (h : s.g + s.p = ((k + 1 : Nat) : Int)) (hk : k < 1152921504606846976) : s.fl = decide (0 ≤ s.f ∧ s.f ≤ k) := by
  unfold Wd.fl
  have q : iw ((k + 1 : Nat) : Int) = ((k + 1 : Nat) : Int) := iw_id (by omega) (by omega)
  have q2 : iw (((k + 1 : Nat) : Int) - 1) = k := by rw [iw_id (by omega) (by omega)]; omega
  rw [h, q, q2]
  by_cases h1 : 0 ≤ s.f <;> by_cases h2 : s.f ≤ k <;> simp [h1, h2]
theorem ex_get {s : Wd} {k : Nat} (hf : s.f < 0) (hc : Cn s k) (hk : k < 1152921504606846976) (a : Int) : Ex (fun s => s.get a) 0 s k 1 := by
  obtain ⟨h1, h2, h3⟩ := hc
  have hg : iw (s.g + 1) = s.g + 1 := iw_id (by omega) (by omega)
  have hfl : ∀ (n : Int) (c : Int), (({ s with f := n, c := c } : Wd).gt).fl = decide (0 ≤ n ∧ n ≤ k) := by
    intro n c
    have q := fl_lo (s := ({ s with f := n, c := c } : Wd).gt) (k := k) (by show iw (s.g + 1) + s.p = _; rw [hg]; omega) hk
    exact q
  have hcn : ∀ (n : Int) (c : Int), Cn (({ s with f := n, c := c } : Wd).gt) (k + 1) := by
    intro n c
    exact ⟨by show 0 ≤ iw (s.g + 1); rw [hg]; omega, h2, by show iw (s.g + 1) + s.p = _; rw [hg]; omega⟩
  have hs : s.get a = if (s.W.length : Int) ≤ a then ((0, 4), s.gt) else ((oat s.W a.toNat, 0), s.gt) := get_no hf a
  refine ⟨1, Nat.le_refl _, ?_, ?_, ?_, ?_, ?_⟩
  · rw [hs]; split <;> exact hcn s.f s.c
  · rw [hs]; split <;> rfl
  · rw [hs]; split <;> rfl
  · intro n c hc0 hkn hn
    obtain rfl : n = k := by omega
    have q : (s.fa n c).get a = ((0, c), (s.fa n c).gt) := by
      unfold Wd.get
      rw [if_pos]
      · rfl
      · exact (hfl n c).trans (by simp)
    show ((s.fa n c).get a).1 = _ ∧ _
    rw [q]
    exact ⟨rfl, hcn n c⟩
  · intro n c hc0 hn
    have q : (s.fa n c).get a = if (s.W.length : Int) ≤ a then ((0, 4), (s.fa n c).gt) else ((oat s.W a.toNat, 0), (s.fa n c).gt) := by
      unfold Wd.get
      rw [if_neg]
      · rfl
      · rw [show ((s.fa n c).gt).fl = decide (0 ≤ (n : Int) ∧ (n : Int) ≤ k) from hfl n c]
        simp
        omega
    show (s.fa n c).get a = _
    rw [q, hs]
    split <;> rfl
theorem put_no {s : Wd} (h : s.f < 0) (a x : Int) : s.put a x = if (s.W.length : Int) ≤ a then (4, s.pt) else (0, { s.pt with W := s.W.set a.toNat x }) := by
  unfold Wd.put
  rw [if_neg]
  unfold Wd.fl
  simp only [Bool.and_eq_true, decide_eq_true_eq]
  rintro ⟨q, _⟩
  have : (s.pt).f = s.f := rfl
  omega
theorem ex_put {s : Wd} {k : Nat} (hf : s.f < 0) (hc : Cn s k) (hk : k < 1152921504606846976) (a x : Int) : Ex (putU a x) () s k 1 := by
  obtain ⟨h1, h2, h3⟩ := hc
  have hg : iw (s.p + 1) = s.p + 1 := iw_id (by omega) (by omega)
  have hfl : ∀ (n : Int) (c : Int), (({ s with f := n, c := c } : Wd).pt).fl = decide (0 ≤ n ∧ n ≤ k) := by
    intro n c
    exact fl_lo (s := ({ s with f := n, c := c } : Wd).pt) (k := k) (by show s.g + iw (s.p + 1) = _; rw [hg]; omega) hk
  have hcn : ∀ (W : List Int) (n : Int) (c : Int), Cn { (({ s with f := n, c := c } : Wd).pt) with W := W } (k + 1) := by
    intro W n c
    exact ⟨h1, by show 0 ≤ iw (s.p + 1); rw [hg]; omega, by show s.g + iw (s.p + 1) = _; rw [hg]; omega⟩
  have hs := put_no hf a x
  refine ⟨1, Nat.le_refl _, ?_, ?_, ?_, ?_, ?_⟩
  · unfold putU; rw [hs]; split
    · exact hcn s.W s.f s.c
    · exact hcn _ s.f s.c
  · unfold putU; rw [hs]; split <;> rfl
  · unfold putU; rw [hs]; split
    · rfl
    · simp
  · intro n c hc0 hkn hn
    obtain rfl : n = k := by omega
    have q : (s.fa n c).put a x = (c, (s.fa n c).pt) := by
      unfold Wd.put
      rw [if_pos]
      · rfl
      · exact (hfl n c).trans (by simp)
    unfold putU
    rw [q]
    exact ⟨rfl, hcn s.W n c⟩
  · intro n c hc0 hn
    have q : (s.fa n c).put a x = if (s.W.length : Int) ≤ a then (4, (s.fa n c).pt) else (0, { (s.fa n c).pt with W := s.W.set a.toNat x }) := by
      unfold Wd.put
      rw [if_neg]
      · rfl
      · rw [show ((s.fa n c).pt).fl = decide (0 ≤ (n : Int) ∧ (n : Int) ≤ k) from hfl n c]
        simp
        omega
    unfold putU
    rw [q, hs]
    split <;> rfl
end Go.Proofs.Ytmnbilhblkobdaa


/- Room's calls and list's small ones, failing at one access (layer 21), pure. No statement of the seat is proved here. -/
namespace Go.Proofs.Ytmnbilhblkobdaa
open Go.RowKit

/-- Below this many accesses nothing goes round. -/
def TOP : Nat := 1152921504606846976
def giveU (r a n : Int) : Wd → (Unit × Int) × Wd := fun s => (((), (s.give r a n).1), (s.give r a n).2)
def emptyU (l : Int) : Wd → (Unit × Int) × Wd := fun s => (((), (s.empty l).1), (s.empty l).2)
def hangU (t : Sp) (node key : Int) : Wd → (Unit × Int) × Wd := fun s => (((), (s.hang t node key).1), (s.hang t node key).2)
def unhangU (t : Sp) : Wd → (Unit × Int) × Wd := fun s => (((), (s.unhang t).1), (s.unhang t).2)
def recountU (l m : Int) : Wd → (Unit × Int) × Wd := fun s => (((), (s.recount l m).1), (s.recount l m).2)
def dropU (r l : Int) : Wd → (Unit × Int) × Wd := fun s => (((), (s.drop r l).1), (s.drop r l).2)
def givesU (r : Int) (L : List Sp) : Wd → (Unit × Int) × Wd := fun s => (((), (s.gives r L).1), (s.gives r L).2)

def frC (x y : Int) : Int := if x < y then uw (y - x) else 0
section
variable {s : Wd} {k : Nat}
theorem ex_takeG (hf : s.f < 0) (hc : Cn s k) (hk : k + 2 < TOP) (h p : Int) : Ex (fun s => s.takeG h p) 0 s k 2 := by
  refine ex_eq (G := bnd (fun s => s.get p) (fun x => bnd (putU h x) (fun _ => rtn p) 0) 0) (fun s => ?_) ?_
  · unfold Wd.takeG bnd putU rtn
    simp only [ne_eq]
  · refine ex_bnd (B1 := 1) (B2 := 1) (ex_get hf hc (by unfold TOP at hk; omega) p) (fun x k' _ h1 h2 hc' hf' _ => ?_)
    exact ex_bnd (B1 := 1) (B2 := 0) (ex_put (by rw [hf']; exact hf) hc' (by unfold TOP at hk; omega) h x) (fun _ k'' _ _ _ hc'' _ _ => ex_rtn _ _ hc'' 0)
theorem ex_takeN (hf : s.f < 0) (hc : Cn s k) (hk : k + 3 < TOP) (a n : Int) : Ex (fun s => s.takeN a n) 0 s k 3 := by
  refine ex_eq (G := bnd (fun s => s.get a) (fun x => bnd (fun s => s.get (endA a)) (fun y => if frC x y < n then err 0 9 else bnd (putU a (uw (x + n))) (fun _ => rtn x) 0) 0) 0) (fun s => ?_) ?_
  · unfold Wd.takeN Wd.free bnd putU rtn err
    by_cases h1 : (s.get a).1.2 = 0
    · by_cases h2 : ((s.get a).2.get (endA a)).1.2 = 0
      · simp only [ne_eq, h1, h2, not_true_eq_false, if_false]
        by_cases h3 : frC (s.get a).1.1 ((s.get a).2.get (endA a)).1.1 < n
        · rw [if_pos h3]; exact if_pos h3
        · rw [if_neg h3]; exact if_neg h3
      · simp [h1, h2]
    · simp [h1]
  · refine ex_bnd (B1 := 1) (B2 := 2) (ex_get hf hc (by unfold TOP at hk; omega) a) (fun x k' _ h1 h2 hc' hf' _ => ?_)
    refine ex_bnd (B1 := 1) (B2 := 1) (ex_get (by rw [hf']; exact hf) hc' (by unfold TOP at hk; omega) (endA a)) (fun y k'' _ h3 h4 hc'' hf'' _ => ?_)
    split
    · exact ex_err _ _ hc'' 1
    · exact ex_bnd (B1 := 1) (B2 := 0) (ex_put (by rw [hf'', hf']; exact hf) hc'' (by unfold TOP at hk; omega) a _) (fun _ k3 _ _ _ hc3 _ _ => ex_rtn _ _ hc3 0)
theorem ex_take (hf : s.f < 0) (hc : Cn s k) (hk : k + 4 < TOP) (a : Int) : Ex (fun s => s.take a 2) 0 s k 4 := by
  have hm : mayN 2 := by unfold mayN; decide
  refine ex_eq (G := bnd (fun s => s.get (hdA a 2)) (fun x => if x = 0 then (fun s => s.takeN a 2) else (fun s => s.takeG (hdA a 2) (uw (x - 1)))) 0) (fun s => ?_) ?_
  · unfold Wd.take bnd
    simp only [hm, not_true_eq_false, if_false]
    split
    · rfl
    · split <;> rfl
  · refine ex_bnd (B1 := 1) (B2 := 3) (ex_get hf hc (by unfold TOP at hk; omega) _) (fun x k' _ h1 h2 hc' hf' _ => ?_)
    split
    · exact ex_takeN (by rw [hf']; exact hf) hc' (by omega) a 2
    · exact ex_mono (ex_takeG (by rw [hf']; exact hf) hc' (by omega) _ _) (by omega)
theorem ex_give (hf : s.f < 0) (hc : Cn s k) (hk : k + 3 < TOP) (r a : Int) : Ex (giveU r a 2) () s k 3 := by
  have hm : mayN 2 := by unfold mayN; decide
  refine ex_eq (G := bnd (fun s => s.get (hdA r 2)) (fun x => bnd (putU a x) (fun _ => putU (hdA r 2) (uw (a + 1))) ()) ()) (fun s => ?_) ?_
  · unfold giveU Wd.give bnd putU
    simp only [hm, not_true_eq_false, if_false]
    by_cases h1 : (s.get (hdA r 2)).1.2 = 0
    · by_cases h2 : ((s.get (hdA r 2)).2.put a (s.get (hdA r 2)).1.1).1 = 0
      · simp [h1, h2]
      · simp [h1, h2]
    · simp [h1]
  · refine ex_bnd (B1 := 1) (B2 := 2) (ex_get hf hc (by unfold TOP at hk; omega) _) (fun x k' _ h1 h2 hc' hf' _ => ?_)
    exact ex_bnd (B1 := 1) (B2 := 1) (ex_put (by rw [hf']; exact hf) hc' (by unfold TOP at hk; omega) a x) (fun _ k'' _ _ _ hc'' hf'' _ => ex_put (by rw [hf'', hf']; exact hf) hc'' (by unfold TOP at hk; omega) _ _)
theorem ex_empty (hf : s.f < 0) (hc : Cn s k) (hk : k + 2 < TOP) (l : Int) : Ex (emptyU l) () s k 2 := by
  refine ex_eq (G := bnd (putU l 0) (fun _ => putU (ld l) 0) ()) (fun s => ?_) ?_
  · unfold emptyU Wd.empty bnd putU
    by_cases h1 : (s.put l 0).1 = 0 <;> simp [h1]
  · exact ex_bnd (B1 := 1) (B2 := 1) (ex_put hf hc (by unfold TOP at hk; omega) _ _) (fun _ k' _ _ _ hc' hf' _ => ex_put (by rw [hf']; exact hf) hc' (by unfold TOP at hk; omega) _ _)
theorem ex_hang (hf : s.f < 0) (hc : Cn s k) (hk : k + 3 < TOP) (t : Sp) (node key : Int) : Ex (hangU t node key) () s k 3 := by
  refine ex_eq (G := bnd (putU node key) (fun _ => bnd (putU (ld node) t.n) (fun _ => putU t.l (uw (node + 1))) ()) ()) (fun s => ?_) ?_
  · unfold hangU Wd.hang bnd putU
    by_cases h1 : (s.put node key).1 = 0
    · by_cases h2 : ((s.put node key).2.put (ld node) t.n).1 = 0 <;> simp [h1, h2]
    · simp [h1]
  · refine ex_bnd (B1 := 1) (B2 := 2) (ex_put hf hc (by unfold TOP at hk; omega) _ _) (fun _ k' _ h1 h2 hc' hf' _ => ?_)
    exact ex_bnd (B1 := 1) (B2 := 1) (ex_put (by rw [hf']; exact hf) hc' (by unfold TOP at hk; omega) _ _) (fun _ k'' _ _ _ hc'' hf'' _ => ex_put (by rw [hf'', hf']; exact hf) hc'' (by unfold TOP at hk; omega) _ _)
theorem ex_unhang (hf : s.f < 0) (hc : Cn s k) (hk : k + 2 < TOP) (t : Sp) : Ex (unhangU t) () s k 2 := by
  refine ex_eq (G := bnd (fun s => s.get (ld t.nd)) (fun x => putU t.l x) ()) (fun s => ?_) ?_
  · unfold unhangU Wd.unhang bnd putU
    by_cases h1 : (s.get (ld t.nd)).1.2 = 0 <;> simp [h1]
  · exact ex_bnd (B1 := 1) (B2 := 1) (ex_get hf hc (by unfold TOP at hk; omega) _) (fun _ k' _ _ _ hc' hf' _ => ex_put (by rw [hf']; exact hf) hc' (by unfold TOP at hk; omega) _ _)
theorem ex_recount (hf : s.f < 0) (hc : Cn s k) (hk : k + 2 < TOP) (l m : Int) : Ex (recountU l m) () s k 2 := by
  refine ex_eq (G := bnd (fun s => s.get l) (fun x => putU l (uw (x + m))) ()) (fun s => ?_) ?_
  · unfold recountU Wd.recount bnd putU
    by_cases h1 : (s.get l).1.2 = 0 <;> simp [h1]
  · exact ex_bnd (B1 := 1) (B2 := 1) (ex_get hf hc (by unfold TOP at hk; omega) _) (fun _ k' _ _ _ hc' hf' _ => ex_put (by rw [hf']; exact hf) hc' (by unfold TOP at hk; omega) _ _)
theorem ex_new (hf : s.f < 0) (hc : Cn s k) (hk : k + 6 < TOP) (r : Int) : Ex (fun s => s.new r) 0 s k 6 := by
  refine ex_eq (G := bnd (fun s => s.take r 2) (fun x => bnd (emptyU x) (fun _ => rtn x) 0) 0) (fun s => ?_) ?_
  · unfold Wd.new bnd emptyU rtn
    simp only [ne_eq]
  · refine ex_bnd (B1 := 4) (B2 := 2) (ex_take hf hc (by omega) r) (fun x k' _ h1 h2 hc' hf' _ => ?_)
    exact ex_bnd (B1 := 2) (B2 := 0) (ex_empty (by rw [hf']; exact hf) hc' (by omega) x) (fun _ k'' _ _ _ hc'' _ _ => ex_rtn _ _ hc'' 0)
theorem ex_len (hf : s.f < 0) (hc : Cn s k) (hk : k + 1 < TOP) (l : Int) : Ex (fun s => s.len l) 0 s k 1 := by
  refine ex_eq (G := bnd (fun s => s.get l) (fun x => rtn x) 0) (fun s => ?_) ?_
  · unfold Wd.len bnd rtn
    simp only [ne_eq]
  · exact ex_bnd (B1 := 1) (B2 := 0) (ex_get hf hc (by unfold TOP at hk; omega) _) (fun _ k' _ _ _ hc' _ _ => ex_rtn _ _ hc' 0)
theorem ex_follow (hf : s.f < 0) (hc : Cn s k) (hk : k + 2 < TOP) (a : Int) : Ex (fun s => s.follow a) Sp.zero s k 2 := by
  refine ex_eq (G := bnd (fun s => s.get a) (fun x => if x = 0 then rtn ⟨a, 0, 0⟩ else bnd (fun s => s.get (uw (x - 1))) (fun y => rtn ⟨a, x, y⟩) Sp.zero) Sp.zero) (fun s => ?_) ?_
  · unfold Wd.follow bnd rtn
    by_cases h1 : (s.get a).1.2 = 0
    · by_cases h2 : (s.get a).1.1 = 0 <;> simp [h1, h2]
    · simp [h1]
  · refine ex_bnd (B1 := 1) (B2 := 1) (ex_get hf hc (by unfold TOP at hk; omega) a) (fun x k' _ h1 h2 hc' hf' _ => ?_)
    split
    · exact ex_rtn _ _ hc' 1
    · exact ex_bnd (B1 := 1) (B2 := 0) (ex_get (by rw [hf']; exact hf) hc' (by unfold TOP at hk; omega) _) (fun _ k'' _ _ _ hc'' _ _ => ex_rtn _ _ hc'' 0)
end
end Go.Proofs.Ytmnbilhblkobdaa


/- Ways and list's calls, failing at one access (layer 21), pure. No statement of the seat is proved here. -/
namespace Go.Proofs.Ytmnbilhblkobdaa
open Go.RowKit

/-- A way as a call: its spot and the spots passed over. -/
def wayF (pass : List Sp → Sp → Bool) (m : Nat) (b : Sp) (a : Int) (P : List Sp) : Wd → ((Sp × List Sp) × Int) × Wd := fun s => ((((way pass m b a P s).1.1, if (way pass m b a P s).1.2 ≠ 0 then [] else (way pass m b a P s).2.1), (way pass m b a P s).1.2), (way pass m b a P s).2.2)
theorem bnd_ok {α β : Type} {F : Wd → (α × Int) × Wd} {G : α → Wd → (β × Int) × Wd} {d : β} {s s1 : Wd} {x : α} (h : F s = ((x, 0), s1)) : bnd F G d s = G x s1 := by
  unfold bnd; rw [h]; exact if_neg (fun q => q rfl)
theorem bnd_er {α β : Type} {F : Wd → (α × Int) × Wd} {G : α → Wd → (β × Int) × Wd} {d : β} {s s1 : Wd} {x : α} {e : Int} (h : F s = ((x, e), s1)) (he : e ≠ 0) : bnd F G d s = ((d, e), s1) := by
  unfold bnd; rw [h]; exact if_pos he
theorem wayF_succ (pass : List Sp → Sp → Bool) (m : Nat) (b : Sp) (a : Int) (P : List Sp) (s : Wd) :
    wayF pass (m + 1) b a P s = bnd (fun s => s.follow a) (fun t => if t.n = 0 then rtn (t, P) else if b.n ≠ 0 ∧ t.k ≤ b.k then err (Sp.zero, []) 310 else if pass P t = false then rtn (t, P) else wayF pass m t (ld t.nd) (P ++ [t])) (Sp.zero, []) s := by
  obtain ⟨⟨⟨t, e⟩, s1⟩, eq⟩ : ∃ r, s.follow a = r := ⟨_, rfl⟩
  by_cases he : e = 0
  · subst he
    rw [bnd_ok (F := fun s => s.follow a) eq]
    by_cases hn : t.n = 0
    · rw [if_pos hn]
      unfold wayF
      rw [way_end eq (.inr hn)]
      simp [rtn]
    · rw [if_neg hn]
      by_cases hb : b.n ≠ 0 ∧ t.k ≤ b.k
      · rw [if_pos hb]
        unfold wayF
        rw [way_list eq hn hb.1 hb.2]
        simp [err]
      · rw [if_neg hb]
        cases hp : pass P t with
        | false =>
          rw [if_pos rfl]
          unfold wayF
          rw [way_stop eq hn hb hp]
          simp [rtn]
        | true =>
          rw [if_neg (by decide)]
          unfold wayF
          rw [way_next eq hn hb hp]
  · rw [bnd_er (F := fun s => s.follow a) eq he]
    have hz : t = Sp.zero := by
      have q := follow_ce eq
      rcases q.2.2 with q | q
      · exact absurd q he
      · exact q
    unfold wayF
    rw [way_end eq (.inl he), hz]
    simp [he]
theorem follow_mem' {s s1 : Wd} {a : Int} {t : Sp} (h : s.follow a = ((t, 0), s1)) (hn : t.n ≠ 0) (hc : s.c ≠ 0 ∨ s.f < 0) : t.k ∈ s.W := by
  have g : (s.get a).2.W = s.W := by
    unfold Wd.get
    split
    · rfl
    · split <;> rfl
  unfold Wd.follow at h
  split at h
  · simp only [Prod.mk.injEq] at h; obtain ⟨⟨rfl, _⟩, _⟩ := h; exact absurd rfl hn
  · split at h
    · simp only [Prod.mk.injEq] at h; obtain ⟨⟨rfl, _⟩, _⟩ := h; exact absurd rfl hn
    · split at h
      · simp only [Prod.mk.injEq] at h; obtain ⟨⟨rfl, _⟩, _⟩ := h; exact absurd rfl hn
      · rename_i h5
        simp only [Prod.mk.injEq] at h; obtain ⟨⟨rfl, _⟩, _⟩ := h
        show ((s.get a).2.get (uw ((s.get a).1.1 - 1))).1.1 ∈ s.W
        rw [← g]
        obtain ⟨⟨⟨x, e⟩, s2⟩, eq⟩ : ∃ r, (s.get a).2.get (uw ((s.get a).1.1 - 1)) = r := ⟨_, rfl⟩
        rw [eq] at h5 ⊢
        have he : e = 0 := Classical.not_not.1 h5
        subst he
        exact get_mem (uw_isW _).1 eq ((get_like s a).ce hc)
theorem ex_way (pass : List Sp → Sp → Bool) : ∀ (m : Nat) (b : Sp) (a : Int) (P : List Sp) (s : Wd) (k : Nat), s.f < 0 → Cn s k → s.W.length ≤ 1000000 → k + 2 * (1000001 - P.length) < TOP → Ris s.W P b → Ex (wayF pass m b a P) (Sp.zero, []) s k (2 * (1000001 - P.length))
  | 0, b, a, P, s, k, hf, hc, hl, hk, hr => by
    refine ex_eq (G := rtn (Sp.zero, P)) (fun s => ?_) (ex_rtn _ _ hc _)
    unfold wayF way rtn
    simp
  | m + 1, b, a, P, s, k, hf, hc, hl, hk, hr => by
    have hPl := hr.len
    refine ex_eq (wayF_succ pass m b a P) (ex_mono (B := 2 + 2 * (1000001 - (P.length + 1))) ?_ (by omega))
    refine ex_bnd (ex_follow hf hc (by omega) a) (fun t k' he h1 h2 hc' hf' hl' => ?_)
    obtain ⟨⟨⟨t', e⟩, s1⟩, eq⟩ : ∃ r, s.follow a = r := ⟨_, rfl⟩
    rw [eq] at he hc' hf' hl' ⊢
    simp only at he hc' hf' hl' ⊢
    simp only [Prod.mk.injEq] at he
    obtain ⟨rfl, rfl⟩ := he
    split
    · exact ex_rtn _ _ hc' _
    · split
      · exact ex_err _ _ hc' _
      · split
        · exact ex_rtn _ _ hc' _
        · rename_i hn hb hp
          have hwW : s1.W = s.W := by
            have q : (s.follow a).2.W = s.W := by
              unfold Wd.follow
              have g : ∀ (s : Wd) (a : Int), (s.get a).2.W = s.W := by
                intro s a
                unfold Wd.get
                split
                · rfl
                · split <;> rfl
              split
              · exact g s a
              · split
                · exact g s a
                · split
                  · exact (g _ _).trans (g s a)
                  · exact (g _ _).trans (g s a)
            rw [eq] at q
            exact q
          have hmem : t'.k ∈ s.W := follow_mem' eq hn (.inr hf)
          have hr' : Ris s1.W (P ++ [t']) t' := by rw [hwW]; exact hr.next hmem hn hb
          have q := ex_way pass m t' (ld t'.nd) (P ++ [t']) s1 k' (by rw [hf']; exact hf) hc' (by rw [hwW]; exact hl) (by simp only [List.length_append, List.length_cons, List.length_nil]; omega) hr'
          simpa using q
end Go.Proofs.Ytmnbilhblkobdaa


/- List's calls, failing at one access (layer 21), pure. No statement of the seat is proved here. -/
namespace Go.Proofs.Ytmnbilhblkobdaa
open Go.RowKit

/-- Beside an error nothing is answered. -/
def Df {α : Type} (F : Wd → (α × Int) × Wd) (d : α) : Prop := ∀ s, (F s).1.2 ≠ 0 → (F s).1.1 = d
theorem df_bnd {α β : Type} {F : Wd → (α × Int) × Wd} {G : α → Wd → (β × Int) × Wd} {d : β} (h : ∀ x, Df (G x) d) : Df (bnd F G d) d := by
  intro s he
  by_cases h0 : (F s).1.2 = 0
  · have e : bnd F G d s = G (F s).1.1 (F s).2 := if_neg (fun q => q h0)
    rw [e] at he ⊢
    exact h _ _ he
  · have e : bnd F G d s = ((d, (F s).1.2), (F s).2) := if_pos h0
    rw [e]
theorem df_rtn {α : Type} (x d : α) : Df (rtn x) d := fun _ he => absurd rfl he
theorem df_err {α : Type} (d : α) (e : Int) : Df (err d e) d := fun _ _ => rfl
theorem df_unit (F : Wd → (Unit × Int) × Wd) : Df F () := fun _ _ => rfl
theorem df_eq {α : Type} {F G : Wd → (α × Int) × Wd} {d : α} (e : ∀ s, F s = G s) (h : Df G d) : Df F d := by
  intro s; rw [e]; exact h s
theorem way_zero (pass : List Sp → Sp → Bool) : ∀ (m : Nat) (b : Sp) (a : Int) (P : List Sp) (s : Wd), (way pass m b a P s).1.2 ≠ 0 → (way pass m b a P s).1.1 = Sp.zero
  | 0, b, a, P, s, h => absurd rfl h
  | m + 1, b, a, P, s, h => by
    obtain ⟨⟨⟨t, e⟩, s1⟩, eq⟩ : ∃ r, s.follow a = r := ⟨_, rfl⟩
    by_cases h1 : e ≠ 0 ∨ t.n = 0
    · rw [way_end eq h1] at h ⊢
      rcases (follow_ce eq).2.2 with q | q
      · exact absurd q h
      · exact q
    · have he : e = 0 := Classical.not_not.1 (fun q => h1 (.inl q))
      have hn : t.n ≠ 0 := fun q => h1 (.inr q)
      subst he
      by_cases hb : b.n ≠ 0 ∧ t.k ≤ b.k
      · rw [way_list eq hn hb.1 hb.2]
      · cases hp : pass P t with
        | false => rw [way_stop eq hn hb hp] at h; exact absurd rfl h
        | true =>
          rw [way_next eq hn hb hp] at h ⊢
          exact way_zero pass m t _ _ s1 h
def wayS (pass : List Sp → Sp → Bool) (l : Int) : Wd → ((Sp × List Sp) × Int) × Wd := wayF pass FU Sp.zero (ld l) []
theorem wayS_of {pass : List Sp → Sp → Bool} {l e : Int} {t : Sp} {P : List Sp} {s s1 : Wd} (h : s.way pass l = ((t, e), P, s1)) : wayS pass l s = (((t, if e ≠ 0 then [] else P), e), s1) := by
  unfold wayS wayF
  have q : way pass FU Sp.zero (ld l) [] s = ((t, e), P, s1) := h
  rw [q]
def seekF (l key : Int) : Wd → (Sp × Int) × Wd := bnd (wayS (pLt key) l) (fun x => rtn x.1) Sp.zero
theorem seek_eq (l key : Int) (s : Wd) : s.seek l key = seekF l key s := by
  obtain ⟨⟨⟨t, e⟩, P, s1⟩, eq⟩ : ∃ r, s.way (pLt key) l = r := ⟨_, rfl⟩
  unfold Wd.seek seekF
  rw [eq]
  by_cases he : e = 0
  · subst he
    rw [bnd_ok (wayS_of eq)]
    rfl
  · rw [bnd_er (wayS_of eq) he]
    have q := way_zero (pLt key) FU Sp.zero (ld l) [] s
    have q2 : way (pLt key) FU Sp.zero (ld l) [] s = ((t, e), P, s1) := eq
    rw [q2] at q
    rw [show t = Sp.zero from q he]
def hasF (l key : Int) : Wd → (Bool × Int) × Wd := bnd (seekF l key) (fun t => rtn (t.has key)) false
theorem seek_df (l key : Int) : Df (seekF l key) Sp.zero := df_bnd (fun _ => df_rtn _ _)
theorem has_eq (l key : Int) (s : Wd) : s.has l key = hasF l key s := by
  obtain ⟨⟨⟨t, e⟩, s1⟩, eq⟩ : ∃ r, seekF l key s = r := ⟨_, rfl⟩
  unfold Wd.has hasF
  rw [seek_eq, eq]
  by_cases he : e = 0
  · subst he; rw [bnd_ok eq]; rfl
  · rw [bnd_er eq he]
    have q := seek_df l key s
    rw [eq] at q
    rw [show t = Sp.zero from q he]
    rfl
def aboveF (pass : List Sp → Sp → Bool) (l : Int) : Wd → ((Int × Bool) × Int) × Wd := bnd (wayS pass l) (fun x => rtn (x.1.k, x.1.there)) (0, false)
theorem above_eq (pass : List Sp → Sp → Bool) (l : Int) (s : Wd) : ((((s.way pass l).1.1.k, (s.way pass l).1.1.there), (s.way pass l).1.2), (s.way pass l).2.2) = aboveF pass l s := by
  obtain ⟨⟨⟨t, e⟩, P, s1⟩, eq⟩ : ∃ r, s.way pass l = r := ⟨_, rfl⟩
  unfold aboveF
  rw [eq]
  by_cases he : e = 0
  · subst he; rw [bnd_ok (wayS_of eq)]; rfl
  · rw [bnd_er (wayS_of eq) he]
    have q := way_zero pass FU Sp.zero (ld l) [] s
    have q2 : way pass FU Sp.zero (ld l) [] s = ((t, e), P, s1) := eq
    rw [q2] at q
    rw [show t = Sp.zero from q he]
    rfl
def allF (l : Int) : Wd → (List Sp × Int) × Wd := bnd (fun s => s.get l) (fun x => bnd (wayS (pAll x) l) (fun q => if q.1.n ≠ 0 ∨ (q.2.length : Int) ≠ x then err [] 310 else rtn q.2) []) []
theorem all_eq (l : Int) (s : Wd) : s.all l = allF l s := by
  obtain ⟨⟨⟨x, e⟩, s1⟩, eq⟩ : ∃ r, s.get l = r := ⟨_, rfl⟩
  unfold Wd.all allF
  rw [eq]
  by_cases he : e = 0
  · subst he
    rw [bnd_ok (F := fun s => s.get l) eq]
    obtain ⟨⟨⟨t, f⟩, P, s2⟩, eq2⟩ : ∃ r, s1.way (pAll x) l = r := ⟨_, rfl⟩
    simp only [eq2]
    by_cases hf : f = 0
    · subst hf
      rw [bnd_ok (wayS_of eq2)]
      simp only [ne_eq, not_true_eq_false, if_false]
      by_cases hc : ¬ t.n = 0 ∨ ¬ (P.length : Int) = x
      · rw [if_pos hc, if_pos hc]; rfl
      · rw [if_neg hc, if_neg hc]; rfl
    · rw [bnd_er (wayS_of eq2) hf]
      simp [hf]
  · rw [bnd_er (F := fun s => s.get l) eq he]
    simp [he]
def keysF (l : Int) : Wd → (List Int × Int) × Wd := bnd (allF l) (fun L => rtn (L.map Sp.k)) []
theorem keys_eq (l : Int) (s : Wd) : s.keys l = keysF l s := by
  unfold Wd.keys keysF bnd rtn
  rw [all_eq]
def insF (r l key : Int) : Wd → (Bool × Int) × Wd := bnd (seekF l key) (fun t => if t.has key = true then rtn false else bnd (fun s => s.take r 2) (fun x => bnd (hangU t x key) (fun _ => bnd (recountU l 1) (fun _ => rtn true) false) false) false) false
theorem ins_eq (r l key : Int) (s : Wd) : s.insert r l key = insF r l key s := by
  obtain ⟨⟨⟨t, e⟩, s1⟩, eq⟩ : ∃ r, seekF l key s = r := ⟨_, rfl⟩
  unfold Wd.insert insF
  rw [seek_eq, eq]
  by_cases he : e = 0
  · subst he
    rw [bnd_ok eq]
    by_cases hh : t.has key = true
    · simp [hh, rtn]
    · simp only [ne_eq, not_true_eq_false, false_or, hh, if_false, Bool.false_eq_true]
      obtain ⟨⟨⟨x, f⟩, s2⟩, eq2⟩ : ∃ r', s1.take r 2 = r' := ⟨_, rfl⟩
      rw [eq2]
      by_cases hf : f = 0
      · subst hf
        rw [bnd_ok (F := fun s => s.take r 2) eq2]
        obtain ⟨⟨f2, s3⟩, eq3⟩ : ∃ r', s2.hang t x key = r' := ⟨_, rfl⟩
        have h3 : hangU t x key s2 = (((), f2), s3) := by unfold hangU; rw [eq3]
        simp only [eq3]
        by_cases hf2 : f2 = 0
        · subst hf2
          rw [bnd_ok h3]
          obtain ⟨⟨f3, s4⟩, eq4⟩ : ∃ r', s3.recount l 1 = r' := ⟨_, rfl⟩
          have h4 : recountU l 1 s3 = (((), f3), s4) := by unfold recountU; rw [eq4]
          simp only [eq4]
          by_cases hf3 : f3 = 0
          · subst hf3; rw [bnd_ok h4]; simp [rtn]
          · rw [bnd_er h4 hf3]; simp [hf3]
        · rw [bnd_er h3 hf2]; simp [hf2]
      · rw [bnd_er (F := fun s => s.take r 2) eq2 hf]; simp [hf]
  · rw [bnd_er eq he]; simp [he]
def remF (r l key : Int) : Wd → (Bool × Int) × Wd := bnd (seekF l key) (fun t => if t.has key = false then rtn false else bnd (unhangU t) (fun _ => bnd (recountU l 18446744073709551615) (fun _ => bnd (giveU r t.nd 2) (fun _ => rtn true) false) false) false) false
theorem rem_eq (r l key : Int) (s : Wd) : s.remove r l key = remF r l key s := by
  obtain ⟨⟨⟨t, e⟩, s1⟩, eq⟩ : ∃ r, seekF l key s = r := ⟨_, rfl⟩
  unfold Wd.remove remF
  rw [seek_eq, eq]
  by_cases he : e = 0
  · subst he
    rw [bnd_ok eq]
    by_cases hh : t.has key = false
    · simp [hh, rtn]
    · rw [if_neg (show ¬ ((0 : Int) ≠ 0 ∨ t.has key = false) from fun q => q.elim (fun z => z rfl) hh), if_neg hh]
      obtain ⟨⟨f, s2⟩, eq2⟩ : ∃ r', s1.unhang t = r' := ⟨_, rfl⟩
      have h2 : unhangU t s1 = (((), f), s2) := by unfold unhangU; rw [eq2]
      simp only [eq2]
      by_cases hf : f = 0
      · subst hf
        rw [bnd_ok h2]
        obtain ⟨⟨f2, s3⟩, eq3⟩ : ∃ r', s2.recount l 18446744073709551615 = r' := ⟨_, rfl⟩
        have h3 : recountU l 18446744073709551615 s2 = (((), f2), s3) := by unfold recountU; rw [eq3]
        simp only [eq3]
        by_cases hf2 : f2 = 0
        · subst hf2
          rw [bnd_ok h3]
          obtain ⟨⟨f3, s4⟩, eq4⟩ : ∃ r', s3.give r t.nd 2 = r' := ⟨_, rfl⟩
          have h4 : giveU r t.nd 2 s3 = (((), f3), s4) := by unfold giveU; rw [eq4]
          simp only [eq4]
          by_cases hf3 : f3 = 0
          · subst hf3; rw [bnd_ok h4]; simp [rtn]
          · rw [bnd_er h4 hf3]; simp [hf3]
        · rw [bnd_er h3 hf2]; simp [hf2]
      · rw [bnd_er h2 hf]; simp [hf]
  · rw [bnd_er eq he]; simp [he]
def givesF (r : Int) : List Sp → Wd → (Unit × Int) × Wd
  | [] => rtn ()
  | t :: L => bnd (giveU r t.nd 2) (fun _ => givesF r L) ()
theorem gives_eq (r : Int) : ∀ (L : List Sp) (s : Wd), givesU r L s = givesF r L s
  | [], s => rfl
  | t :: L, s => by
    obtain ⟨⟨f, s1⟩, eq⟩ : ∃ r', s.give r t.nd 2 = r' := ⟨_, rfl⟩
    have h2 : giveU r t.nd 2 s = (((), f), s1) := by unfold giveU; rw [eq]
    unfold givesF givesU
    by_cases hf : f = 0
    · subst hf
      rw [bnd_ok h2, ← gives_eq r L s1]
      unfold givesU
      simp [Wd.gives, eq]
    · rw [bnd_er h2 hf]
      simp [Wd.gives, eq, hf]
def giveNF (r l : Int) : Wd → (Int × Int) × Wd := bnd (allF l) (fun L => bnd (givesF r L) (fun _ => rtn (L.length : Int)) 0) 0
theorem giveN_eq (r l : Int) (s : Wd) : s.giveNodes r l = giveNF r l s := by
  obtain ⟨⟨⟨L, e⟩, s1⟩, eq⟩ : ∃ r, allF l s = r := ⟨_, rfl⟩
  unfold Wd.giveNodes giveNF
  rw [all_eq, eq]
  by_cases he : e = 0
  · subst he
    rw [bnd_ok eq]
    obtain ⟨⟨f, s2⟩, eq2⟩ : ∃ r', s1.gives r L = r' := ⟨_, rfl⟩
    have h2 : givesF r L s1 = (((), f), s2) := by rw [← gives_eq]; unfold givesU; rw [eq2]
    simp only [eq2]
    by_cases hf : f = 0
    · subst hf; rw [bnd_ok h2]; simp [rtn]
    · rw [bnd_er h2 hf]; simp [hf]
  · rw [bnd_er eq he]; simp [he]
def clearF (r l : Int) : Wd → (Int × Int) × Wd := bnd (giveNF r l) (fun x => if x = 0 then rtn 0 else bnd (emptyU l) (fun _ => rtn x) 0) 0
theorem clear_eq (r l : Int) (s : Wd) : s.clear r l = clearF r l s := by
  obtain ⟨⟨⟨x, e⟩, s1⟩, eq⟩ : ∃ r', giveNF r l s = r' := ⟨_, rfl⟩
  unfold Wd.clear clearF
  rw [giveN_eq, eq]
  by_cases he : e = 0
  · subst he
    rw [bnd_ok eq]
    by_cases hx : x = 0
    · subst hx; simp [rtn]
    · simp only [hx, if_false]
      obtain ⟨⟨f, s2⟩, eq2⟩ : ∃ r', s1.empty l = r' := ⟨_, rfl⟩
      have h2 : emptyU l s1 = (((), f), s2) := by unfold emptyU; rw [eq2]
      simp only [eq2]
      by_cases hf : f = 0
      · subst hf; rw [bnd_ok h2]; simp [rtn]
      · rw [bnd_er h2 hf]; simp [hf]
  · rw [bnd_er eq he]; simp [he]
def dropF (r l : Int) : Wd → (Unit × Int) × Wd := bnd (giveNF r l) (fun _ => giveU r l 2) ()
theorem drop_eq (r l : Int) (s : Wd) : dropU r l s = dropF r l s := by
  obtain ⟨⟨⟨x, e⟩, s1⟩, eq⟩ : ∃ r', giveNF r l s = r' := ⟨_, rfl⟩
  unfold dropU dropF Wd.drop
  rw [giveN_eq, eq]
  by_cases he : e = 0
  · subst he
    rw [bnd_ok eq]
    simp [giveU]
  · rw [bnd_er eq he]; simp [he]
end Go.Proofs.Ytmnbilhblkobdaa


/- The call of a step, failing at one access (layer 21), pure. No statement of the seat is proved here. -/
namespace Go.Proofs.Ytmnbilhblkobdaa
open Go.RowKit

section
variable {s : Wd} {k : Nat}
theorem ex_wayS (hf : s.f < 0) (hc : Cn s k) (hl : s.W.length ≤ 1000000) (hk : k + 2000002 < TOP) (pass : List Sp → Sp → Bool) (l : Int) : Ex (wayS pass l) (Sp.zero, []) s k 2000002 :=
  ex_way pass FU Sp.zero (ld l) [] s k hf hc hl (by simpa using hk) (Ris.nil _)
theorem ex_seek (hf : s.f < 0) (hc : Cn s k) (hl : s.W.length ≤ 1000000) (hk : k + 2000002 < TOP) (l key : Int) : Ex (seekF l key) Sp.zero s k 2000002 :=
  ex_bnd (B1 := 2000002) (B2 := 0) (ex_wayS hf hc hl hk _ l) (fun _ _ _ _ _ hc' _ _ => ex_rtn _ _ hc' 0)
theorem ex_has (hf : s.f < 0) (hc : Cn s k) (hl : s.W.length ≤ 1000000) (hk : k + 2000002 < TOP) (l key : Int) : Ex (hasF l key) false s k 2000002 :=
  ex_bnd (B1 := 2000002) (B2 := 0) (ex_seek hf hc hl hk l key) (fun _ _ _ _ _ hc' _ _ => ex_rtn _ _ hc' 0)
theorem ex_above (hf : s.f < 0) (hc : Cn s k) (hl : s.W.length ≤ 1000000) (hk : k + 2000002 < TOP) (pass : List Sp → Sp → Bool) (l : Int) : Ex (aboveF pass l) (0, false) s k 2000002 :=
  ex_bnd (B1 := 2000002) (B2 := 0) (ex_wayS hf hc hl hk pass l) (fun _ _ _ _ _ hc' _ _ => ex_rtn _ _ hc' 0)
theorem ex_all (hf : s.f < 0) (hc : Cn s k) (hl : s.W.length ≤ 1000000) (hk : k + 2000003 < TOP) (l : Int) : Ex (allF l) [] s k 2000003 := by
  refine ex_bnd (B1 := 1) (B2 := 2000002) (ex_get hf hc (by unfold TOP at hk; omega) l) (fun x k' _ h1 h2 hc' hf' hl' => ?_)
  refine ex_bnd (B1 := 2000002) (B2 := 0) (ex_wayS (by rw [hf']; exact hf) hc' (by rw [hl']; exact hl) (by omega) _ l) (fun q k'' _ _ _ hc'' _ _ => ?_)
  split
  · exact ex_err _ _ hc'' 0
  · exact ex_rtn _ _ hc'' 0
theorem ex_keys (hf : s.f < 0) (hc : Cn s k) (hl : s.W.length ≤ 1000000) (hk : k + 2000003 < TOP) (l : Int) : Ex (keysF l) [] s k 2000003 :=
  ex_bnd (B1 := 2000003) (B2 := 0) (ex_all hf hc hl hk l) (fun _ _ _ _ _ hc' _ _ => ex_rtn _ _ hc' 0)
theorem ex_ins (hf : s.f < 0) (hc : Cn s k) (hl : s.W.length ≤ 1000000) (hk : k + 2000011 < TOP) (r l key : Int) : Ex (insF r l key) false s k 2000011 := by
  refine ex_bnd (B1 := 2000002) (B2 := 9) (ex_seek hf hc hl (by omega) l key) (fun t k' _ h1 h2 hc' hf' _ => ?_)
  split
  · exact ex_rtn _ _ hc' 9
  · refine ex_bnd (B1 := 4) (B2 := 5) (ex_take (by rw [hf']; exact hf) hc' (by omega) r) (fun x k2 _ h3 h4 hc2 hf2 _ => ?_)
    refine ex_bnd (B1 := 3) (B2 := 2) (ex_hang (by rw [hf2, hf']; exact hf) hc2 (by omega) t x key) (fun _ k3 _ h5 h6 hc3 hf3 _ => ?_)
    exact ex_bnd (B1 := 2) (B2 := 0) (ex_recount (by rw [hf3, hf2, hf']; exact hf) hc3 (by omega) l 1) (fun _ _ _ _ _ hc4 _ _ => ex_rtn _ _ hc4 0)
theorem ex_rem (hf : s.f < 0) (hc : Cn s k) (hl : s.W.length ≤ 1000000) (hk : k + 2000009 < TOP) (r l key : Int) : Ex (remF r l key) false s k 2000009 := by
  refine ex_bnd (B1 := 2000002) (B2 := 7) (ex_seek hf hc hl (by omega) l key) (fun t k' _ h1 h2 hc' hf' _ => ?_)
  split
  · exact ex_rtn _ _ hc' 7
  · refine ex_bnd (B1 := 2) (B2 := 5) (ex_unhang (by rw [hf']; exact hf) hc' (by omega) t) (fun _ k2 _ h3 h4 hc2 hf2 _ => ?_)
    refine ex_bnd (B1 := 2) (B2 := 3) (ex_recount (by rw [hf2, hf']; exact hf) hc2 (by omega) l _) (fun _ k3 _ h5 h6 hc3 hf3 _ => ?_)
    exact ex_bnd (B1 := 3) (B2 := 0) (ex_give (by rw [hf3, hf2, hf']; exact hf) hc3 (by omega) r t.nd) (fun _ _ _ _ _ hc4 _ _ => ex_rtn _ _ hc4 0)
end
theorem ex_gives (r : Int) : ∀ (L : List Sp) (s : Wd) (k : Nat), s.f < 0 → Cn s k → k + 3 * L.length < TOP → Ex (givesF r L) () s k (3 * L.length)
  | [], s, k, hf, hc, hk => ex_rtn _ _ hc _
  | t :: L, s, k, hf, hc, hk => by
    have q : 3 * (t :: L).length = 3 + 3 * L.length := by simp; omega
    rw [q] at hk ⊢
    exact ex_bnd (ex_give hf hc (by omega) r t.nd) (fun _ k' _ h1 h2 hc' hf' _ => ex_gives r L _ k' (by rw [hf']; exact hf) hc' (by omega))
section
variable {s : Wd} {k : Nat}
theorem ex_giveN (ok : s.Ok) (hf : s.f < 0) (hc : Cn s k) (hk : k + 5000003 < TOP) (r l : Int) : Ex (giveNF r l) 0 s k 5000003 := by
  refine ex_bnd (B1 := 2000003) (B2 := 3000000) (ex_all hf hc ok.2 (by omega) l) (fun L k' he h1 h2 hc' hf' _ => ?_)
  have hL : L.length ≤ 1000000 := by
    obtain ⟨⟨⟨L', e⟩, s1⟩, eq⟩ : ∃ r, s.all l = r := ⟨_, rfl⟩
    have q := all_len ok (.inr hf) eq
    rw [← all_eq, eq] at he
    simp only [Prod.mk.injEq] at he
    rw [← he.1]; exact q
  refine ex_mono (ex_bnd (B1 := 3 * L.length) (B2 := 0) (ex_gives r L _ k' (by rw [hf']; exact hf) hc' (by omega)) (fun _ _ _ _ _ hc'' _ _ => ex_rtn _ _ hc'' 0)) (by omega)
theorem ex_clear (ok : s.Ok) (hf : s.f < 0) (hc : Cn s k) (hk : k + 5000005 < TOP) (r l : Int) : Ex (clearF r l) 0 s k 5000005 := by
  refine ex_bnd (B1 := 5000003) (B2 := 2) (ex_giveN ok hf hc (by omega) r l) (fun x k' _ h1 h2 hc' hf' _ => ?_)
  split
  · exact ex_rtn _ _ hc' 2
  · exact ex_bnd (B1 := 2) (B2 := 0) (ex_empty (by rw [hf']; exact hf) hc' (by omega) l) (fun _ _ _ _ _ hc'' _ _ => ex_rtn _ _ hc'' 0)
theorem ex_drop (ok : s.Ok) (hf : s.f < 0) (hc : Cn s k) (hk : k + 5000006 < TOP) (r l : Int) : Ex (dropF r l) () s k 5000006 :=
  ex_bnd (B1 := 5000003) (B2 := 3) (ex_giveN ok hf hc (by omega) r l) (fun _ k' _ h1 h2 hc' hf' _ => ex_give (by rw [hf']; exact hf) hc' (by omega) r l)
end
/-- A reply's parts. -/
abbrev Rt := Int × Bool × List Int
def rt0 : Rt := (0, false, [])
def callF (r l kind key : Int) : Wd → (Rt × Int) × Wd := fun s => ((((s.call r l kind key).1.w, (s.call r l kind key).1.h, (s.call r l kind key).1.L), (s.call r l kind key).1.e), (s.call r l kind key).2)
/-- A call whose answer is a part of the reply. -/
theorem part_eq {α : Type} {F : Wd → (α × Int) × Wd} {d : α} (hd : Df F d) (g : α → Rt) (hg : g d = rt0) (s : Wd) : ((g (F s).1.1, (F s).1.2), (F s).2) = bnd F (fun x => rtn (g x)) rt0 s := by
  by_cases he : (F s).1.2 = 0
  · have e : bnd F (fun x => rtn (g x)) rt0 s = rtn (g (F s).1.1) (F s).2 := if_neg (fun q => q he)
    rw [e, he]
    rfl
  · have e : bnd F (fun x => rtn (g x)) rt0 s = ((rt0, (F s).1.2), (F s).2) := if_pos he
    rw [e, hd s he, hg]
theorem ex_part {α : Type} {F : Wd → (α × Int) × Wd} {d : α} (hd : Df F d) (g : α → Rt) (hg : g d = rt0) {s : Wd} {k B : Nat} (h : Ex F d s k B) : Ex (fun s => ((g (F s).1.1, (F s).1.2), (F s).2)) rt0 s k B := by
  refine ex_eq (part_eq hd g hg) ?_
  exact ex_bnd (B1 := B) (B2 := 0) h (fun _ _ _ _ _ hc' _ _ => ex_rtn _ _ hc' 0)
theorem df_ite {α : Type} {c : Prop} [Decidable c] {F G : Wd → (α × Int) × Wd} {d : α} (h1 : Df F d) (h2 : Df G d) : Df (if c then F else G) d := by
  split
  · exact h1
  · exact h2
theorem ex_call {s : Wd} {k : Nat} (ok : s.Ok) (hf : s.f < 0) (hc : Cn s k) (hk : k + 5000012 < TOP) (r l kind key : Int) : Ex (callF r l kind key) rt0 s k 5000012 := by
  by_cases h1 : kind = 1
  · subst h1
    refine ex_eq (G := fun s => (((fun x : Bool => ((0, x, []) : Rt)) (insF r l key s).1.1, (insF r l key s).1.2), (insF r l key s).2)) (fun s => ?_) ?_
    · unfold callF Wd.call; simp [ins_eq]
    · exact ex_mono (B := 2000011) (ex_part (F := insF r l key) (d := false) (df_bnd fun _ => df_ite (df_rtn _ _) (df_bnd fun _ => df_bnd fun _ => df_bnd fun _ => df_rtn _ _)) (fun x : Bool => ((0, x, []) : Rt)) rfl (ex_ins hf hc ok.2 (by omega) r l key)) (by omega)
  · by_cases h2 : kind = 2
    · subst h2
      refine ex_eq (G := fun s => (((fun x : Bool => ((0, x, []) : Rt)) (remF r l key s).1.1, (remF r l key s).1.2), (remF r l key s).2)) (fun s => ?_) ?_
      · unfold callF Wd.call; simp [rem_eq]
      · exact ex_mono (B := 2000009) (ex_part (F := remF r l key) (d := false) (df_bnd fun _ => df_ite (df_rtn _ _) (df_bnd fun _ => df_bnd fun _ => df_bnd fun _ => df_rtn _ _)) (fun x : Bool => ((0, x, []) : Rt)) rfl (ex_rem hf hc ok.2 (by omega) r l key)) (by omega)
    · by_cases h3 : kind = 3
      · subst h3
        refine ex_eq (G := fun s => (((fun x : Bool => ((0, x, []) : Rt)) (hasF l key s).1.1, (hasF l key s).1.2), (hasF l key s).2)) (fun s => ?_) ?_
        · unfold callF Wd.call; simp [has_eq]
        · exact ex_mono (B := 2000002) (ex_part (F := hasF l key) (d := false) (df_bnd fun _ => df_rtn _ _) (fun x : Bool => ((0, x, []) : Rt)) rfl (ex_has hf hc ok.2 (by omega) l key)) (by omega)
      · by_cases h4 : kind = 4
        · subst h4
          refine ex_eq (G := fun s => (((fun x : Int => ((x, false, []) : Rt)) (s.len l).1.1, (s.len l).1.2), (s.len l).2)) (fun s => ?_) ?_
          · unfold callF Wd.call; simp
          · refine ex_mono (B := 1) (ex_part (F := fun s => s.len l) (d := 0) ?_ (fun x : Int => ((x, false, []) : Rt)) rfl (ex_len hf hc (by omega) l)) (by omega)
            refine df_eq (G := bnd (fun s => s.get l) (fun x => rtn x) 0) (fun s => ?_) (df_bnd fun _ => df_rtn _ _)
            unfold Wd.len bnd rtn
            simp only [ne_eq]
        · by_cases h5 : kind = 5
          · subst h5
            refine ex_eq (G := fun s => (((fun x : Int × Bool => ((x.1, x.2, []) : Rt)) (aboveF (pLe key) l s).1.1, (aboveF (pLe key) l s).1.2), (aboveF (pLe key) l s).2)) (fun s => ?_) ?_
            · rw [← above_eq]; unfold callF Wd.call Wd.above; simp
            · exact ex_mono (B := 2000002) (ex_part (F := aboveF (pLe key) l) (d := (0, false)) (df_bnd fun _ => df_rtn _ _) (fun x : Int × Bool => ((x.1, x.2, []) : Rt)) rfl (ex_above hf hc ok.2 (by omega) _ l)) (by omega)
          · by_cases h6 : kind = 6
            · subst h6
              refine ex_eq (G := fun s => (((fun x : Int × Bool => ((x.1, x.2, []) : Rt)) (aboveF pNo l s).1.1, (aboveF pNo l s).1.2), (aboveF pNo l s).2)) (fun s => ?_) ?_
              · rw [← above_eq]; unfold callF Wd.call Wd.first; simp
              · exact ex_mono (B := 2000002) (ex_part (F := aboveF pNo l) (d := (0, false)) (df_bnd fun _ => df_rtn _ _) (fun x : Int × Bool => ((x.1, x.2, []) : Rt)) rfl (ex_above hf hc ok.2 (by omega) _ l)) (by omega)
            · by_cases h7 : kind = 7
              · subst h7
                refine ex_eq (G := fun s => (((fun x : List Int => ((0, false, x) : Rt)) (keysF l s).1.1, (keysF l s).1.2), (keysF l s).2)) (fun s => ?_) ?_
                · unfold callF Wd.call; simp [keys_eq]
                · exact ex_mono (B := 2000003) (ex_part (F := keysF l) (d := []) (df_bnd fun _ => df_rtn _ _) (fun x : List Int => ((0, false, x) : Rt)) rfl (ex_keys hf hc ok.2 (by omega) l)) (by omega)
              · by_cases h8 : kind = 8
                · subst h8
                  refine ex_eq (G := fun s => (((fun x : Int => ((x, false, []) : Rt)) (clearF r l s).1.1, (clearF r l s).1.2), (clearF r l s).2)) (fun s => ?_) ?_
                  · unfold callF Wd.call; simp [clear_eq]
                  · exact ex_mono (B := 5000005) (ex_part (F := clearF r l) (d := 0) (df_bnd fun _ => df_ite (df_rtn _ _) (df_bnd fun _ => df_rtn _ _)) (fun x : Int => ((x, false, []) : Rt)) rfl (ex_clear ok hf hc (by omega) r l)) (by omega)
                · by_cases h9 : kind = 9
                  · subst h9
                    refine ex_eq (G := bnd (dropF r l) (fun _ => (fun s => (((fun x : Int => ((x, false, []) : Rt)) (s.new r).1.1, (s.new r).1.2), (s.new r).2))) rt0) (fun s => ?_) ?_
                    · unfold bnd
                      rw [← drop_eq]
                      unfold callF Wd.call dropU
                      by_cases he : (s.drop r l).1 = 0
                      · simp [he]
                      · simp [he, rt0]
                    · refine ex_mono (B := 5000006 + 6) (ex_bnd (B1 := 5000006) (B2 := 6) (ex_drop ok hf hc (by omega) r l) (fun _ k' _ h1 h2 hc' hf' _ => ?_)) (by omega)
                      refine ex_part (F := fun s => s.new r) (d := 0) ?_ (fun x : Int => ((x, false, []) : Rt)) rfl (ex_new (by rw [hf']; exact hf) hc' (by omega) r)
                      refine df_eq (G := bnd (fun s => s.take r 2) (fun x => bnd (emptyU x) (fun _ => rtn x) 0) 0) (fun s => ?_) (df_bnd fun _ => df_bnd fun _ => df_rtn _ _)
                      unfold Wd.new bnd emptyU rtn
                      simp only [ne_eq]
                  · refine ex_eq (G := rtn rt0) (fun s => ?_) (ex_rtn _ _ hc _)
                    unfold callF Wd.call rtn rt0
                    simp [h1, h2, h3, h4, h5, h6, h7, h8, h9]
end Go.Proofs.Ytmnbilhblkobdaa
