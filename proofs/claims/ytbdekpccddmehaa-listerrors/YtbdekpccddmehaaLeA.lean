
/- Calls whose tx fails at one access (layer 21), pure: how such calls are put together. No statement of the seat is proved here. -/
import Derived.Test.YtbdekpccddmehaaLwC
namespace Go.Proofs.Ytbdekpccddmehaa
open Go.RowKit

/-- So many accesses there were. -/
def Cn (s : Wd) (k : Nat) : Prop := 0 ≤ s.g ∧ 0 ≤ s.p ∧ s.g + s.p = k
/-- The same, failing at an access. -/
def Wd.fa (s : Wd) (n : Nat) (c : Int) : Wd := { s with f := n, c := c }
theorem iw_id {x : Int} (h0 : -9223372036854775808 ≤ x) (h1 : x < 9223372036854775808) : iw x = x := by
  unfold iw wrap64; omega
/-- A call that makes j accesses, k having been made: failing at one of them it answers that error and nothing beside it, at once; failing later it goes as ever. -/
structure Nx {α : Type} (F : Wd → (α × Int) × Wd) (d : α) (s : Wd) (k j : Nat) : Prop where
  cn : Cn (F s).2 (k + j)
  fc : (F s).2.f = s.f
  len : (F s).2.W.length = s.W.length
  lo : ∀ (n : Nat) (c : Int), c ≠ 0 → k ≤ n → n < k + j → (F (s.fa n c)).1 = (d, c) ∧ Cn (F (s.fa n c)).2 (n + 1)
  hi : ∀ (n : Nat) (c : Int), c ≠ 0 → k + j ≤ n → F (s.fa n c) = ((F s).1, ((F s).2).fa n c)
def Ex {α : Type} (F : Wd → (α × Int) × Wd) (d : α) (s : Wd) (k B : Nat) : Prop := ∃ j, j ≤ B ∧ Nx F d s k j
/-- One call, and then another one, if it went well. -/
def bnd {α β : Type} (F : Wd → (α × Int) × Wd) (G : α → Wd → (β × Int) × Wd) (d : β) : Wd → (β × Int) × Wd := fun s => if (F s).1.2 ≠ 0 then ((d, (F s).1.2), (F s).2) else G (F s).1.1 (F s).2
def rtn {α : Type} (x : α) : Wd → (α × Int) × Wd := fun s => ((x, 0), s)
def err {α : Type} (d : α) (e : Int) : Wd → (α × Int) × Wd := fun s => ((d, e), s)
def putU (a x : Int) : Wd → (Unit × Int) × Wd := fun s => (((), (s.put a x).1), (s.put a x).2)
theorem ex_same {α : Type} (x : α × Int) (d : α) {s : Wd} {k : Nat} (hc : Cn s k) (B : Nat) : Ex (fun s => (x, s)) d s k B :=
  ⟨0, Nat.zero_le _, hc, rfl, rfl, fun n c _ h1 h2 => by omega, fun n c _ _ => rfl⟩
theorem ex_rtn {α : Type} (x d : α) {s : Wd} {k : Nat} (hc : Cn s k) (B : Nat) : Ex (rtn x) d s k B := ex_same (x, 0) d hc B
theorem ex_err {α : Type} (d : α) (e : Int) {s : Wd} {k : Nat} (hc : Cn s k) (B : Nat) : Ex (err d e) d s k B := ex_same (d, e) d hc B
theorem ex_bnd {α β : Type} {F : Wd → (α × Int) × Wd} {G : α → Wd → (β × Int) × Wd} {d : α} {d' : β} {s : Wd} {k B1 B2 : Nat} (h1 : Ex F d s k B1)
    (h2 : ∀ x k', (F s).1 = (x, 0) → k ≤ k' → k' ≤ k + B1 → Cn (F s).2 k' → (F s).2.f = s.f → (F s).2.W.length = s.W.length → Ex (G x) d' (F s).2 k' B2) : Ex (bnd F G d') d' s k (B1 + B2) := by
  obtain ⟨j1, hj1, n1⟩ := h1
  by_cases he : (F s).1.2 = 0
  · obtain ⟨j2, hj2, n2⟩ := h2 (F s).1.1 (k + j1) (Prod.ext rfl he) (by omega) (by omega) n1.cn n1.fc n1.len
    have e : bnd F G d' s = G (F s).1.1 (F s).2 := if_neg (fun q => q he)
    refine ⟨j1 + j2, by omega, ?_, ?_, ?_, ?_, ?_⟩
    · rw [e, ← Nat.add_assoc]; exact n2.cn
    · rw [e]; exact n2.fc.trans n1.fc
    · rw [e]; exact n2.len.trans n1.len
    · intro n c hc hk hn
      by_cases hlt : n < k + j1
      · have q := n1.lo n c hc hk hlt
        unfold bnd
        rw [q.1]
        simp only [ne_eq, hc, not_false_eq_true, if_true]
        exact ⟨trivial, q.2⟩
      · have q := n1.hi n c hc (by omega)
        have q2 := n2.lo n c hc (by omega) (by omega)
        have e2 : bnd F G d' (s.fa n c) = G (F s).1.1 ((F s).2.fa n c) := by
          unfold bnd
          rw [q]
          exact if_neg (fun z => z he)
        rw [e2]
        exact q2
    · intro n c hc hn
      have q := n1.hi n c hc (by omega)
      have q2 := n2.hi n c hc (by omega)
      have e2 : bnd F G d' (s.fa n c) = G (F s).1.1 ((F s).2.fa n c) := by
        unfold bnd
        rw [q]
        exact if_neg (fun z => z he)
      rw [e2, e]
      exact q2
  · have e : bnd F G d' s = ((d', (F s).1.2), (F s).2) := if_pos he
    refine ⟨j1, by omega, ?_, ?_, ?_, ?_, ?_⟩
    · rw [e]; exact n1.cn
    · rw [e]; exact n1.fc
    · rw [e]; exact n1.len
    · intro n c hc hk hn
      have q := n1.lo n c hc hk hn
      unfold bnd
      rw [q.1]
      simp only [ne_eq, hc, not_false_eq_true, if_true]
      exact ⟨trivial, q.2⟩
    · intro n c hc hn
      have q := n1.hi n c hc hn
      rw [e]
      unfold bnd
      rw [q]
      exact if_pos he
theorem ex_mono {α : Type} {F : Wd → (α × Int) × Wd} {d : α} {s : Wd} {k B B' : Nat} (h : Ex F d s k B) (hb : B ≤ B') : Ex F d s k B' := by
  obtain ⟨j, hj, q⟩ := h
  exact ⟨j, Nat.le_trans hj hb, q⟩
theorem ex_eq {α : Type} {F G : Wd → (α × Int) × Wd} (e : ∀ s, F s = G s) {d : α} {s : Wd} {k B : Nat} (h : Ex G d s k B) : Ex F d s k B := by
  have : F = G := funext e
  rw [this]; exact h
theorem fl_lo {s : Wd} {k : Nat} (h : s.g + s.p = ((k + 1 : Nat) : Int)) (hk : k < 1152921504606846976) : s.fl = decide (0 ≤ s.f ∧ s.f ≤ k) := by
  unfold Wd.fl
  have q : iw ((k + 1 : Nat) : Int) = ((k + 1 : Nat) : Int) := iw_id (by omega) (by omega)
  have q2 : iw (((k + 1 : Nat) : Int) - 1) = k := by rw [iw_id (by omega) (by omega)]; omega
  rw [h, q, q2]
  by_cases h1 : 0 ≤ s.f <;> by_cases h2 : s.f ≤ k <;> simp [h1, h2]
theorem ex_get {s : Wd} {k : Nat} (hf : s.f < 0) (hc : Cn s k) (hk : k < 1152921504606846976) (a : Int) : Ex (fun s => s.get a) 0 s k 1 := by
  obtain ⟨h1, h2, h3⟩ := hc
  have hg : iw (s.g + 1) = s.g + 1 := iw_id (by omega) (by omega)
  have hfl : ∀ (n : Int) (c : Int), (({ s with f := n, c := c } : Wd).gt).fl = decide (0 ≤ n ∧ n ≤ k) := by
    intro n c
    have q := fl_lo (s := ({ s with f := n, c := c } : Wd).gt) (k := k) (by show iw (s.g + 1) + s.p = _; rw [hg]; omega) hk
    exact q
  have hcn : ∀ (n : Int) (c : Int), Cn (({ s with f := n, c := c } : Wd).gt) (k + 1) := by
    intro n c
    exact ⟨by show 0 ≤ iw (s.g + 1); rw [hg]; omega, h2, by show iw (s.g + 1) + s.p = _; rw [hg]; omega⟩
  have hs : s.get a = if (s.W.length : Int) ≤ a then ((0, 4), s.gt) else ((oat s.W a.toNat, 0), s.gt) := get_no hf a
  refine ⟨1, Nat.le_refl _, ?_, ?_, ?_, ?_, ?_⟩
  · rw [hs]; split <;> exact hcn s.f s.c
  · rw [hs]; split <;> rfl
  · rw [hs]; split <;> rfl
  · intro n c hc0 hkn hn
    obtain rfl : n = k := by omega
    have q : (s.fa n c).get a = ((0, c), (s.fa n c).gt) := by
      unfold Wd.get
      rw [if_pos]
      · rfl
      · exact (hfl n c).trans (by simp)
    show ((s.fa n c).get a).1 = _ ∧ _
    rw [q]
    exact ⟨rfl, hcn n c⟩
  · intro n c hc0 hn
    have q : (s.fa n c).get a = if (s.W.length : Int) ≤ a then ((0, 4), (s.fa n c).gt) else ((oat s.W a.toNat, 0), (s.fa n c).gt) := by
      unfold Wd.get
      rw [if_neg]
      · rfl
      · rw [show ((s.fa n c).gt).fl = decide (0 ≤ (n : Int) ∧ (n : Int) ≤ k) from hfl n c]
        simp
        omega
    show (s.fa n c).get a = _
    rw [q, hs]
    split <;> rfl
theorem put_no {s : Wd} (h : s.f < 0) (a x : Int) : s.put a x = if (s.W.length : Int) ≤ a then (4, s.pt) else (0, { s.pt with W := s.W.set a.toNat x }) := by
  unfold Wd.put
  rw [if_neg]
  unfold Wd.fl
  simp only [Bool.and_eq_true, decide_eq_true_eq]
  rintro ⟨q, _⟩
  have : (s.pt).f = s.f := rfl
  omega
theorem ex_put {s : Wd} {k : Nat} (hf : s.f < 0) (hc : Cn s k) (hk : k < 1152921504606846976) (a x : Int) : Ex (putU a x) () s k 1 := by
  obtain ⟨h1, h2, h3⟩ := hc
  have hg : iw (s.p + 1) = s.p + 1 := iw_id (by omega) (by omega)
  have hfl : ∀ (n : Int) (c : Int), (({ s with f := n, c := c } : Wd).pt).fl = decide (0 ≤ n ∧ n ≤ k) := by
    intro n c
    exact fl_lo (s := ({ s with f := n, c := c } : Wd).pt) (k := k) (by show s.g + iw (s.p + 1) = _; rw [hg]; omega) hk
  have hcn : ∀ (W : List Int) (n : Int) (c : Int), Cn { (({ s with f := n, c := c } : Wd).pt) with W := W } (k + 1) := by
    intro W n c
    exact ⟨h1, by show 0 ≤ iw (s.p + 1); rw [hg]; omega, by show s.g + iw (s.p + 1) = _; rw [hg]; omega⟩
  have hs := put_no hf a x
  refine ⟨1, Nat.le_refl _, ?_, ?_, ?_, ?_, ?_⟩
  · unfold putU; rw [hs]; split
    · exact hcn s.W s.f s.c
    · exact hcn _ s.f s.c
  · unfold putU; rw [hs]; split <;> rfl
  · unfold putU; rw [hs]; split
    · rfl
    · simp
  · intro n c hc0 hkn hn
    obtain rfl : n = k := by omega
    have q : (s.fa n c).put a x = (c, (s.fa n c).pt) := by
      unfold Wd.put
      rw [if_pos]
      · rfl
      · exact (hfl n c).trans (by simp)
    unfold putU
    rw [q]
    exact ⟨rfl, hcn s.W n c⟩
  · intro n c hc0 hn
    have q : (s.fa n c).put a x = if (s.W.length : Int) ≤ a then (4, (s.fa n c).pt) else (0, { (s.fa n c).pt with W := s.W.set a.toNat x }) := by
      unfold Wd.put
      rw [if_neg]
      · rfl
      · rw [show ((s.fa n c).pt).fl = decide (0 ≤ (n : Int) ∧ (n : Int) ≤ k) from hfl n c]
        simp
        omega
    unfold putU
    rw [q, hs]
    split <;> rfl
end Go.Proofs.Ytbdekpccddmehaa
