/-
  No statement of the seat is proved here. (Several texts in one: QzA, QzB.)
-/
import Derived.Test.YtadbplbifjeghaaQxM

/- Calls that are refused from some access on (layer 23), pure: how such calls are put together. No statement of the seat is proved here. -/
namespace Go.Proofs.Ytadbplbifjeghaa
open Go.RowKit

/-- So many accesses there were, none is refused. -/
def Rd (s : Wd) (k : Nat) : Prop := s.n = k ∧ s.l < 0 ∧ -4000000000000000000 ≤ s.l + k
/-- The same, refused behind L accesses by the error c. -/
def Wd.rf (s : Wd) (L : Nat) (c : Int) : Wd := { s with l := L, c := c }
def TOPN : Nat := 1152921504606846976
theorem iw_id' {x : Int} (h0 : -9223372036854775808 ≤ x) (h1 : x < 9223372036854775808) : iw x = x := by
  unfold iw wrap64; omega
/-- A call that makes j accesses: refused at one of them it answers that error and nothing beside it, at once; refused later it goes as ever. -/
structure Nx {α : Type} (F : Wd → (α × Int) × Wd) (d : α) (s : Wd) (k j : Nat) : Prop where
  rd : Rd (F s).2 (k + j)
  lo : ∀ (L : Nat) (c : Int), c ≠ 0 → L < j → L < 1000 → (F (s.rf L c)).1 = (d, c) ∧ (F (s.rf L c)).2.n = (k : Int) + L + 1
  hi : ∀ (L : Nat) (c : Int), c ≠ 0 → j ≤ L → L < 1000 → F (s.rf L c) = ((F s).1, ((F s).2).rf (L - j) c)
def Ex {α : Type} (F : Wd → (α × Int) × Wd) (d : α) (s : Wd) (k B : Nat) : Prop := ∃ j, j ≤ B ∧ Nx F d s k j
theorem ex_same {α : Type} (x : α × Int) (d : α) {s : Wd} {k : Nat} (hc : Rd s k) (B : Nat) : Ex (fun s => (x, s)) d s k B :=
  ⟨0, Nat.zero_le _, hc, fun L c _ h _ => by omega, fun L c _ _ _ => rfl⟩
theorem ex_rtn {α : Type} (x d : α) {s : Wd} {k : Nat} (hc : Rd s k) (B : Nat) : Ex (rtn x) d s k B := ex_same (x, 0) d hc B
theorem ex_err {α : Type} (d : α) (e : Int) {s : Wd} {k : Nat} (hc : Rd s k) (B : Nat) : Ex (err d e) d s k B := ex_same (d, e) d hc B
theorem ex_bnd {α β : Type} {F : Wd → (α × Int) × Wd} {G : α → Wd → (β × Int) × Wd} {d : α} {d' : β} {s : Wd} {k B1 B2 : Nat} (h1 : Ex F d s k B1)
    (h2 : ∀ x k', (F s).1 = (x, 0) → k ≤ k' → k' ≤ k + B1 → Rd (F s).2 k' → Ex (G x) d' (F s).2 k' B2) : Ex (bnd F G d') d' s k (B1 + B2) := by
  obtain ⟨j1, hj1, n1⟩ := h1
  by_cases he : (F s).1.2 = 0
  · obtain ⟨j2, hj2, n2⟩ := h2 (F s).1.1 (k + j1) (Prod.ext rfl he) (by omega) (by omega) n1.rd
    have e : bnd F G d' s = G (F s).1.1 (F s).2 := if_neg (fun q => q he)
    refine ⟨j1 + j2, by omega, ?_, ?_, ?_⟩
    · rw [e, ← Nat.add_assoc]; exact n2.rd
    · intro L c hc hL hbig
      by_cases hlt : L < j1
      · have q := n1.lo L c hc hlt hbig
        unfold bnd
        rw [q.1]
        simp only [ne_eq, hc, not_false_eq_true, if_true]
        exact ⟨trivial, q.2⟩
      · have q := n1.hi L c hc (by omega) hbig
        have q2 := n2.lo (L - j1) c hc (by omega) (by omega)
        have e2 : bnd F G d' (s.rf L c) = G (F s).1.1 ((F s).2.rf (L - j1) c) := by
          unfold bnd
          rw [q]
          exact if_neg (fun z => z he)
        rw [e2]
        refine ⟨q2.1, q2.2.trans ?_⟩
        omega
    · intro L c hc hL hbig
      have q := n1.hi L c hc (by omega) hbig
      have q2 := n2.hi (L - j1) c hc (by omega) (by omega)
      have e2 : bnd F G d' (s.rf L c) = G (F s).1.1 ((F s).2.rf (L - j1) c) := by
        unfold bnd
        rw [q]
        exact if_neg (fun z => z he)
      rw [e2, e, q2, Nat.sub_sub]
  · have e : bnd F G d' s = ((d', (F s).1.2), (F s).2) := if_pos he
    refine ⟨j1, by omega, ?_, ?_, ?_⟩
    · rw [e]; exact n1.rd
    · intro L c hc hL hbig
      have q := n1.lo L c hc hL hbig
      unfold bnd
      rw [q.1]
      simp only [ne_eq, hc, not_false_eq_true, if_true]
      exact ⟨trivial, q.2⟩
    · intro L c hc hL hbig
      have q := n1.hi L c hc hL hbig
      rw [e]
      unfold bnd
      rw [q]
      exact if_pos he
theorem ex_mono {α : Type} {F : Wd → (α × Int) × Wd} {d : α} {s : Wd} {k B B' : Nat} (h : Ex F d s k B) (hb : B ≤ B') : Ex F d s k B' := by
  obtain ⟨j, hj, q⟩ := h
  exact ⟨j, Nat.le_trans hj hb, q⟩
theorem ex_eq {α : Type} {F G : Wd → (α × Int) × Wd} (e : ∀ s, F s = G s) {d : α} {s : Wd} {k B : Nat} (h : Ex G d s k B) : Ex F d s k B := by
  have : F = G := funext e
  rw [this]; exact h
theorem Rd.dec {s : Wd} {k : Nat} (h : Rd s k) (hk : k < TOPN) : Rd s.dec (k + 1) := by
  obtain ⟨h1, h2, h3⟩ := h
  unfold TOPN at hk
  have e1 : iw (s.n + 1) = s.n + 1 := iw_id' (by omega) (by omega)
  have e2 : iw (s.l - 1) = s.l - 1 := iw_id' (by omega) (by omega)
  exact ⟨by show iw (s.n + 1) = _; rw [e1]; omega, by show iw (s.l - 1) < 0; rw [e2]; omega, by show _ ≤ iw (s.l - 1) + _; rw [e2]; omega⟩
theorem get_no {s : Wd} (h : s.l < 0) (a : Int) : s.get a = if (s.W.length : Int) ≤ a then ((0, 4), s.dec) else ((oat s.W a.toNat, 0), s.dec) := by
  unfold Wd.get
  rw [if_neg (by omega)]
theorem put_no {s : Wd} (h : s.l < 0) (a x : Int) : s.put a x = if (s.W.length : Int) ≤ a then (4, s.dec) else (0, { s.dec with W := s.W.set a.toNat x }) := by
  unfold Wd.put
  rw [if_neg (by omega)]
theorem rf_dec {s : Wd} {L : Nat} (hL : 1 ≤ L) (h : L < 1000) (c : Int) : (s.rf L c).dec = s.dec.rf (L - 1) c := by
  have e : iw ((L : Int) - 1) = ((L - 1 : Nat) : Int) := by rw [iw_id' (by omega) (by omega)]; omega
  show (⟨s.W, iw ((L : Int) - 1), c, iw (s.n + 1)⟩ : Wd) = ⟨s.W, ((L - 1 : Nat) : Int), c, iw (s.n + 1)⟩
  rw [e]
theorem ex_get {s : Wd} {k : Nat} (hc : Rd s k) (hk : k < TOPN) (a : Int) : Ex (fun s => s.get a) 0 s k 1 := by
  have hd := hc.dec hk
  have hs := get_no hc.2.1 a
  have e1 : iw (s.n + 1) = (k : Int) + 1 := by rw [hc.1]; unfold TOPN at hk; exact iw_id' (by omega) (by omega)
  refine ⟨1, Nat.le_refl _, ?_, ?_, ?_⟩
  · rw [hs]; split <;> exact hd
  · intro L c hc0 hL _
    obtain rfl : L = 0 := by omega
    have q : (s.rf 0 c).get a = ((0, c), (s.rf 0 c).tick) := by
      unfold Wd.get
      rw [if_pos (show (s.rf 0 c).l = 0 from rfl)]
      rfl
    show ((s.rf 0 c).get a).1 = _ ∧ _
    rw [q]
    refine ⟨rfl, ?_⟩
    show iw (s.n + 1) = _
    rw [e1]; simp
  · intro L c hc0 hL hbig
    have q : (s.rf L c).get a = if (s.W.length : Int) ≤ a then ((0, 4), s.dec.rf (L - 1) c) else ((oat s.W a.toNat, 0), s.dec.rf (L - 1) c) := by
      rw [← rf_dec hL hbig]
      unfold Wd.get
      rw [if_neg (by show (L : Int) ≠ 0; omega)]
      rfl
    show (s.rf L c).get a = _
    rw [q, hs]
    split <;> rfl
theorem ex_put {s : Wd} {k : Nat} (hc : Rd s k) (hk : k < TOPN) (a x : Int) : Ex (putU a x) () s k 1 := by
  have hd := hc.dec hk
  have hs := put_no hc.2.1 a x
  have e1 : iw (s.n + 1) = (k : Int) + 1 := by rw [hc.1]; unfold TOPN at hk; exact iw_id' (by omega) (by omega)
  refine ⟨1, Nat.le_refl _, ?_, ?_, ?_⟩
  · unfold putU; rw [hs]; split <;> exact hd
  · intro L c hc0 hL _
    obtain rfl : L = 0 := by omega
    have q : (s.rf 0 c).put a x = (c, (s.rf 0 c).tick) := by
      unfold Wd.put
      rw [if_pos (show (s.rf 0 c).l = 0 from rfl)]
      rfl
    unfold putU
    rw [q]
    refine ⟨rfl, ?_⟩
    show iw (s.n + 1) = _
    rw [e1]; simp
  · intro L c hc0 hL hbig
    have q : (s.rf L c).put a x = if (s.W.length : Int) ≤ a then (4, s.dec.rf (L - 1) c) else (0, { s.dec.rf (L - 1) c with W := s.W.set a.toNat x }) := by
      rw [← rf_dec hL hbig]
      unfold Wd.put
      rw [if_neg (by show (L : Int) ≠ 0; omega)]
      rfl
    unfold putU
    rw [q, hs]
    split <;> rfl
/-- The error of such a call. -/
theorem ex_map {α β : Type} {F : Wd → (α × Int) × Wd} {d : α} {s : Wd} {k B : Nat} (h : Ex F d s k B) (f : α → β) : Ex (fun s => ((f (F s).1.1, (F s).1.2), (F s).2)) (f d) s k B := by
  obtain ⟨j, hj, n⟩ := h
  refine ⟨j, hj, n.rd, fun L c hc hL hb => ?_, fun L c hc hL hb => ?_⟩
  · have q := n.lo L c hc hL hb
    exact ⟨by rw [q.1], q.2⟩
  · have q := n.hi L c hc hL hb
    show ((f (F (s.rf L c)).1.1, (F (s.rf L c)).1.2), (F (s.rf L c)).2) = _
    rw [q]
end Go.Proofs.Ytadbplbifjeghaa


/- Queue's calls, refused at one access (layer 23), pure. No statement of the seat is proved here. -/
namespace Go.Proofs.Ytadbplbifjeghaa
open Go.RowKit

def frC (x y : Int) : Int := if x < y then uw (y - x) else 0
section
variable {s : Wd} {k : Nat}

theorem ex_takeG (hc : Rd s k) (hk : k + 2 < TOPN) (h p : Int) : Ex (fun s => s.takeG h p) 0 s k 2 := by
  refine ex_eq (G := bnd (fun s => s.get p) (fun x => bnd (putU h x) (fun _ => rtn p) 0) 0) (fun s => ?_) ?_
  · unfold Wd.takeG bnd putU rtn
    simp only [ne_eq]
  · refine ex_bnd (B1 := 1) (B2 := 1) (ex_get hc (by omega) p) (fun x k' _ h1 h2 hc' => ?_)
    exact ex_bnd (B1 := 1) (B2 := 0) (ex_put hc' (by omega) h x) (fun _ k'' _ _ _ hc'' => ex_rtn _ _ hc'' 0)
theorem ex_takeN (hc : Rd s k) (hk : k + 3 < TOPN) (a n : Int) : Ex (fun s => s.takeN a n) 0 s k 3 := by
  refine ex_eq (G := bnd (fun s => s.get a) (fun x => bnd (fun s => s.get (endA a)) (fun y => if frC x y < n then err 0 9 else bnd (putU a (uw (x + n))) (fun _ => rtn x) 0) 0) 0) (fun s => ?_) ?_
  · unfold Wd.takeN Wd.free bnd putU rtn err
    by_cases h1 : (s.get a).1.2 = 0
    · by_cases h2 : ((s.get a).2.get (endA a)).1.2 = 0
      · simp only [ne_eq, h1, h2, not_true_eq_false, if_false]
        by_cases h3 : frC (s.get a).1.1 ((s.get a).2.get (endA a)).1.1 < n
        · rw [if_pos h3]; exact if_pos h3
        · rw [if_neg h3]; exact if_neg h3
      · simp [h1, h2]
    · simp [h1]
  · refine ex_bnd (B1 := 1) (B2 := 2) (ex_get hc (by omega) a) (fun x k' _ h1 h2 hc' => ?_)
    refine ex_bnd (B1 := 1) (B2 := 1) (ex_get hc' (by omega) (endA a)) (fun y k'' _ h3 h4 hc'' => ?_)
    split
    · exact ex_err _ _ hc'' 1
    · exact ex_bnd (B1 := 1) (B2 := 0) (ex_put hc'' (by omega) a _) (fun _ k3 _ _ _ hc3 => ex_rtn _ _ hc3 0)
theorem ex_take (hc : Rd s k) (hk : k + 4 < TOPN) (a : Int) {n : Int} (hm : mayN n) : Ex (fun s => s.take a n) 0 s k 4 := by
  refine ex_eq (G := bnd (fun s => s.get (hdA a n)) (fun x => if x = 0 then (fun s => s.takeN a n) else (fun s => s.takeG (hdA a n) (uw (x - 1)))) 0) (fun s => ?_) ?_
  · unfold Wd.take bnd
    simp only [hm, not_true_eq_false, if_false]
    split
    · rfl
    · split <;> rfl
  · refine ex_bnd (B1 := 1) (B2 := 3) (ex_get hc (by omega) _) (fun x k' _ h1 h2 hc' => ?_)
    split
    · exact ex_takeN hc' (by omega) a n
    · exact ex_mono (ex_takeG hc' (by omega) _ _) (by omega)
theorem ex_give (hc : Rd s k) (hk : k + 3 < TOPN) (r a : Int) {n : Int} (hm : mayN n) : Ex (giveU r a n) () s k 3 := by
  refine ex_eq (G := bnd (fun s => s.get (hdA r n)) (fun x => bnd (putU a x) (fun _ => putU (hdA r n) (uw (a + 1))) ()) ()) (fun s => ?_) ?_
  · unfold giveU Wd.give bnd putU
    simp only [hm, not_true_eq_false, if_false]
    by_cases h1 : (s.get (hdA r n)).1.2 = 0
    · by_cases h2 : ((s.get (hdA r n)).2.put a (s.get (hdA r n)).1.1).1 = 0
      · simp [h1, h2]
      · simp [h1, h2]
    · simp [h1]
  · refine ex_bnd (B1 := 1) (B2 := 2) (ex_get hc (by omega) _) (fun x k' _ h1 h2 hc' => ?_)
    exact ex_bnd (B1 := 1) (B2 := 1) (ex_put hc' (by omega) a x) (fun _ k'' _ _ _ hc'' => ex_put hc'' (by omega) _ _)
theorem getK_nil (a : Int) (s : Wd) : ∀ n, (getK a s n).1.2 ≠ 0 → (getK a s n).1.1 = []
  | 0, h => absurd rfl h
  | n + 1, h => by
    unfold getK at h ⊢
    by_cases h1 : (getK a s n).1.2 = 0
    · by_cases h2 : ((getK a s n).2.get (uw (a + n))).1.2 = 0
      · simp [h1, h2] at h
      · simp [h1, h2]
    · simp only [ne_eq, h1, not_false_eq_true, if_true] at h ⊢
      exact getK_nil a s n h1
theorem ex_getK (a : Int) : ∀ (n : Nat) {s : Wd} {k : Nat}, Rd s k → k + n < TOPN → Ex (fun s => getK a s n) [] s k n
  | 0, s, k, hc, _ => ex_rtn (α := List Int) [] [] hc 0
  | n + 1, s, k, hc, hk => by
    refine ex_eq (G := bnd (fun s => getK a s n) (fun l => bnd (fun s => s.get (uw (a + n))) (fun x => rtn (l ++ [x])) []) []) (fun s => ?_) ?_
    · show getK a s (n + 1) = _
      unfold bnd rtn
      by_cases h1 : (getK a s n).1.2 = 0
      · rw [getK]
        simp only [ne_eq, h1, not_true_eq_false, if_false]
      · rw [getK]
        simp only [ne_eq, h1, not_false_eq_true, if_true]
        exact Prod.ext (Prod.ext (getK_nil a s n h1) rfl) rfl
    · exact ex_bnd (B1 := n) (B2 := 1) (ex_getK a n hc (by omega)) (fun l k' _ h1 h2 hc' =>
        ex_bnd (B1 := 1) (B2 := 0) (ex_get hc' (by omega) _) (fun x k'' _ _ _ hc'' => ex_rtn _ _ hc'' 0))
theorem ex_gets (a : Int) (n : Nat) (hc : Rd s k) (hk : k + n < TOPN) : Ex (getsF a n) [] s k n := ex_getK a n hc hk
theorem ex_putK (a : Int) (l : List Int) : ∀ (n : Nat) {s : Wd} {k : Nat}, Rd s k → k + n < TOPN → Ex (fun s => (((), (putK a l s n).1), (putK a l s n).2)) () s k n
  | 0, s, k, hc, _ => ex_rtn (α := Unit) () () hc 0
  | n + 1, s, k, hc, hk => by
    refine ex_eq (G := bnd (fun s => (((), (putK a l s n).1), (putK a l s n).2)) (fun _ => putU (uw (a + n)) (oat l n)) ()) (fun s => ?_) ?_
    · unfold bnd putU
      by_cases h1 : (putK a l s n).1 = 0
      · rw [putK]
        simp only [ne_eq, h1, not_true_eq_false, if_false]
      · rw [putK]
        simp only [ne_eq, h1, not_false_eq_true, if_true]
    · exact ex_bnd (B1 := n) (B2 := 1) (ex_putK a l n hc (by omega)) (fun _ k' _ h1 h2 hc' => ex_put hc' (by omega) _ _)
theorem ex_puts (a : Int) (l : List Int) (hc : Rd s k) (hk : k + l.length < TOPN) : Ex (putsU a l) () s k l.length := ex_putK a l l.length hc hk
theorem ex_hang (hc : Rd s k) (hk : k + 3 < TOPN) (q n : Int) : Ex (hangU q n) () s k 3 :=
  ex_bnd (B1 := 1) (B2 := 2) (ex_get hc (by omega) _) (fun l k' _ h1 h2 hc' =>
    ex_bnd (B1 := 1) (B2 := 1) (ex_put hc' (by omega) _ _) (fun _ k'' _ _ _ hc'' => ex_put hc'' (by omega) _ _))
theorem ex_unhang (hc : Rd s k) (hk : k + 2 < TOPN) (q x : Int) : Ex (unhangU q x) () s k 2 :=
  ex_bnd (B1 := 1) (B2 := 1) (ex_put hc (by omega) _ _) (fun _ k' _ _ _ hc' => by
    by_cases hx : x = 0
    · rw [if_pos hx]; exact ex_put hc' (by omega) _ _
    · rw [if_neg hx]; exact ex_rtn () () hc' 1)
theorem ex_recount (hc : Rd s k) (hk : k + 2 < TOPN) (q m : Int) : Ex (recountU q m) () s k 2 :=
  ex_bnd (B1 := 1) (B2 := 1) (ex_get hc (by omega) _) (fun c k' _ _ _ hc' => ex_put hc' (by omega) _ _)
theorem may2 : mayN 2 := by unfold mayN; decide
theorem may3 : mayN 3 := by unfold mayN; decide
theorem ex_new (hc : Rd s k) (hk : k + 7 < TOPN) (r : Int) : Ex (Wd.qnew r) 0 s k 7 :=
  ex_bnd (B1 := 4) (B2 := 3) (ex_take hc (by omega) r may3) (fun q k' _ _ _ hc' =>
    ex_bnd (B1 := 3) (B2 := 0) (ex_puts q [0, 0, 0] hc' (by show _ + 3 < _; omega)) (fun _ k'' _ _ _ hc'' => ex_rtn _ _ hc'' 0))
theorem ex_qput (hc : Rd s k) (hk : k + 11 < TOPN) (r q x : Int) : Ex (Wd.qput r q x) () s k 11 :=
  ex_bnd (B1 := 4) (B2 := 7) (ex_take hc (by omega) r may2) (fun n k' _ _ _ hc' =>
    ex_bnd (B1 := 2) (B2 := 5) (ex_puts n [x, 0] hc' (by show _ + 2 < _; omega)) (fun _ k'' _ _ _ hc'' =>
      ex_bnd (B1 := 3) (B2 := 2) (ex_hang hc'' (by omega) q n) (fun _ k3 _ _ _ hc3 => ex_recount hc3 (by omega) q 1)))
theorem ex_qtake (hc : Rd s k) (hk : k + 10 < TOPN) (r q : Int) : Ex (Wd.qtake r q) (0, false) s k 10 :=
  ex_bnd (B1 := 1) (B2 := 9) (ex_get hc (by omega) _) (fun f k' _ _ _ hc' => by
    by_cases hf : f = 0
    · rw [if_pos hf]; exact ex_rtn _ _ hc' 9
    · rw [if_neg hf]
      exact ex_bnd (B1 := 2) (B2 := 7) (ex_gets _ 2 hc' (by omega)) (fun l k2 _ _ _ hc2 =>
        ex_bnd (B1 := 2) (B2 := 5) (ex_unhang hc2 (by omega) q _) (fun _ k3 _ _ _ hc3 =>
          ex_bnd (B1 := 2) (B2 := 3) (ex_recount hc3 (by omega) q _) (fun _ k4 _ _ _ hc4 =>
            ex_bnd (B1 := 3) (B2 := 0) (ex_give hc4 (by omega) r _ may2) (fun _ k5 _ _ _ hc5 => ex_rtn _ _ hc5 0)))))
theorem ex_first (hc : Rd s k) (hk : k + 2 < TOPN) (q : Int) : Ex (Wd.qfirst q) (0, false) s k 2 :=
  ex_bnd (B1 := 1) (B2 := 1) (ex_get hc (by omega) _) (fun f k' _ _ _ hc' => by
    by_cases hf : f = 0
    · rw [if_pos hf]; exact ex_rtn _ _ hc' 1
    · rw [if_neg hf]
      exact ex_bnd (B1 := 1) (B2 := 0) (ex_get hc' (by omega) _) (fun x k2 _ _ _ hc2 => ex_rtn _ _ hc2 0))
theorem ex_len (hc : Rd s k) (hk : k + 1 < TOPN) (q : Int) : Ex (Wd.qlen q) 0 s k 1 :=
  ex_bnd (B1 := 1) (B2 := 0) (ex_get hc (by omega) _) (fun f k' _ _ _ hc' => ex_rtn _ _ hc' 0)
theorem ex_chn (last : Int) : ∀ (n : Nat) (at_ to : Int) (sp : List (Int × Int)) {s : Wd} {k : Nat}, Rd s k → k + 2 * n < TOPN → Ex (chn last n at_ to sp) [] s k (2 * n)
  | 0, at_, to, sp, s, k, hc, _ => by
    unfold chn
    split
    · split
      · exact ex_rtn _ _ hc _
      · exact ex_err _ _ hc _
    · exact ex_err _ _ hc _
  | n + 1, at_, to, sp, s, k, hc, hk => by
    unfold chn
    split
    · exact ex_err _ _ hc _
    · split
      · exact ex_err _ _ hc _
      · exact ex_mono (ex_bnd (B1 := 2) (B2 := 2 * n) (ex_gets _ 2 hc (by omega)) (fun l k2 _ _ _ hc2 => ex_chn last n _ _ _ hc2 (by omega))) (by omega)
theorem chn_lenB (last : Int) : ∀ (n : Nat) (at_ to : Int) (sp : List (Int × Int)) (s : Wd), ((chn last n at_ to sp s).1.2 = 0) → (chn last n at_ to sp s).1.1.length = sp.length + n
  | 0, at_, to, sp, s, h => by
    unfold chn at h ⊢
    by_cases h1 : to = 0
    · by_cases h2 : at_ = last
      · simp only [h1, h2, if_true]; rfl
      · simp [h1, h2, err] at h
    · simp [h1, err] at h
  | n + 1, at_, to, sp, s, h => by
    unfold chn at h ⊢
    by_cases h1 : to = 0
    · simp [h1, err] at h
    · simp only [h1, if_false] at h ⊢
      split at h
      · simp [err] at h
      · rename_i h2
        rw [if_neg h2]
        unfold bnd at h ⊢
        split at h
        · rename_i h3; exact absurd h h3
        · rename_i h3
          rw [if_neg h3]
          have q := chn_lenB last n _ _ _ _ h
          rw [q]; simp; omega
theorem ex_chain (hc : Rd s k) (hk : k + 131075 < TOPN) (q : Int) : Ex (Wd.chain q) [] s k 131075 :=
  ex_bnd (B1 := 3) (B2 := 131072) (ex_gets _ 3 hc (by omega)) (fun l k' _ _ _ hc' => by
    by_cases hl : 65536 < oat l 2
    · rw [if_pos hl]; exact ex_err _ _ hc' _
    · rw [if_neg hl]
      exact ex_mono (ex_chn _ _ _ _ _ hc' (by omega)) (by omega))
theorem chain_lenB (q : Int) (s : Wd) (h : (Wd.chain q s).1.2 = 0) : (Wd.chain q s).1.1.length ≤ 65536 := by
  unfold Wd.chain bnd at h ⊢
  split at h
  · rename_i h1; exact absurd h h1
  · rename_i h1
    rw [if_neg h1]
    dsimp only at h ⊢
    by_cases hl : 65536 < oat (getsF q 3 s).1.1 2
    · simp [hl, err] at h
    · rw [if_neg hl] at h ⊢
      rw [chn_lenB _ _ _ _ _ _ h]
      simp; omega
theorem ex_gives (r : Int) : ∀ (sp : List (Int × Int)) {s : Wd} {k : Nat}, Rd s k → k + 3 * sp.length < TOPN → Ex (givesU r sp) () s k (3 * sp.length)
  | [], s, k, hc, _ => ex_rtn () () hc _
  | p :: sp, s, k, hc, hk => by
    have e : (p :: sp).length = sp.length + 1 := rfl
    rw [e] at hk ⊢
    exact ex_mono (ex_bnd (B1 := 3) (B2 := 3 * sp.length) (ex_give hc (by omega) r _ may2) (fun _ k2 _ _ _ hc2 => ex_gives r sp hc2 (by omega))) (by omega)
theorem ex_words (hc : Rd s k) (hk : k + 131075 < TOPN) (q : Int) : Ex (Wd.qwords q) [] s k 131075 :=
  ex_bnd (B1 := 131075) (B2 := 0) (ex_chain hc hk q) (fun _sp _k' _ _ _ hc' => ex_rtn _ _ hc' 0)
theorem ex_drop (hc : Rd s k) (hk : k + 400000 < TOPN) (r q : Int) : Ex (Wd.qdrop r q) () s k 400000 :=
  ex_mono (ex_bnd (B1 := 131075) (B2 := 196611) (ex_chain hc (by omega) q) (fun sp k' h _ _ hc' => by
    have hl : sp.length ≤ 65536 := by
      have q1 := chain_lenB q s (by rw [h])
      rw [h] at q1; exact q1
    exact ex_mono (ex_bnd (B1 := 3 * sp.length) (B2 := 3) (ex_gives r sp hc' (by omega)) (fun _ k2 _ _ _ hc2 => ex_give hc2 (by omega) r q may3)) (by omega))) (by omega)
end
end Go.Proofs.Ytadbplbifjeghaa
