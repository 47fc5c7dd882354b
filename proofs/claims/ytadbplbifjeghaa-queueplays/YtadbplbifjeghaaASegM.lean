
/- As ASeg, where the first operation is a move that others need not wait for; nothing of the region leaves the function. No statement of the seat is proved here. -/
import Derived.Test.YtadbplbifjeghaaASeg
import Derived.Test.YtadbplbifjeghaaATailM
namespace Go.Proofs.Ytadbplbifjeghaa
open Go

section
variable {P : Program} {ops : Array Oper} {md : Region.Mode} {C : World → Prop} {Q : Exit → Act → World → Prop}

theorem seg_quiet1 {n m2 k0 : Nat} (hs : Region.noSelect ops = true) (hlate : ∀ i t, k0 ≤ i → i < n → n ≤ t → t < ops.size → waitsN md ops ops.size t i = true) : ∀ (l : List Oper) (k : Nat) (L : Array Bool) (a : Act), k0 ≤ k → (∀ j, j < l.length → l[j]? = ops[k + j]?) → k + l.length = n → ClosedL md ops L →
    quietTo md ops n l.length k L = true → wpQuiet P ops C (fun a' => ∀ w, C w → wpAny P md ops Q m2 (setN l.length k L) a' w) l a → wpAnyM P md ops C Q n (l.length + m2) L a
  | [], k, L, a, _, _, hk, _, hB, h => by
    simp only [List.length_nil, quietTo] at hB
    simp only [List.length_nil, Nat.zero_add]
    cases m2 with
    | zero => unfold wpAnyM; exact ⟨hB, h⟩
    | succ m => unfold wpAnyM; rw [if_pos hB]; exact h
  | o :: l, k, L, a, hk0, hl, hk, hc, hB, h => by
    have h0 : ops[k]? = some o := by simpa using (hl 0 (by simp)).symm
    simp only [List.length_cons, quietTo, Bool.and_eq_true] at hB
    obtain ⟨⟨hr, hf⟩, hB'⟩ := hB
    have hkn : k < n := by simp at hk; omega
    have hst : qOp P ops C k (wpQuiet P ops C (fun a' => ∀ w, C w → wpAny P md ops Q m2 (setN l.length (k + 1) (L.setIfInBounds k true)) a' w) l) a := by unfold qOp; simp only [h0]; exact h
    obtain ⟨v, hy, hK⟩ := yieldsIn_of_qOp h0 hst
    have hr' : k ∈ Region.ready md ops L := by simpa using hr
    have := wpAnyM_first h0 (Region.noSelect_spec hs) hkn (fun t h1 h2 => hlate k t hk0 hkn h1 h2) (l.length + m2) L a hc (Region.free_spec h0 hf) hr' hy
      (seg_quiet1 hs hlate l (k + 1) _ _ (by omega) (fun j hj => by have := hl (j + 1) (by simp; omega); simpa [Nat.add_assoc, Nat.add_comm 1 j] using this) (by simp at hk; omega) (closed_step hc hr') hB' hK)
    rw [show (o :: l).length + m2 = l.length + m2 + 1 by simp; omega]
    exact this
def lateB1 (md : Region.Mode) (ops : Array Oper) (k n : Nat) : Bool := (List.range n).all fun i => (List.range ops.size).all fun t => decide (i < k) || decide (t < n) || waitsN md ops ops.size t i
def segsB1 (md : Region.Mode) (ops : Array Oper) : List (Bool × Nat) → Nat → Array Bool → Bool
  | [], k, L => lateFrom md ops (ops.size - k) k L
  | (true, m) :: r, k, L => decide (k + m ≤ ops.size) && lateB1 md ops k (k + m) && quietTo md ops (k + m) m k L && segsB1 md ops r (k + m) (setN m k L)
  | (false, m) :: r, k, L => decide (k + m ≤ ops.size) && lineTo md ops m k L && segsB1 md ops r (k + m) (setN m k L)
theorem seg_any1 (hs : Region.noSelect ops = true) : ∀ (segs : List (Bool × Nat)) (k : Nat) (L : Array Bool) (l : List Oper) (a : Act) (w : World), (∀ j, l[j]? = ops[k + j]?) → k + l.length = ops.size → ClosedL md ops L → segsB1 md ops segs k L = true → wpSeg P ops Q segs l a w → wpAny P md ops Q l.length L a w
  | [], k, L, l, a, w, hl, hk, _, hB, h => late_seq l k L a w hl (by simp only [segsB1] at hB; rw [show l.length = ops.size - k by omega]; exact hB) h
  | (true, m) :: r, k, L, l, a, w, hl, hk, hc, hB, h => by
    simp only [segsB1, Bool.and_eq_true, decide_eq_true_eq] at hB
    obtain ⟨⟨⟨h1, h2⟩, h3⟩, h4⟩ := hB
    have hlen : (l.take m).length = m := by simp; omega
    have hdl : (l.drop m).length = l.length - m := by simp
    have key := seg_quiet1 (P := P) (C := fun w' => ∃ q, w' = w.drewN q) (Q := Q) (md := md) (ops := ops) (n := k + m) (m2 := (l.drop m).length) (k0 := k) hs (fun i t hik hi ht hsz => by
      have := List.all_eq_true.1 (List.all_eq_true.1 h2 i (List.mem_range.2 hi)) t (List.mem_range.2 hsz)
      simpa [show ¬ t < k + m by omega, show ¬ i < k by omega] using this) (l.take m) k L a (Nat.le_refl _) (fun j hj => by rw [hlen] at hj; rw [List.getElem?_take_of_lt hj]; exact hl j) (by rw [hlen]) hc (by rw [hlen]; exact h3) (by
        rw [hlen]
        have cont : ∀ (a' : Act), (∀ w', (∃ q, w' = w.drewN q) → wpSeg P ops Q r (l.drop m) a' w') → ∀ w', (∃ q, w' = w.drewN q) → wpAny P md ops Q (l.drop m).length (setN m k L) a' w' := fun a' ha w' hw => seg_any1 hs r (k + m) (setN m k L) (l.drop m) a' w' (fun j => by rw [List.getElem?_drop, hl]; congr 1; omega) (by rw [hdl]; omega) (closed_quiet m k L hc h3) h4 (ha w' hw)
        exact wpQuiet_mono cont h)
    rw [hlen, show m + (l.drop m).length = l.length by rw [hdl]; omega] at key
    exact wpAny_of_M _ _ _ key w ⟨0, rfl⟩
  | (false, m) :: r, k, L, l, a, w, hl, hk, hc, hB, h => by
    simp only [segsB1, Bool.and_eq_true, decide_eq_true_eq] at hB
    obtain ⟨⟨h1, h3⟩, h4⟩ := hB
    have hlen : (l.take m).length = m := by simp; omega
    have hdl : (l.drop m).length = l.length - m := by simp
    have key := seg_line (P := P) (Q := Q) (md := md) (ops := ops) (m2 := (l.drop m).length) (R := wpSeg P ops Q r (l.drop m)) (l.take m) k L a w (fun j hj => by rw [hlen] at hj; rw [List.getElem?_take_of_lt hj]; exact hl j) (by rw [hlen]; exact h3)
      (fun a' w' ha => by rw [hlen]; exact seg_any1 hs r (k + m) (setN m k L) (l.drop m) a' w' (fun j => by rw [List.getElem?_drop, hl]; congr 1; omega) (by rw [hdl]; omega) (closed_line m k L hc h3) h4 ha) (h _ fun _ _ q => q)
    rw [hlen, show m + (l.drop m).length = l.length by rw [hdl]; omega] at key
    exact key
def segs1B (ops : Array Oper) (segs : List (Bool × Nat)) : Bool := Region.noSelect ops && decide (1 ≤ ops.size) && (Region.ready .any ops (Array.replicate ops.size false)).contains 0 && Region.free .any ops (Array.replicate ops.size false) 0 && segsB1 .any ops segs 1 ((Array.replicate ops.size false).setIfInBounds 0 true)
theorem wp_region_segs1 {id : Nat} {a : Act} {w : World} {l : List Oper} (d : Nat) (x : Operand) (o0 : Oper) (segs : List (Bool × Nat)) (hm : P.follows .mixedOrders = true) (hB : segs1B l.toArray segs = true) (h00 : l[0]? = some o0) (hop : o0.op = .move x) (hgd : o0.guard = none) (hdst : o0.dst = some d) (v0 : Value) (hv : a.eval x = v0)
    (h : ∀ q, wpSeg P l.toArray (atEndT (Q .normal)) segs (l.drop 1) (a.put (some d) v0) (w.drewN q)) : (Code.region id l.toArray true).wp P Q a w := by
  subst hv
  simp only [segs1B, Bool.and_eq_true, decide_eq_true_eq, List.size_toArray] at hB
  obtain ⟨⟨⟨⟨h1, h2⟩, hrd⟩, hfr⟩, h4⟩ := hB
  refine Code.wp_mono (Q := atEndT (Q .normal)) (fun e a w h => by cases e <;> first | exact h | exact h.elim) (wp_region_any hm ?_)
  have hr0 : 0 ∈ Region.ready .any l.toArray (Array.replicate l.length false) := by simpa using hrd
  have hdl : (l.drop 1).length = l.length - 1 := by simp
  have q := seg_any1 (P := P) (Q := atEndT (Q .normal)) (md := .any) (ops := l.toArray) h1 segs 1 ((Array.replicate l.length false).setIfInBounds 0 true) (l.drop 1) (a.put (some d) (a.eval x)) (w.drewN 1) (fun j => by rw [List.getElem?_drop]; simp) (by rw [hdl, List.size_toArray]; omega) (closed_step (closed_start _) hr0) h4 (h 1)
  rw [hdl] at q
  rw [List.size_toArray]
  have ht := wpAny_take (P := P) (md := .any) (ops := l.toArray) (Q := atEndT (Q .normal)) (i := 0) (oi := o0) (v := a.eval x) (fuel := l.length - 1) (listed := Array.replicate l.length false) (a := a) (w := w.drewN 1) (by simpa using h00) h1 hfr hrd (fun _ _ _ hh => hh.elim) (.inl ⟨by simp [Region.wanted, hgd], fun w' => by simp [execOp, hop]⟩) (by rw [hdst]; exact q)
  rwa [show l.length - 1 + 1 = l.length by omega] at ht
end
end Go.Proofs.Ytadbplbifjeghaa
