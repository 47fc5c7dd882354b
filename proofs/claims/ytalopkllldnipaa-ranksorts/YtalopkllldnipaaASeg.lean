
/- A region that draws its order and falls into stretches, each of which comes behind all of the stretches ahead of it: such as only read (in any order within), and such as come one behind the other. One walk serves every order. No statement of the seat is proved here. -/
import Derived.Test.YtalopkllldnipaaATail
namespace Go.Proofs.Ytalopkllldnipaa
open Go

section
variable {P : Program} {ops : Array Oper} {md : Region.Mode} {C : World → Prop} {Q : Exit → Act → World → Prop}

theorem wpQuiet_mono {K K' : Act → Prop} (h : ∀ a, K a → K' a) : ∀ {l : List Oper} {a : Act}, wpQuiet P ops C K l a → wpQuiet P ops C K' l a
  | [], a, q => h a q
  | o :: l, a, q => by
    unfold wpQuiet at q ⊢
    split
    · rename_i hw
      rw [if_pos hw] at q
      exact Oper.quiet_mono (fun _ x => wpQuiet_mono h x) q
    · rename_i hw
      rw [if_neg hw] at q
      exact wpQuiet_mono h q
def setN : Nat → Nat → Array Bool → Array Bool
  | 0, _, L => L
  | m + 1, k, L => setN m (k + 1) (L.setIfInBounds k true)
def quietTo (md : Region.Mode) (ops : Array Oper) (n : Nat) : Nat → Nat → Array Bool → Bool
  | 0, _, L => earlyAll n L
  | m + 1, k, L => (Region.ready md ops L).contains k && Region.free md ops L k && quietTo md ops n m (k + 1) (L.setIfInBounds k true)
def lineTo (md : Region.Mode) (ops : Array Oper) : Nat → Nat → Array Bool → Bool
  | 0, _, _ => true
  | m + 1, k, L => (Region.ready md ops L == [k]) && lineTo md ops m (k + 1) (L.setIfInBounds k true)
theorem closed_quiet {n : Nat} : ∀ (m k : Nat) (L : Array Bool), ClosedL md ops L → quietTo md ops n m k L = true → ClosedL md ops (setN m k L)
  | 0, _, _, h, _ => h
  | m + 1, k, L, h, hB => by
    simp only [quietTo, Bool.and_eq_true] at hB
    exact closed_quiet m (k + 1) _ (closed_step h (by simpa using hB.1.1)) hB.2
theorem closed_line : ∀ (m k : Nat) (L : Array Bool), ClosedL md ops L → lineTo md ops m k L = true → ClosedL md ops (setN m k L)
  | 0, _, _, h, _ => h
  | m + 1, k, L, h, hB => by
    simp only [lineTo, Bool.and_eq_true, beq_iff_eq] at hB
    exact closed_line m (k + 1) _ (closed_step h (by rw [hB.1]; simp)) hB.2
theorem seg_quiet {n m2 : Nat} (hs : Region.noSelect ops = true) (hlate : ∀ i t, i < n → n ≤ t → t < ops.size → waitsN md ops ops.size t i = true) : ∀ (l : List Oper) (k : Nat) (L : Array Bool) (a : Act), (∀ j, j < l.length → l[j]? = ops[k + j]?) → k + l.length = n → ClosedL md ops L →
    quietTo md ops n l.length k L = true → wpQuiet P ops C (fun a' => ∀ w, C w → wpAny P md ops Q m2 (setN l.length k L) a' w) l a → wpAnyM P md ops C Q n (l.length + m2) L a
  | [], k, L, a, _, hk, _, hB, h => by
    simp only [List.length_nil, quietTo] at hB
    simp only [List.length_nil, Nat.zero_add]
    cases m2 with
    | zero => unfold wpAnyM; exact ⟨hB, h⟩
    | succ m => unfold wpAnyM; rw [if_pos hB]; exact h
  | o :: l, k, L, a, hl, hk, hc, hB, h => by
    have h0 : ops[k]? = some o := by simpa using (hl 0 (by simp)).symm
    simp only [List.length_cons, quietTo, Bool.and_eq_true] at hB
    obtain ⟨⟨hr, hf⟩, hB'⟩ := hB
    have hkn : k < n := by simp at hk; omega
    have hst : qOp P ops C k (wpQuiet P ops C (fun a' => ∀ w, C w → wpAny P md ops Q m2 (setN l.length (k + 1) (L.setIfInBounds k true)) a' w) l) a := by unfold qOp; simp only [h0]; exact h
    obtain ⟨v, hy, hK⟩ := yieldsIn_of_qOp h0 hst
    have hr' : k ∈ Region.ready md ops L := by simpa using hr
    have := wpAnyM_first h0 (Region.noSelect_spec hs) hkn (fun t h1 h2 => hlate k t hkn h1 h2) (l.length + m2) L a hc (Region.free_spec h0 hf) hr' hy
      (seg_quiet hs hlate l (k + 1) _ _ (fun j hj => by have := hl (j + 1) (by simp; omega); simpa [Nat.add_assoc, Nat.add_comm 1 j] using this) (by simp at hk; omega) (closed_step hc hr') hB' hK)
    rw [show (o :: l).length + m2 = l.length + m2 + 1 by simp; omega]
    exact this
theorem upon_then {o : Oper} {a : Act} {K R : Act → World → Prop} {w : World} (h : o.wp P a w K (Exit.then R Q)) : o.wp P a w K Q := by
  unfold Oper.wp at *
  generalize (execOp a.eval o).run P w = r at *
  cases r with
  | ok n w' => cases n <;> exact h
  | halt e w' => cases e <;> exact h
theorem seg_line {m2 : Nat} {R : Act → World → Prop} : ∀ (l : List Oper) (k : Nat) (L : Array Bool) (a : Act) (w : World), (∀ j, j < l.length → l[j]? = ops[k + j]?) → lineTo md ops l.length k L = true → (∀ a w, R a w → wpAny P md ops Q m2 (setN l.length k L) a w) → wpList P ops (Exit.then R Q) l a w → wpAny P md ops Q (l.length + m2) L a w
  | [], k, L, a, w, _, _, hR, h => by
    simp only [List.length_nil, Nat.zero_add]
    exact hR a w h
  | o :: l, k, L, a, w, hl, hB, hR, h => by
    have h0 : ops[k]? = some o := by simpa using (hl 0 (by simp)).symm
    simp only [List.length_cons, lineTo, Bool.and_eq_true, beq_iff_eq] at hB
    rw [show (o :: l).length + m2 = l.length + m2 + 1 by simp; omega]
    refine wpAny_all hB.1 (by simp) fun i hi => ?_
    obtain rfl : i = k := by simpa using hi
    have hn := fun a w => seg_line l (i + 1) (L.setIfInBounds i true) a w (fun j hj => by have := hl (j + 1) (by simp; omega); simpa [Nat.add_assoc, Nat.add_comm 1 j] using this) hB.2 hR
    unfold wpOp
    unfold wpList at h
    simp only [h0]
    split
    · rename_i hw
      rw [if_pos hw] at h
      exact h.imp (fun q => Oper.wp_mono (fun a w => hn a w) (upon_then q)) (fun q => q)
    · rename_i hw
      rw [if_neg hw] at h
      exact hn _ _ h
def lateB (md : Region.Mode) (ops : Array Oper) (n : Nat) : Bool := (List.range n).all fun i => (List.range ops.size).all fun t => decide (t < n) || waitsN md ops ops.size t i
def segsB (md : Region.Mode) (ops : Array Oper) : List (Bool × Nat) → Nat → Array Bool → Bool
  | [], k, L => lateFrom md ops (ops.size - k) k L
  | (true, m) :: r, k, L => decide (k + m ≤ ops.size) && lateB md ops (k + m) && quietTo md ops (k + m) m k L && segsB md ops r (k + m) (setN m k L)
  | (false, m) :: r, k, L => decide (k + m ≤ ops.size) && lineTo md ops m k L && segsB md ops r (k + m) (setN m k L)
/-- The walk, stretch by stretch. -/
def wpSeg (P : Program) (ops : Array Oper) (Q : Exit → Act → World → Prop) : List (Bool × Nat) → List Oper → Act → World → Prop
  | [], l, a, w => wpList P ops Q l a w
  | (true, m) :: r, l, a, w => wpQuiet P ops (fun w' => ∃ q, w' = w.drewN q) (fun a' => ∀ w', (∃ q, w' = w.drewN q) → wpSeg P ops Q r (l.drop m) a' w') (l.take m) a
  | (false, m) :: r, l, a, w => ∀ K : Act → World → Prop, (∀ a w, wpSeg P ops Q r (l.drop m) a w → K a w) → wpList P ops (Exit.then K Q) (l.take m) a w
theorem seg_any (hs : Region.noSelect ops = true) : ∀ (segs : List (Bool × Nat)) (k : Nat) (L : Array Bool) (l : List Oper) (a : Act) (w : World), (∀ j, l[j]? = ops[k + j]?) → k + l.length = ops.size → ClosedL md ops L → segsB md ops segs k L = true → wpSeg P ops Q segs l a w → wpAny P md ops Q l.length L a w
  | [], k, L, l, a, w, hl, hk, _, hB, h => late_seq l k L a w hl (by simp only [segsB] at hB; rw [show l.length = ops.size - k by omega]; exact hB) h
  | (true, m) :: r, k, L, l, a, w, hl, hk, hc, hB, h => by
    simp only [segsB, Bool.and_eq_true, decide_eq_true_eq] at hB
    obtain ⟨⟨⟨h1, h2⟩, h3⟩, h4⟩ := hB
    have hlen : (l.take m).length = m := by simp; omega
    have hdl : (l.drop m).length = l.length - m := by simp
    have key := seg_quiet (P := P) (C := fun w' => ∃ q, w' = w.drewN q) (Q := Q) (md := md) (ops := ops) (n := k + m) (m2 := (l.drop m).length) hs (fun i t hi ht hsz => by
      have := List.all_eq_true.1 (List.all_eq_true.1 h2 i (List.mem_range.2 hi)) t (List.mem_range.2 hsz)
      simpa [show ¬ t < k + m by omega] using this) (l.take m) k L a (fun j hj => by rw [hlen] at hj; rw [List.getElem?_take_of_lt hj]; exact hl j) (by rw [hlen]) hc (by rw [hlen]; exact h3) (by
        rw [hlen]
        have cont : ∀ (a' : Act), (∀ w', (∃ q, w' = w.drewN q) → wpSeg P ops Q r (l.drop m) a' w') → ∀ w', (∃ q, w' = w.drewN q) → wpAny P md ops Q (l.drop m).length (setN m k L) a' w' := fun a' ha w' hw => seg_any hs r (k + m) (setN m k L) (l.drop m) a' w' (fun j => by rw [List.getElem?_drop, hl]; congr 1; omega) (by rw [hdl]; omega) (closed_quiet m k L hc h3) h4 (ha w' hw)
        exact wpQuiet_mono cont h)
    rw [hlen, show m + (l.drop m).length = l.length by rw [hdl]; omega] at key
    exact wpAny_of_M _ _ _ key w ⟨0, rfl⟩
  | (false, m) :: r, k, L, l, a, w, hl, hk, hc, hB, h => by
    simp only [segsB, Bool.and_eq_true, decide_eq_true_eq] at hB
    obtain ⟨⟨h1, h3⟩, h4⟩ := hB
    have hlen : (l.take m).length = m := by simp; omega
    have hdl : (l.drop m).length = l.length - m := by simp
    have key := seg_line (P := P) (Q := Q) (md := md) (ops := ops) (m2 := (l.drop m).length) (R := wpSeg P ops Q r (l.drop m)) (l.take m) k L a w (fun j hj => by rw [hlen] at hj; rw [List.getElem?_take_of_lt hj]; exact hl j) (by rw [hlen]; exact h3)
      (fun a' w' ha => by rw [hlen]; exact seg_any hs r (k + m) (setN m k L) (l.drop m) a' w' (fun j => by rw [List.getElem?_drop, hl]; congr 1; omega) (by rw [hdl]; omega) (closed_line m k L hc h3) h4 ha) (h _ fun _ _ q => q)
    rw [hlen, show m + (l.drop m).length = l.length by rw [hdl]; omega] at key
    exact key
theorem wp_region_segs {id : Nat} {a : Act} {w : World} {l : List Oper} (segs : List (Bool × Nat)) (hm : P.follows .mixedOrders = true) (hB : (Region.noSelect l.toArray && segsB .any l.toArray segs 0 (Array.replicate l.length false)) = true)
    (h : ∀ q, wpSeg P l.toArray Q segs l a (w.drewN q)) : (Code.region id l.toArray true).wp P Q a w := by
  simp only [Bool.and_eq_true] at hB
  refine wp_region_any hm ?_
  have q := seg_any (P := P) (Q := Q) (md := .any) (ops := l.toArray) hB.1 segs 0 (Array.replicate l.length false) l a (w.drewN 1) (fun j => by simp) (by simp) (closed_start _) hB.2 (h 1)
  rw [List.size_toArray]
  exact q
end
end Go.Proofs.Ytalopkllldnipaa
