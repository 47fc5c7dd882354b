
/- A region that draws its order, whose first operations only read, with one amid them that makes memory, and whose others come behind them all, one behind the other: one walk serves every order. No statement of the seat is proved here. -/
import Derived.Test.YtadbplbifjeghaaATail
namespace Go.Proofs.Ytadbplbifjeghaa
open Go

section
variable {P : Program} {ops : Array Oper} {md : Region.Mode} {C : Bool → World → Prop} {Q : Exit → Act → World → Prop}

/-- Ahead of the memory that is made and behind it the operation yields the same. -/
def YieldsB (P : Program) (ops : Array Oper) (C : Bool → World → Prop) (o : Oper) (v : Value) (a : Act) : Prop := ∀ f, YieldsIn P ops (C f) o v a
def qOpB (P : Program) (ops : Array Oper) (C : Bool → World → Prop) (i : Nat) (K : Act → Prop) (a : Act) : Prop := ∃ o v, ops[i]? = some o ∧ YieldsB P ops C o v a ∧ K (a.put o.dst v)
def mOp (P : Program) (ops : Array Oper) (C : Bool → World → Prop) (n : Nat) (pv : Value) (K : Act → Prop) (a : Act) : Prop := ∃ o, ops[n]? = some o ∧ Region.wanted o (yielded ops a.tmps) = true ∧ (∀ w, C false w → ∃ w', (execOp a.eval o).run P w = .ok (.value pv) w' ∧ C true w') ∧ K (a.put o.dst pv)
theorem wpOp_of_qOpB {i : Nat} {f : Bool} {a : Act} {K : Act → Prop} {K' : Act → World → Prop} {Q' : Exit → Act → World → Prop} {w : World} (hC : C f w) (h : ∀ a w', C f w' → K a → K' a w') (hh : qOpB P ops C i K a) : wpOp P ops Q' i K' a w := by
  obtain ⟨o, v, hi, hy, hK⟩ := hh
  exact wpOp_of_qOp hC h ((hy f).qOp hi hK)
theorem wpOp_of_mOp {n : Nat} {pv : Value} {a : Act} {K : Act → Prop} {K' : Act → World → Prop} {Q' : Exit → Act → World → Prop} {w : World} (hC : C false w) (h : ∀ a w', C true w' → K a → K' a w') (hh : mOp P ops C n pv K a) : wpOp P ops Q' n K' a w := by
  obtain ⟨o, hi, hw, hr, hK⟩ := hh
  obtain ⟨w', hrun, hC'⟩ := hr w hC
  unfold wpOp
  simp only [hi, hw, if_true]
  refine .inl ?_
  unfold Oper.wp
  rw [hrun]
  exact h _ _ hC' hK
def wpAnyF (P : Program) (md : Region.Mode) (ops : Array Oper) (C : Bool → World → Prop) (Q : Exit → Act → World → Prop) (n : Nat) (pv : Value) : Nat → Array Bool → Act → Prop
  | 0, listed, a => earlyAll (n + 1) listed = true ∧ ∀ w, C true w → wpAny P md ops Q 0 listed a w
  | fuel + 1, listed, a => if earlyAll (n + 1) listed = true then ∀ w, C true w → wpAny P md ops Q (fuel + 1) listed a w else Region.ready md ops listed ≠ [] ∧ ∀ i ∈ Region.ready md ops listed, (i < n ∧ qOpB P ops C i (wpAnyF P md ops C Q n pv fuel (listed.setIfInBounds i true)) a) ∨ (i = n ∧ mOp P ops C n pv (wpAnyF P md ops C Q n pv fuel (listed.setIfInBounds n true)) a)
theorem early_mem {n i : Nat} {listed : Array Bool} (hi : i < n) (h : earlyAll n listed = true) : listed.getD i false = true := by
  unfold earlyAll at h
  exact List.all_eq_true.1 h i (List.mem_range.2 hi)
theorem getD_tf {listed : Array Bool} {i : Nat} (h : listed.getD i true = false) : listed.getD i false = false ∧ i < listed.size := by
  simp only [Array.getD_eq_getD_getElem?] at h ⊢
  cases hq : listed[i]? with
  | none => rw [hq] at h; simp at h
  | some b => rw [hq] at h; simp at h; exact ⟨by simp [h], (Array.getElem?_eq_some_iff.1 hq).1⟩
theorem wpAny_of_F {n : Nat} {pv : Value} : ∀ (fuel : Nat) (listed : Array Bool) (a : Act), wpAnyF P md ops C Q n pv fuel listed a → ∀ w, C (listed.getD n false) w → wpAny P md ops Q fuel listed a w
  | 0, listed, _, h, w, hw => by rw [early_mem (Nat.lt_succ_self n) h.1] at hw; exact h.2 w hw
  | fuel + 1, listed, a, h, w, hw => by
    unfold wpAnyF at h
    split at h
    · rename_i he
      rw [early_mem (Nat.lt_succ_self n) he] at hw
      exact h w hw
    · refine ⟨fun h0 => absurd h0 h.1, fun i hi => ?_⟩
      rcases h.2 i hi with ⟨hlt, hq⟩ | ⟨rfl, hm⟩
      · refine wpOp_of_qOpB hw (fun a' w' hw' hK => wpAny_of_F fuel _ a' hK w' ?_) hq
        rw [getD_set, if_neg (by omega)]
        exact hw'
      · obtain ⟨h1, h2⟩ := getD_tf (mem_ready.1 hi).1
        rw [h1] at hw
        refine wpOp_of_mOp hw (fun a' w' hw' hK => wpAny_of_F fuel _ a' hK w' ?_) hm
        rw [getD_set, if_pos ⟨rfl, h2⟩]
        exact hw'
theorem wpAnyF_first {n i : Nat} {pv : Value} {oi : Oper} {v : Value} (hi : ops[i]? = some oi) (hsel : ∀ (j : Nat) (o : Oper) cs b, ops[j]? = some o → o.op ≠ .select cs b) (hin : i < n) (hlate : ∀ t, n < t → t < ops.size → waitsN md ops ops.size t i = true) :
    ∀ (fuel : Nat) (listed : Array Bool) (a : Act), ClosedL md ops listed →
      (∀ j oj, ops[j]? = some oj → j ≠ i → listed.getD j true = false → (∀ e ∈ oj.after, Region.binds md e = true → e.on ≠ i) → oi.apart ops oj = true) →
      i ∈ Region.ready md ops listed → YieldsB P ops C oi v a →
      wpAnyF P md ops C Q n pv fuel (listed.setIfInBounds i true) (a.put oi.dst v) → wpAnyF P md ops C Q n pv (fuel + 1) listed a := by
  intro fuel
  induction fuel with
  | zero =>
    intro listed a hc _ hr hy H
    have hiu := (mem_ready.1 hr).1
    have hiz := (getD_tf hiu).1
    unfold wpAnyF
    rw [if_neg (by rw [early_not (Nat.lt_succ_of_lt hin) hiu]; exact Bool.false_ne_true)]
    refine ⟨fun h => (by rw [h] at hr; cases hr), fun j hj => ?_⟩
    obtain ⟨hjun, oj, hoj, hall⟩ := mem_ready.1 hj
    have hjn : j < n + 1 := Nat.lt_of_not_le fun hge => by
      have := closed_waits hc _ j i (fun o ho e he hb => hall e (by rw [hoj] at ho; obtain rfl := Option.some.inj ho; exact he) hb) (hlate j hge (Array.getElem?_eq_some_iff.1 hoj).1)
      rw [hiz] at this; cases this
    by_cases hji : j = i
    · subst hji; exact .inl ⟨hin, oi, v, hi, hy, H⟩
    · have h1 := H.1
      rw [early_not hjn (by rw [getD_set_ne true (Ne.symm hji)]; exact hjun)] at h1
      cases h1
  | succ fuel ih =>
    intro listed a hc hfree hr hy H
    have hiu := (mem_ready.1 hr).1
    have hiz := (getD_tf hiu).1
    unfold wpAnyF
    rw [if_neg (by rw [early_not (Nat.lt_succ_of_lt hin) hiu]; exact Bool.false_ne_true)]
    refine ⟨fun h => (by rw [h] at hr; cases hr), fun j hj => ?_⟩
    obtain ⟨hjun, oj, hoj, hall⟩ := mem_ready.1 hj
    have hjn : j < n + 1 := Nat.lt_of_not_le fun hge => by
      have := closed_waits hc _ j i (fun o ho e he hb => hall e (by rw [hoj] at ho; obtain rfl := Option.some.inj ho; exact he) hb) (hlate j hge (Array.getElem?_eq_some_iff.1 hoj).1)
      rw [hiz] at this; cases this
    by_cases hji : j = i
    · subst hji; exact .inl ⟨hin, oi, v, hi, hy, H⟩
    · unfold wpAnyF at H
      rw [if_neg (by rw [early_not hjn (by rw [getD_set_ne true (Ne.symm hji)]; exact hjun)]; exact Bool.false_ne_true)] at H
      have hnot : ∀ e ∈ oj.after, Region.binds md e = true → e.on ≠ i := fun e he hb heq => by
        have := hall e he hb
        rw [heq, hiz] at this; cases this
      obtain ⟨a1, a2, a3⟩ := Oper.apart_spec (hfree j oj hoj hji hjun hnot)
      have hsi := fun cs b => hsel i oi cs b hi
      have hsj := fun cs b => hsel j oj cs b hoj
      have hfree' : ∀ k ok, ops[k]? = some ok → k ≠ i → (listed.setIfInBounds j true).getD k true = false →
          (∀ e ∈ ok.after, Region.binds md e = true → e.on ≠ i) → oi.apart ops ok = true := fun k ok hk hki hun hno => by
        refine hfree k ok hk hki ?_ hno
        by_cases hjk : j = k
        · subst hjk; exact hjun
        · rw [getD_set_ne true hjk] at hun; exact hun
      have hyj : ∀ u, YieldsB P ops C oi v (a.put oj.dst u) := fun u f => (hy f).of_same (execOp_put oi hsi a oj.dst u a3) (wanted_put oi a oj.dst u a3)
      have hnext : ∀ u, wpAnyF P md ops C Q n pv fuel ((listed.setIfInBounds i true).setIfInBounds j true) ((a.put oi.dst v).put oj.dst u) → wpAnyF P md ops C Q n pv (fuel + 1) (listed.setIfInBounds j true) (a.put oj.dst u) := fun u hK => by
        refine ih (listed.setIfInBounds j true) _ (closed_step hc hj) hfree' (ready_mono hr (Ne.symm hji)) (hyj u) ?_
        rw [Array.setIfInBounds_comm _ _ hji, ← Act.put_comm a v u a2]
        exact hK
      rcases H.2 j (ready_mono hj hji) with ⟨hlt, o', u, ho', hu, hK⟩ | ⟨rfl, o', ho', hw, hrun, hK⟩
      · obtain rfl : oj = o' := by rw [hoj] at ho'; exact Option.some.inj ho'
        refine .inl ⟨hlt, oj, u, hoj, fun f => (hu f).of_same (execOp_put oj hsj a oi.dst v a1).symm (wanted_put oj a oi.dst v a1).symm, hnext u hK⟩
      · obtain rfl : oj = o' := by rw [hoj] at ho'; exact Option.some.inj ho'
        refine .inr ⟨rfl, oj, hoj, by rw [wanted_put oj a oi.dst v a1] at hw; exact hw, fun w hw' => ?_, hnext pv hK⟩
        have := hrun w hw'
        rwa [execOp_put oj hsj a oi.dst v a1] at this
def midFrom (md : Region.Mode) (ops : Array Oper) (n m : Nat) : Nat → Nat → Array Bool → Bool
  | 0, _, listed => (Region.ready md ops listed == [n]) && earlyAll (n + 1) (listed.setIfInBounds n true) && lateFrom md ops m (n + 1) (listed.setIfInBounds n true)
  | fuel + 1, k, listed => (Region.ready md ops listed).contains k && Region.free md ops listed k && midFrom md ops n m fuel (k + 1) (listed.setIfInBounds k true)
def wpQuietB (P : Program) (ops : Array Oper) (C : Bool → World → Prop) (aF : Act) : List Oper → Act → Prop
  | [], a => a = aF
  | o :: rest, a => ∃ v, YieldsB P ops C o v a ∧ wpQuietB P ops C aF rest (a.put o.dst v)
theorem mid_lex {k0 n : Nat} {pv : Value} {om : Oper} {aF : Act} (l2 : List Oper) (hl2 : ∀ j, l2[j]? = ops[n + 1 + j]?) (hs : Region.noSelect ops = true) (hlate : ∀ i t, k0 ≤ i → i < n → n < t → t < ops.size → waitsN md ops ops.size t i = true) (hom : ops[n]? = some om)
    (hw : Region.wanted om (yielded ops aF.tmps) = true) (hr : ∀ w, C false w → ∃ w', (execOp aF.eval om).run P w = .ok (.value pv) w' ∧ C true w') (hl : ∀ w, C true w → wpList P ops Q l2 (aF.put om.dst pv) w) :
    ∀ (l : List Oper) (k : Nat) (listed : Array Bool) (a : Act), (∀ j, j < l.length → l[j]? = ops[k + j]?) → k0 ≤ k → k + l.length = n → ClosedL md ops listed →
    midFrom md ops n l2.length l.length k listed = true → wpQuietB P ops C aF l a → wpAnyF P md ops C Q n pv (l.length + (l2.length + 1)) listed a
  | [], k, listed, a, _, _, _, _, hB, h => by
    simp only [List.length_nil, midFrom, Bool.and_eq_true, beq_iff_eq] at hB
    obtain ⟨⟨h1, h2⟩, h3⟩ := hB
    obtain rfl : a = aF := h
    have hnr : n ∈ Region.ready md ops listed := by rw [h1]; simp
    simp only [List.length_nil, Nat.zero_add]
    unfold wpAnyF
    rw [if_neg (by rw [early_not (Nat.lt_succ_self n) (mem_ready.1 hnr).1]; exact Bool.false_ne_true)]
    refine ⟨fun e => (by rw [e] at hnr; cases hnr), fun i hi => .inr ?_⟩
    obtain rfl : i = n := by rw [h1] at hi; simpa using hi
    refine ⟨rfl, om, hom, hw, hr, ?_⟩
    have := fun w hC => late_seq l2 (i + 1) (listed.setIfInBounds i true) (a.put om.dst pv) w hl2 h3 (hl w hC)
    cases hm : l2.length with
    | zero => unfold wpAnyF; rw [hm] at this; exact ⟨h2, this⟩
    | succ m => unfold wpAnyF; rw [hm] at this; rw [if_pos h2]; exact this
  | o :: l, k, listed, a, hll, hk0, hk, hc, hB, h => by
    have h0 : ops[k]? = some o := by simpa using (hll 0 (by simp)).symm
    simp only [List.length_cons, midFrom, Bool.and_eq_true] at hB
    obtain ⟨⟨hrd, hf⟩, hB'⟩ := hB
    have hkn : k < n := by simp at hk; omega
    obtain ⟨v, hy, hK⟩ := h
    have hr' : k ∈ Region.ready md ops listed := by simpa using hrd
    have := wpAnyF_first (Q := Q) (pv := pv) h0 (Region.noSelect_spec hs) hkn (fun t h1 h2 => hlate k t hk0 hkn h1 h2) (l.length + (l2.length + 1)) listed a hc (Region.free_spec h0 hf) hr' hy
      (mid_lex l2 hl2 hs hlate hom hw hr hl l (k + 1) _ _ (fun j hj => by have := hll (j + 1) (by simp; omega); simpa [Nat.add_assoc, Nat.add_comm 1 j] using this) (Nat.le_succ_of_le hk0) (by simp at hk; omega) (closed_step hc hr') hB' hK)
    rw [show (o :: l).length + (l2.length + 1) = l.length + (l2.length + 1) + 1 by simp; omega]
    exact this
theorem quiet_slot {D : World → Prop} {aF : Act} {d : Nat} : ∀ (l : List Oper) (a : Act), wpQuiet P ops D (fun a' => a' = aF) l a → (∀ o ∈ l, o.dst ≠ some d) → aF.tmps[d]? = a.tmps[d]?
  | [], a, h, _ => by rw [show a = aF from h]
  | o :: l, a, h, hd => by
    have hp : ∀ u, (a.put o.dst u).tmps[d]? = a.tmps[d]? := fun u => by
      have := hd o (by simp)
      cases ho : o.dst with
      | none => rfl
      | some e =>
        have hne : e ≠ d := fun q => this (by rw [ho, q])
        simp [Act.put, hne]
    unfold wpQuiet at h
    split at h
    · obtain ⟨v, _, h2⟩ := h
      rw [quiet_slot l _ h2 (fun o ho => hd o (by simp [ho])), hp]
    · rw [quiet_slot l _ h (fun o ho => hd o (by simp [ho])), hp]
def dstB : Nat → List Oper → Bool
  | _, [] => true
  | n, o :: l => (match o.dst with | some d => decide (d < n) && l.all (fun p => !(p.dst == some d)) | none => false) && dstB n l
theorem put_size (a : Act) (d : Option Nat) (v : Value) : (a.put d v).tmps.size = a.tmps.size := by
  cases d <;> simp [Act.put]
theorem quietB_of {aF : Act} : ∀ (l : List Oper) (a : Act), dstB a.tmps.size l = true → (∀ f, wpQuiet P ops (C f) (fun a' => a' = aF) l a) → wpQuietB P ops C aF l a
  | [], a, _, h => h false
  | o :: l, a, hd, h => by
    simp only [dstB, Bool.and_eq_true] at hd
    obtain ⟨hd1, hd2⟩ := hd
    cases ho : o.dst with
    | none => rw [ho] at hd1; cases hd1
    | some d =>
      rw [ho] at hd1
      simp only [Bool.and_eq_true, decide_eq_true_eq, List.all_eq_true] at hd1
      have hne : ∀ p ∈ l, p.dst ≠ some d := fun p hp e => by have := hd1.2 p hp; simp [e] at this
      have hx : ∀ f, ∃ v, YieldsIn P ops (C f) o v a ∧ wpQuiet P ops (C f) (fun a' => a' = aF) l (a.put (some d) v) := fun f => by
        have hf := h f
        unfold wpQuiet at hf
        split at hf
        · rename_i hw
          obtain ⟨v, h1, h2⟩ := hf
          rw [ho] at h2
          exact ⟨v, .inl ⟨hw, h1⟩, h2⟩
        · rename_i hw
          rw [ho] at hf
          exact ⟨undef, .inr ⟨by simpa using hw, rfl⟩, hf⟩
      obtain ⟨v0, y0, q0⟩ := hx false
      obtain ⟨v1, y1, q1⟩ := hx true
      have e0 := quiet_slot l _ q0 hne
      have e1 := quiet_slot l _ q1 hne
      have hv : v0 = v1 := by
        rw [e0] at e1
        simpa [Act.put, Array.getElem?_setIfInBounds, hd1.1] using e1
      subst hv
      refine ⟨v0, fun f => by cases f; exact y0; exact y1, ?_⟩
      rw [ho]
      refine quietB_of l _ (by rw [put_size]; exact hd2) (fun f => by cases f; exact q0; exact q1)
def midB (n : Nat) (ops : Array Oper) : Bool := Region.noSelect ops && ((List.range n).all fun i => (List.range ops.size).all fun t => decide (t ≤ n) || waitsN .any ops ops.size t i) && decide (n < ops.size) && midFrom .any ops n (ops.size - (n + 1)) n 0 (Array.replicate ops.size false)
theorem wp_region_mid {id : Nat} {a : Act} {w : World} {l : List Oper} (n : Nat) (w1 : World) (pv : Value) (aF : Act) (om : Oper) (hm : P.follows .mixedOrders = true) (hB : midB n l.toArray = true) (hom : l[n]? = some om) (hd : dstB a.tmps.size (l.take n) = true)
    (hq : ∀ f : Bool, wpQuiet P l.toArray (fun w' => ∃ q, w' = (if f then w1 else w).drewN q) (fun a' => a' = aF) (l.take n) a)
    (hw : Region.wanted om (yielded l.toArray aF.tmps) = true) (hr : ∀ q, (execOp aF.eval om).run P (w.drewN q) = .ok (.value pv) (w1.drewN q))
    (h : ∀ q, wpList P l.toArray Q (l.drop (n + 1)) (aF.put om.dst pv) (w1.drewN q)) : (Code.region id l.toArray true).wp P Q a w := by
  simp only [midB, Bool.and_eq_true, decide_eq_true_eq, List.size_toArray] at hB
  obtain ⟨⟨⟨h1, h2⟩, h3⟩, h4⟩ := hB
  refine wp_region_any hm ?_
  have hlen : (l.take n).length = n := by simp; omega
  have hl2 : (l.drop (n + 1)).length = l.length - (n + 1) := by simp
  have := mid_lex (P := P) (C := fun f w' => ∃ q, w' = (if f then w1 else w).drewN q) (Q := Q) (md := .any) (ops := l.toArray) (n := n) (pv := pv) (om := om) (aF := aF) (k0 := 0) (l.drop (n + 1)) (fun j => by simp) h1 (fun i t _ hi ht hs => by
    have := List.all_eq_true.1 (List.all_eq_true.1 h2 i (List.mem_range.2 hi)) t (List.mem_range.2 hs)
    simpa [show ¬ t ≤ n by omega] using this) (by simpa using hom) hw (fun W hW => by obtain ⟨q, rfl⟩ := hW; exact ⟨_, hr q, q, rfl⟩) (fun W hW => by obtain ⟨q, rfl⟩ := hW; exact h q)
    (l.take n) 0 (Array.replicate l.length false) a (fun j hj => by rw [hlen] at hj; simp [hj]) (Nat.le_refl _) (by rw [hlen]; simp) (closed_start _) (by rw [hl2, hlen]; exact h4) (quietB_of _ _ hd hq)
  rw [hlen, hl2, show n + (l.length - (n + 1) + 1) = l.length by omega] at this
  have q := wpAny_of_F _ _ _ this (w.drewN 1) (by
    have : (Array.replicate l.length false).getD n false = false := by simp only [Array.getD_eq_getD_getElem?, Array.getElem?_replicate]; split <;> rfl
    rw [this]; exact ⟨1, rfl⟩)
  rw [List.size_toArray]
  exact q
/-- As above, the frame behind the reads to be found. -/
theorem wp_region_midE {id : Nat} {a : Act} {w : World} {l : List Oper} (n : Nat) (w1 : World) (pv : Value) (om : Oper) (hm : P.follows .mixedOrders = true) (hB : midB n l.toArray = true) (hom : l[n]? = some om) (hd : dstB a.tmps.size (l.take n) = true)
    (h : ∃ aF : Act, (∀ f : Bool, wpQuiet P l.toArray (fun w' => ∃ q, w' = (if f then w1 else w).drewN q) (fun a' => a' = aF) (l.take n) a) ∧ Region.wanted om (yielded l.toArray aF.tmps) = true ∧ (∀ q, (execOp aF.eval om).run P (w.drewN q) = .ok (.value pv) (w1.drewN q)) ∧ ∀ q, wpList P l.toArray Q (l.drop (n + 1)) (aF.put om.dst pv) (w1.drewN q)) : (Code.region id l.toArray true).wp P Q a w := by
  obtain ⟨aF, h1, h2, h3, h4⟩ := h
  exact wp_region_mid n w1 pv aF om hm hB hom hd h1 h2 h3 h4
/-- As above, where the first operation is a move that the others behind need not wait for; nothing of the region leaves the function. -/
def midB1 (n : Nat) (ops : Array Oper) : Bool := Region.noSelect ops && ((List.range n).all fun i => (List.range ops.size).all fun t => decide (i < 1) || decide (t ≤ n) || waitsN .any ops ops.size t i) && decide (n < ops.size) && decide (1 ≤ n) && (Region.ready .any ops (Array.replicate ops.size false)).contains 0 && Region.free .any ops (Array.replicate ops.size false) 0 && midFrom .any ops n (ops.size - (n + 1)) (n - 1) 1 ((Array.replicate ops.size false).setIfInBounds 0 true)
def atEndT (K : Act → World → Prop) : Exit → Act → World → Prop
  | .normal, a, w => K a w
  | _, _, _ => False
theorem atEndT_n {K : Act → World → Prop} {a : Act} {w : World} (h : K a w) : atEndT K .normal a w := h
theorem wp_region_mid1 {id : Nat} {a : Act} {w : World} {l : List Oper} (n d : Nat) (x : Operand) (w1 : World) (pv : Value) (om o0 : Oper) (hm : P.follows .mixedOrders = true) (hB : midB1 n l.toArray = true) (hom : l[n]? = some om) (h00 : l[0]? = some o0) (hop : o0.op = .move x) (hgd : o0.guard = none) (hdst : o0.dst = some d) (v0 : Value) (hv : a.eval x = v0) (hd : dstB a.tmps.size ((l.take n).drop 1) = true)
    (h : ∃ aF : Act, (∀ f : Bool, wpQuiet P l.toArray (fun w' => ∃ q, w' = (if f then w1 else w).drewN q) (fun a' => a' = aF) ((l.take n).drop 1) (a.put (some d) v0)) ∧ Region.wanted om (yielded l.toArray aF.tmps) = true ∧ (∀ q, (execOp aF.eval om).run P (w.drewN q) = .ok (.value pv) (w1.drewN q)) ∧ ∀ q, wpList P l.toArray (atEndT (Q .normal)) (l.drop (n + 1)) (aF.put om.dst pv) (w1.drewN q)) : (Code.region id l.toArray true).wp P Q a w := by
  obtain ⟨aF, hq, hw, hr, h⟩ := h
  subst hv
  simp only [midB1, Bool.and_eq_true, decide_eq_true_eq, List.size_toArray] at hB
  obtain ⟨⟨⟨⟨⟨⟨h1, h2⟩, h3⟩, h3'⟩, hrd⟩, hfr⟩, h4⟩ := hB
  refine Code.wp_mono (Q := atEndT (Q .normal)) (fun e a w h => by cases e <;> first | exact h | exact h.elim) (wp_region_any hm ?_)
  have hlen : ((l.take n).drop 1).length = n - 1 := by simp; omega
  have hl2 : (l.drop (n + 1)).length = l.length - (n + 1) := by simp
  have hr0 : 0 ∈ Region.ready .any l.toArray (Array.replicate l.length false) := by simpa using hrd
  have := mid_lex (P := P) (C := fun f w' => ∃ q, w' = (if f then w1 else w).drewN q) (Q := atEndT (Q .normal)) (md := .any) (ops := l.toArray) (n := n) (pv := pv) (om := om) (aF := aF) (k0 := 1) (l.drop (n + 1)) (fun j => by simp) h1 (fun i t h0 hi ht hs => by
    have := List.all_eq_true.1 (List.all_eq_true.1 h2 i (List.mem_range.2 hi)) t (List.mem_range.2 hs)
    simpa [show ¬ t ≤ n by omega, show ¬ i < 1 by omega] using this) (by simpa using hom) hw (fun W hW => by obtain ⟨q, rfl⟩ := hW; exact ⟨_, hr q, q, rfl⟩) (fun W hW => by obtain ⟨q, rfl⟩ := hW; exact h q)
    ((l.take n).drop 1) 1 ((Array.replicate l.length false).setIfInBounds 0 true) (a.put (some d) (a.eval x)) (fun j hj => by rw [hlen] at hj; rw [List.getElem?_drop, List.getElem?_take, if_pos (by omega)]; simp) (Nat.le_refl _) (by rw [hlen]; omega) (closed_step (closed_start _) hr0) (by rw [hl2, hlen]; exact h4) (quietB_of _ _ (by rw [put_size]; exact hd) hq)
  rw [hlen, hl2, show n - 1 + (l.length - (n + 1) + 1) = l.length - 1 by omega] at this
  have q := wpAny_of_F _ _ _ this (w.drewN 1) (by
    have : ((Array.replicate l.length false).setIfInBounds 0 true).getD n false = false := by
      rw [getD_set, if_neg (by omega)]
      simp only [Array.getD_eq_getD_getElem?, Array.getElem?_replicate]; split <;> rfl
    rw [this]; exact ⟨1, rfl⟩)
  rw [List.size_toArray, show l.length = l.length - 1 + 1 by omega]
  rw [show l.length - 1 + 1 = l.length by omega]
  have ht := wpAny_take (P := P) (md := .any) (ops := l.toArray) (Q := atEndT (Q .normal)) (i := 0) (oi := o0) (v := a.eval x) (fuel := l.length - 1) (listed := Array.replicate l.length false) (a := a) (w := w.drewN 1) (by simpa using h00) h1 hfr hrd (fun _ _ _ hh => hh.elim) (.inl ⟨by simp [Region.wanted, hgd], fun w' => by simp [execOp, hop]⟩) (by rw [hdst]; exact q)
  rwa [show l.length - 1 + 1 = l.length by omega] at ht
end
end Go.Proofs.Ytadbplbifjeghaa
