
/- A region that draws its order, whose first operations only read, and whose others come behind them all, one behind the other: one walk serves every order. No statement of the seat is proved here. -/
import Derived.Deep.QuietTactic
import Derived.BigQuiet
namespace Go.Proofs.Ytiacennkjjfifab
open Go

section
variable {P : Program} {ops : Array Oper} {md : Region.Mode} {C : World → Prop} {Q : Exit → Act → World → Prop}

/-- Number t waits for number i, maybe by way of others. -/
def waitsN (md : Region.Mode) (ops : Array Oper) : Nat → Nat → Nat → Bool
  | 0, _, _ => false
  | n + 1, t, i => match ops[t]? with
    | some o => (o.after.any fun e => Region.binds md e && e.on == i) || o.after.any fun e => Region.binds md e && waitsN md ops n e.on i
    | none => false
/-- Whatever was listed, all it waits for is listed. -/
def ClosedL (md : Region.Mode) (ops : Array Oper) (listed : Array Bool) : Prop := ∀ j oj, ops[j]? = some oj → listed.getD j false = true → ∀ e ∈ oj.after, Region.binds md e = true → listed.getD e.on false = true
theorem closed_waits {listed : Array Bool} (hc : ClosedL md ops listed) : ∀ (n t i : Nat), (∀ o, ops[t]? = some o → ∀ e ∈ o.after, Region.binds md e = true → listed.getD e.on false = true) → waitsN md ops n t i = true → listed.getD i false = true
  | 0, _, _, _, h => by simp [waitsN] at h
  | n + 1, t, i, hd, h => by
    unfold waitsN at h
    split at h
    · rename_i o ho
      simp only [Bool.or_eq_true, Array.any_eq_true', Bool.and_eq_true, beq_iff_eq] at h
      rcases h with ⟨e, he, hb, rfl⟩ | ⟨e, he, hb, hn⟩
      · exact hd o ho e he hb
      · exact closed_waits hc n e.on i (fun o' ho' => hc e.on o' ho' (hd o ho e he hb)) hn
    · simp at h
theorem getD_set (listed : Array Bool) (j k : Nat) (b : Bool) : (listed.setIfInBounds j true).getD k b = if j = k ∧ k < listed.size then true else listed.getD k b := by
  simp only [Array.getD_eq_getD_getElem?, Array.getElem?_setIfInBounds]
  by_cases h : j = k
  · subst h
    by_cases h2 : j < listed.size <;> simp [h2]
  · simp [h]
theorem closed_start (n : Nat) : ClosedL md ops (Array.replicate n false) := fun j oj _ hl => by
  simp [Array.getD_eq_getD_getElem?, Array.getElem?_replicate] at hl
  split at hl <;> simp at hl
theorem closed_step {listed : Array Bool} {j : Nat} (hc : ClosedL md ops listed) (hj : j ∈ Region.ready md ops listed) : ClosedL md ops (listed.setIfInBounds j true) := by
  intro k ok hk hl e he hb
  obtain ⟨_, oj, hoj, hall⟩ := mem_ready.1 hj
  rw [getD_set]
  split
  · rfl
  · rw [getD_set] at hl
    split at hl
    · rename_i h
      obtain ⟨rfl, _⟩ := h
      obtain rfl : oj = ok := by rw [hoj] at hk; simpa using hk
      exact hall e he hb
    · exact hc k ok hk hl e he hb
def earlyAll (n : Nat) (listed : Array Bool) : Bool := (List.range n).all fun i => listed.getD i false
theorem early_not {n i : Nat} {listed : Array Bool} (hi : i < n) (h : listed.getD i true = false) : earlyAll n listed = false := by
  unfold earlyAll
  rw [List.all_eq_false]
  refine ⟨i, List.mem_range.2 hi, ?_⟩
  simp only [Array.getD_eq_getD_getElem?] at h ⊢
  cases hq : listed[i]? with
  | none => rw [hq] at h; simp at h
  | some b => rw [hq] at h; simp at h; simp [h]
def wpAnyM (P : Program) (md : Region.Mode) (ops : Array Oper) (C : World → Prop) (Q : Exit → Act → World → Prop) (n : Nat) : Nat → Array Bool → Act → Prop
  | 0, listed, a => earlyAll n listed = true ∧ ∀ w, C w → wpAny P md ops Q 0 listed a w
  | fuel + 1, listed, a => if earlyAll n listed = true then ∀ w, C w → wpAny P md ops Q (fuel + 1) listed a w else Region.ready md ops listed ≠ [] ∧ ∀ i ∈ Region.ready md ops listed, i < n ∧ qOp P ops C i (wpAnyM P md ops C Q n fuel (listed.setIfInBounds i true)) a
theorem wpAny_of_M {n : Nat} : ∀ (fuel : Nat) (listed : Array Bool) (a : Act), wpAnyM P md ops C Q n fuel listed a → ∀ w, C w → wpAny P md ops Q fuel listed a w
  | 0, _, _, h, w, hw => h.2 w hw
  | fuel + 1, listed, a, h, w, hw => by
    unfold wpAnyM at h
    split at h
    · exact h w hw
    · exact ⟨fun h0 => absurd h0 h.1, fun i hi => wpOp_of_qOp hw (fun a' w' hw' hK => wpAny_of_M fuel _ a' hK w' hw') (h.2 i hi).2⟩
theorem wpAnyM_first {n i : Nat} {oi : Oper} {v : Value} (hi : ops[i]? = some oi) (hsel : ∀ (j : Nat) (o : Oper) cs b, ops[j]? = some o → o.op ≠ .select cs b) (hin : i < n) (hlate : ∀ t, n ≤ t → t < ops.size → waitsN md ops ops.size t i = true) :
    ∀ (fuel : Nat) (listed : Array Bool) (a : Act), ClosedL md ops listed →
      (∀ j oj, ops[j]? = some oj → j ≠ i → listed.getD j true = false → (∀ e ∈ oj.after, Region.binds md e = true → e.on ≠ i) → oi.apart ops oj = true) →
      i ∈ Region.ready md ops listed → YieldsIn P ops C oi v a →
      wpAnyM P md ops C Q n fuel (listed.setIfInBounds i true) (a.put oi.dst v) → wpAnyM P md ops C Q n (fuel + 1) listed a := by
  intro fuel
  induction fuel with
  | zero =>
    intro listed a hc _ hr hy H
    have hiu := (mem_ready.1 hr).1
    have hiz : ¬ listed.getD i false = true := fun e => by
      simp only [Array.getD_eq_getD_getElem?] at hiu e
      cases hq : listed[i]? with
      | none => rw [hq] at e; simp at e
      | some b => rw [hq] at hiu e; simp at hiu e; rw [e] at hiu; cases hiu
    unfold wpAnyM
    rw [if_neg (by rw [early_not hin hiu]; exact Bool.false_ne_true)]
    refine ⟨fun h => (by rw [h] at hr; cases hr), fun j hj => ?_⟩
    obtain ⟨hjun, oj, hoj, hall⟩ := mem_ready.1 hj
    have hjn : j < n := Nat.lt_of_not_le fun hge => hiz (closed_waits hc _ j i (fun o ho e he hb => hall e (by rw [hoj] at ho; obtain rfl := Option.some.inj ho; exact he) hb) (hlate j hge (Array.getElem?_eq_some_iff.1 hoj).1))
    refine ⟨hjn, ?_⟩
    by_cases hji : j = i
    · subst hji; exact hy.qOp hi H
    · have h1 := H.1
      rw [early_not hjn (by rw [getD_set_ne true (Ne.symm hji)]; exact hjun)] at h1
      cases h1
  | succ fuel ih =>
    intro listed a hc hfree hr hy H
    have hiu := (mem_ready.1 hr).1
    have hiz : ¬ listed.getD i false = true := fun e => by
      simp only [Array.getD_eq_getD_getElem?] at hiu e
      cases hq : listed[i]? with
      | none => rw [hq] at e; simp at e
      | some b => rw [hq] at hiu e; simp at hiu e; rw [e] at hiu; cases hiu
    unfold wpAnyM
    rw [if_neg (by rw [early_not hin hiu]; exact Bool.false_ne_true)]
    refine ⟨fun h => (by rw [h] at hr; cases hr), fun j hj => ?_⟩
    obtain ⟨hjun, oj, hoj, hall⟩ := mem_ready.1 hj
    have hjn : j < n := Nat.lt_of_not_le fun hge => hiz (closed_waits hc _ j i (fun o ho e he hb => hall e (by rw [hoj] at ho; obtain rfl := Option.some.inj ho; exact he) hb) (hlate j hge (Array.getElem?_eq_some_iff.1 hoj).1))
    refine ⟨hjn, ?_⟩
    by_cases hji : j = i
    · subst hji; exact hy.qOp hi H
    · unfold wpAnyM at H
      rw [if_neg (by rw [early_not hjn (by rw [getD_set_ne true (Ne.symm hji)]; exact hjun)]; exact Bool.false_ne_true)] at H
      have h1 := (H.2 j (ready_mono hj hji)).2
      have hnot : ∀ e ∈ oj.after, Region.binds md e = true → e.on ≠ i := fun e he hb heq => hiz (heq ▸ hall e he hb)
      have h2 := qOp_put hoj (hfree j oj hoj hji hjun hnot) (fun cs b => hsel i oi cs b hi) (fun cs b => hsel j oj cs b hoj) hy h1
      have hfree' : ∀ k ok, ops[k]? = some ok → k ≠ i → (listed.setIfInBounds j true).getD k true = false →
          (∀ e ∈ ok.after, Region.binds md e = true → e.on ≠ i) → oi.apart ops ok = true := fun k ok hk hki hun hno => by
        refine hfree k ok hk hki ?_ hno
        by_cases hjk : j = k
        · subst hjk; exact hjun
        · rw [getD_set_ne true hjk] at hun; exact hun
      refine qOp_mono (fun a' h3 => ih (listed.setIfInBounds j true) a' (closed_step hc hj) hfree' (ready_mono hr (Ne.symm hji)) h3.1 ?_) h2
      rw [Array.setIfInBounds_comm _ _ hji]
      exact h3.2
/-- The others, one behind the other. -/
def lateFrom (md : Region.Mode) (ops : Array Oper) : Nat → Nat → Array Bool → Bool
  | 0, _, listed => (Region.ready md ops listed).isEmpty
  | fuel + 1, k, listed => (Region.ready md ops listed == [k]) && lateFrom md ops fuel (k + 1) (listed.setIfInBounds k true)
def tailFrom (md : Region.Mode) (ops : Array Oper) (n m : Nat) : Nat → Nat → Array Bool → Bool
  | 0, k, listed => earlyAll n listed && lateFrom md ops m k listed
  | fuel + 1, k, listed => (Region.ready md ops listed).contains k && Region.free md ops listed k && tailFrom md ops n m fuel (k + 1) (listed.setIfInBounds k true)
theorem late_seq : ∀ (l : List Oper) (k : Nat) (listed : Array Bool) (a : Act) (w : World), (∀ j, l[j]? = ops[k + j]?) → lateFrom md ops l.length k listed = true → wpList P ops Q l a w → wpAny P md ops Q l.length listed a w
  | [], _, _, _, _, _, hB, h => ⟨by simpa [lateFrom] using hB, h⟩
  | o :: l, k, listed, a, w, hl, hB, h => by
    have h0 : ops[k]? = some o := by simpa using (hl 0).symm
    simp only [List.length_cons, lateFrom, Bool.and_eq_true, beq_iff_eq] at hB
    refine wpAny_all hB.1 (by simp) fun i hi => ?_
    obtain rfl : i = k := by simpa using hi
    have hn := fun a w => late_seq l (i + 1) (listed.setIfInBounds i true) a w (fun j => by have := hl (j + 1); simpa [Nat.add_assoc, Nat.add_comm 1 j] using this) hB.2
    unfold wpOp
    unfold wpList at h
    simp only [h0]
    split
    · rename_i hw
      rw [if_pos hw] at h
      exact h.imp (Oper.wp_mono fun a w => hn a w) id
    · rename_i hw
      rw [if_neg hw] at h
      exact hn _ _ h
theorem tail_lex {n : Nat} (l2 : List Oper) (hl2 : ∀ j, l2[j]? = ops[n + j]?) (hs : Region.noSelect ops = true) (hlate : ∀ i t, i < n → n ≤ t → t < ops.size → waitsN md ops ops.size t i = true) : ∀ (l : List Oper) (k : Nat) (listed : Array Bool) (a : Act), (∀ j, j < l.length → l[j]? = ops[k + j]?) → k + l.length = n → ClosedL md ops listed →
    tailFrom md ops n l2.length l.length k listed = true → wpQuiet P ops C (fun a' => ∀ w, C w → wpList P ops Q l2 a' w) l a → wpAnyM P md ops C Q n (l.length + l2.length) listed a
  | [], k, listed, a, _, hk, _, hB, h => by
    simp only [List.length_nil, tailFrom, Bool.and_eq_true] at hB
    obtain rfl : k = n := by simpa using hk
    have := fun w hw => late_seq l2 k listed a w hl2 hB.2 (h w hw)
    simp only [List.length_nil, Nat.zero_add]
    cases hm : l2.length with
    | zero => unfold wpAnyM; rw [hm] at this; exact ⟨hB.1, this⟩
    | succ m => unfold wpAnyM; rw [hm] at this; rw [if_pos hB.1]; exact this
  | o :: l, k, listed, a, hl, hk, hc, hB, h => by
    have h0 : ops[k]? = some o := by simpa using (hl 0 (by simp)).symm
    simp only [List.length_cons, tailFrom, Bool.and_eq_true] at hB
    obtain ⟨⟨hr, hf⟩, hB'⟩ := hB
    have hkn : k < n := by simp at hk; omega
    have hst : qOp P ops C k (wpQuiet P ops C (fun a' => ∀ w, C w → wpList P ops Q l2 a' w) l) a := by unfold qOp; simp only [h0]; exact h
    obtain ⟨v, hy, hK⟩ := yieldsIn_of_qOp h0 hst
    have hr' : k ∈ Region.ready md ops listed := by simpa using hr
    have := wpAnyM_first h0 (Region.noSelect_spec hs) hkn (fun t h1 h2 => hlate k t hkn h1 h2) (l.length + l2.length) listed a hc (Region.free_spec h0 hf) hr' hy
      (tail_lex l2 hl2 hs hlate l (k + 1) _ _ (fun j hj => by have := hl (j + 1) (by simp; omega); simpa [Nat.add_assoc, Nat.add_comm 1 j] using this) (by simp at hk; omega) (closed_step hc hr') hB' hK)
    rw [show (o :: l).length + l2.length = l.length + l2.length + 1 by simp; omega]
    exact this
def tailB (n : Nat) (ops : Array Oper) : Bool := Region.noSelect ops && ((List.range n).all fun i => (List.range ops.size).all fun t => decide (t < n) || waitsN .any ops ops.size t i) && decide (n ≤ ops.size) && tailFrom .any ops n (ops.size - n) n 0 (Array.replicate ops.size false)
theorem wp_region_tail {id : Nat} {a : Act} {w : World} {l : List Oper} (n : Nat) (hm : P.follows .mixedOrders = true) (hB : tailB n l.toArray = true)
    (h : wpQuiet P l.toArray (fun w' => ∃ q, w' = w.drewN q) (fun a' => ∀ w', (∃ q, w' = w.drewN q) → wpList P l.toArray Q (l.drop n) a' w') (l.take n) a) : (Code.region id l.toArray true).wp P Q a w := by
  simp only [tailB, Bool.and_eq_true, decide_eq_true_eq, List.size_toArray] at hB
  obtain ⟨⟨⟨h1, h2⟩, h3⟩, h4⟩ := hB
  refine wp_region_any hm ?_
  have hlen : (l.take n).length = n := by simp; omega
  have hl2 : (l.drop n).length = l.length - n := by simp
  have := tail_lex (P := P) (C := fun w' => ∃ q, w' = w.drewN q) (Q := Q) (md := .any) (ops := l.toArray) (n := n) (l.drop n) (fun j => by simp) h1 (fun i t hi ht hs => by
    have := List.all_eq_true.1 (List.all_eq_true.1 h2 i (List.mem_range.2 hi)) t (List.mem_range.2 hs)
    simpa [show ¬ t < n by omega] using this) (l.take n) 0 (Array.replicate l.length false) a (fun j hj => by rw [hlen] at hj; simp [hj]) (by rw [hlen]; simp) (closed_start _) (by rw [hl2, hlen]; exact h4) h
  rw [hlen, hl2, show n + (l.length - n) = l.length by omega] at this
  have q := wpAny_of_M _ _ _ this _ ⟨1, rfl⟩
  rw [List.size_toArray]
  exact q
end
end Go.Proofs.Ytiacennkjjfifab
